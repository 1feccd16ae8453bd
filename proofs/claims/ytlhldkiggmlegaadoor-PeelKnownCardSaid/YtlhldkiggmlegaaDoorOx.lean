import Derived.Test.YtlhldkiggmlegaaDoorOv
import Derived.Test.YtlhldkiggmlegaaDoorNi
namespace Go.Proofs.YtlhldkiggmlegaaDoor
open Go.RowKit Go.Shelf Go.Sort

/-! ## The last region of PeelKnown: its order, in parts -/
def opsOf : Code → Array Oper
  | .seq a _ => opsOf a
  | .region _ l _ => l
  | _ => #[]
def headPart (md : Region.Mode) (ops : Array Oper) : Nat → Nat → Array Bool → Bool
  | 0, _, _ => true
  | f + 1, k, listed => (Region.ready md ops listed).contains k && Region.free md ops listed k && headPart md ops f (k + 1) (listed.setIfInBounds k true)
def headDone : Nat → Nat → Array Bool → Array Bool
  | 0, _, listed => listed
  | f + 1, k, listed => headDone f (k + 1) (listed.setIfInBounds k true)
theorem lexHeadM_cut {md : Region.Mode} {ops : Array Oper} {g b : Nat} : ∀ {a k : Nat} {listed : Array Bool}, headPart md ops a k listed = true → Region.lexHeadM md ops g b (k + a) (headDone a k listed) = true → Region.lexHeadM md ops g (b + a) k listed = true
  | 0, _, _, _, h => h
  | a + 1, k, listed, h1, h2 => by
    simp only [headPart, Bool.and_eq_true] at h1
    show ((Region.ready md ops listed).contains k && Region.free md ops listed k && Region.lexHeadM md ops g (b + a) (k + 1) (listed.setIfInBounds k true)) = true
    rw [h1.1.1, h1.1.2, Bool.true_and, Bool.true_and]
    exact lexHeadM_cut h1.2 (by rw [Nat.add_right_comm k 1 a]; exact h2)
theorem headDone_add : ∀ (a b k : Nat) (l : Array Bool), headDone b (k + a) (headDone a k l) = headDone (a + b) k l
  | 0, b, k, l => by rw [Nat.zero_add]; rfl
  | a + 1, b, k, l => by
    rw [show a + 1 + b = (a + b) + 1 by omega, show k + (a + 1) = (k + 1) + a by omega]
    exact headDone_add a b (k + 1) _
theorem wp_region_tail_at {P : Program} {id : Nat} {Q : Exit → Act → World → Prop} {a : Act} {w : World} {l : List Oper} (n : Nat) (ops : Array Oper) (m : Nat) (hm : P.follows .mixedOrders = true) (e : l.toArray = ops) (em : l.length = m) (hB : Region.tailM .any ops n m (Array.replicate m false) = true)
    (h : wpQuiet P l.toArray (Grown w) (fun a' => ∀ w', Grown w w' → wpList P l.toArray Q (l.drop n) a' w') (l.take n) a) : (Code.region id l.toArray true).wp P Q a w := by
  subst e em
  exact wp_region_tail n hm hB h
noncomputable def knownOps : Array Oper := opsOf (dropSeq 10 ((Tryd.f17.body).getD .skip))
noncomputable def knownAt (n : Nat) : Array Bool := ((List.range 98).map fun j => decide (j < n)).toArray
set_option maxRecDepth 1000000 in
theorem known_p0 : headPart .any knownOps 18 0 (knownAt 0) = true := by kernel_rfl
set_option maxRecDepth 1000000 in
theorem known_p1 : headPart .any knownOps 18 18 (knownAt 18) = true := by kernel_rfl
set_option maxRecDepth 1000000 in
theorem known_p2 : headPart .any knownOps 18 36 (knownAt 36) = true := by kernel_rfl
set_option maxRecDepth 1000000 in
theorem known_p3 : headPart .any knownOps 18 54 (knownAt 54) = true := by kernel_rfl
set_option maxRecDepth 1000000 in
theorem known_p4 : headPart .any knownOps 18 72 (knownAt 72) = true := by kernel_rfl
set_option maxRecDepth 1000000 in
theorem known_p5 : Region.lexHeadM .any knownOps 8 0 90 (knownAt 90) = true := by kernel_rfl
set_option maxRecDepth 1000000 in
theorem known_d0 : knownAt 0 = Array.replicate 98 false := by kernel_rfl
set_option maxRecDepth 1000000 in
theorem known_d (n : Nat) (h : n = 0 ∨ n = 18 ∨ n = 36 ∨ n = 54 ∨ n = 72) : headDone 18 n (knownAt n) = knownAt (n + 18) := by
  rcases h with rfl | rfl | rfl | rfl | rfl <;> kernel_rfl
theorem known_head : Region.lexHeadM .any knownOps 8 90 0 (Array.replicate 98 false) = true := by
  rw [← known_d0]
  have h5 := known_p5
  have h4 := lexHeadM_cut (b := 0) known_p4 (by rw [known_d 72 (by omega)]; exact h5)
  have h3 := lexHeadM_cut (b := 0 + 18) known_p3 (by rw [known_d 54 (by omega)]; exact h4)
  have h2 := lexHeadM_cut (b := 0 + 18 + 18) known_p2 (by rw [known_d 36 (by omega)]; exact h3)
  have h1 := lexHeadM_cut (b := 0 + 18 + 18 + 18) known_p1 (by rw [known_d 18 (by omega)]; exact h2)
  exact lexHeadM_cut (b := 0 + 18 + 18 + 18 + 18) known_p0 (by rw [known_d 0 (by omega)]; exact h1)
set_option maxRecDepth 1000000 in
theorem known_size : knownOps.size = 98 := by kernel_rfl
set_option maxRecDepth 1000000 in
theorem known_parts : (Region.noSelect knownOps && Region.sinkB .any knownOps 90 && Region.chainM .any knownOps 90 98 && Region.headB .any knownOps 90 98 (Array.replicate 98 false)) = true := by kernel_rfl
theorem known_tail : Region.tailM .any knownOps 90 98 (Array.replicate 98 false) = true := by
  have h := known_parts
  have e := known_head
  simp only [Bool.and_eq_true] at h
  unfold Region.tailM
  rw [h.1.1.1, h.1.1.2, h.1.2, h.2, known_size, show (98 - 90 : Nat) = 8 from rfl, e]
  decide
end Go.Proofs.YtlhldkiggmlegaaDoor
