import Derived.Test.YtnkeikhkafbokaaBase
import Derived.Laws.OwnMore
namespace Go.Proofs.Ytnkeikhkafbokaa
open Go.RowKit

/-! ## An array of numbers in a block of its own -/
def ArrAt (W : World) (g n : Nat) (T : TypeId) (f : Nat → Int) : Prop := ∃ cs, Blk W g (.cells cs T) ∧ cs.size = n ∧ ∀ i, i < n → cs[i]? = some (.int .i64 (f i))
def updF (f : Nat → Int) (i : Nat) (v : Int) : Nat → Int := fun j => if j = i then v else f j
theorem updF_same (f : Nat → Int) (i : Nat) (v : Int) : updF f i v i = v := by unfold updF; rw [if_pos rfl]
theorem updF_other {f : Nat → Int} {i j : Nat} (v : Int) (h : j ≠ i) : updF f i v j = f j := by unfold updF; rw [if_neg h]
section
variable {W W' : World} {g n : Nat} {T : TypeId} {f : Nat → Int}
theorem ArrAt.below (h : ArrAt W g n T f) (hb : Below W.heap.size W W') : ArrAt W' g n T f := by
  obtain ⟨cs, h1, h2⟩ := h
  exact ⟨cs, h1.below hb, h2⟩
theorem ArrAt.below' {B : Nat} (h : ArrAt W g n T f) (hb : Below B W W') (hg : g < B) : ArrAt W' g n T f := by
  obtain ⟨cs, h1, h2⟩ := h
  exact ⟨cs, h1.below' hb hg, h2⟩
theorem ArrAt.lt (h : ArrAt W g n T f) : g < W.heap.size := by
  obtain ⟨cs, h1, _⟩ := h
  exact h1.lt
theorem ArrAt.cell (h : ArrAt W g n T f) {i : Nat} (hi : i < n) : W.cell? ⟨g, i, none⟩ = some (.int .i64 (f i)) := by
  obtain ⟨cs, h1, _, h3⟩ := h
  rw [h1.cell]
  exact h3 i hi
theorem ArrAt.frozen (h : ArrAt W g n T f) (i : Nat) : W.frozen? ⟨g, i, none⟩ = false := by
  obtain ⟨cs, h1, _⟩ := h
  exact h1.frozen i
theorem ArrAt.set (h : ArrAt W g n T f) (i : Nat) (v : Int) : ArrAt (W.setCell ⟨g, i, none⟩ (.int .i64 v)) g n T (updF f i v) := by
  obtain ⟨cs, h1, h2, h3⟩ := h
  refine ⟨_, h1.set (.int .i64 v), by simpa using h2, fun j hj => ?_⟩
  rw [Array.getElem?_setIfInBounds]
  unfold updF
  by_cases e : i = j
  · subst e
    rw [if_pos rfl, if_pos (by omega), if_pos rfl]
  · rw [if_neg e, if_neg (fun h => e h.symm)]
    exact h3 j hj
theorem ArrAt.other (h : ArrAt W g n T f) {b j : Nat} (hne : g ≠ b) (v : Value) : ArrAt (W.setCell ⟨b, j, none⟩ v) g n T f := by
  obtain ⟨cs, h1, h2⟩ := h
  exact ⟨cs, h1.other hne v, h2⟩
theorem ArrAt.keeps {B : Nat} (h : ArrAt W g n T f) (hb : KeepsB B W W') : ArrAt W' g n T f := by
  obtain ⟨cs, h1, h2⟩ := h
  exact ⟨cs, h1.keepsC hb, h2⟩
theorem ArrAt.same {f' : Nat → Int} (h : ArrAt W g n T f) (e : ∀ i, i < n → f' i = f i) : ArrAt W g n T f' := by
  obtain ⟨cs, h1, h2, h3⟩ := h
  exact ⟨cs, h1, h2, fun i hi => by rw [e i hi]; exact h3 i hi⟩
theorem ArrAt.ints (h : ArrAt W g n T f) (cap : Nat) : IntsAt W (.slice (some ⟨g, 0, none⟩) n cap) ((List.range n).map f) := by
  refine ⟨some ⟨g, 0, none⟩, cap, by simp, fun _ => ⟨g, 0, rfl, fun i hi => ?_⟩⟩
  simp only [List.length_map, List.length_range] at hi
  rw [Nat.zero_add, h.cell hi]
  simp
theorem ArrAt.zeros (W : World) (n : Nat) (T : TypeId) : ArrAt (W.alloc (.cells (madeCells #[.int .i64 0] n) T)) W.heap.size n T (fun _ => 0) := by
  refine ⟨_, Blk.new _ _, size_madeCells _ _, fun i hi => ?_⟩
  rw [← Array.getElem?_toList, toList_madeCells_one, List.getElem?_replicate, if_pos hi]
end
theorem Try.info64 : (Try.prog.info? 2).map (fun i => (i.zero, i.size, i.bytes)) = some (some (.int .i64 0), 1, 8) := by kernel_rfl
/-- make([]int64, n). -/
theorem make64 (n : Nat) (w : World) (hn : n ≤ 1000) : (Instr.makeSlice 39 (.int .i64 (n : Int)) (.int .i64 (n : Int))).run Try.prog w =
    .ok (.slice (some ⟨w.heap.size, 0, none⟩) n n) (w.alloc (.cells (madeCells #[.int .i64 0] n) 2)) := by
  obtain ⟨i0, hi, hz0', hz1, hz2⟩ := info_parts Try.info64
  have hmk := run_make (P := Try.prog) w 39 2 i0 (.int .i64 0) Try.underlying39 hi hz0' .i64 .i64 n n (by omega) (by omega) (by rw [hz2]; omega) (by omega)
  rw [hz1, Int.toNat_natCast, Nat.mul_one] at hmk
  exact hmk
/-- Two made at once, the one or the other first. -/
def Made2 (w : World) (n m : Nat) (g1 g2 : Nat) (w' : World) : Prop :=
  ArrAt w' g1 n 2 (fun _ => 0) ∧ ArrAt w' g2 m 2 (fun _ => 0) ∧ g1 ≠ g2 ∧ w.heap.size ≤ g1 ∧ w.heap.size ≤ g2 ∧ Below w.heap.size w w'
theorem made12 (w : World) (n m : Nat) : Made2 w n m w.heap.size (w.heap.size + 1) ((w.alloc (.cells (madeCells #[.int .i64 0] n) 2)).alloc (.cells (madeCells #[.int .i64 0] m) 2)) := by
  have h2 := ArrAt.zeros (w.alloc (.cells (madeCells #[.int .i64 0] n) 2)) m 2
  rw [World.size_alloc] at h2
  exact ⟨(ArrAt.zeros w n _).below (below1 _ _), h2, by omega, Nat.le_refl _, by omega, below2 _ _ _⟩
theorem made21 (w : World) (n m : Nat) : Made2 w n m (w.heap.size + 1) w.heap.size ((w.alloc (.cells (madeCells #[.int .i64 0] m) 2)).alloc (.cells (madeCells #[.int .i64 0] n) 2)) := by
  obtain ⟨h1, h2, h3, h4, h5, h6⟩ := made12 w m n
  exact ⟨h2, h1, by omega, h5, h4, h6⟩
end Go.Proofs.Ytnkeikhkafbokaa
