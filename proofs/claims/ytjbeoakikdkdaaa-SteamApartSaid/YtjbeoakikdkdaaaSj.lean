import Derived.Test.YtjbeoakikdkdaaaSi
import Derived.Shelf.RegionOpenPlain
import Derived.Sort.WalkB12
namespace Go.Proofs.Ytjbeoakikdkdaaa
open Go.RowKit Go.Vat Go.Sort Go.Shelf
attribute [local go_sem] Oper.semAt_some

/-! ## A list is turned round -/
def turnF (n i : Nat) (f : Nat → Int) (j : Nat) : Int := if j < i ∨ n - 1 - i < j then f (n - 1 - j) else f j
theorem turnF_zero (n : Nat) (f : Nat → Int) {j : Nat} (hj : j < n) : turnF n 0 f j = f j := by
  unfold turnF
  rw [if_neg (by omega)]
theorem turnF_step {n i : Nat} {f : Nat → Int} (h : i < n - 1 - i) : updF (updF (turnF n i f) i (turnF n i f (n - 1 - i))) (n - 1 - i) (turnF n i f i) = turnF n (i + 1) f := by
  funext j
  have e1 : turnF n i f (n - 1 - i) = f (n - 1 - i) := by unfold turnF; rw [if_neg (by omega)]
  have e2 : turnF n i f i = f i := by unfold turnF; rw [if_neg (by omega)]
  rw [e1, e2]
  unfold updF
  by_cases c1 : j = n - 1 - i
  · subst c1
    rw [if_pos rfl]
    unfold turnF
    rw [if_pos (by omega), show n - 1 - (n - 1 - i) = i by omega]
  · rw [if_neg c1]
    by_cases c2 : j = i
    · subst c2
      rw [if_pos rfl]
      unfold turnF
      rw [if_pos (by omega)]
    · rw [if_neg c2]
      unfold turnF
      by_cases c3 : j < i ∨ n - 1 - i < j
      · rw [if_pos c3, if_pos (by omega)]
      · rw [if_neg c3, if_neg (by omega)]
theorem turnF_end {n i : Nat} {f : Nat → Int} (h : ¬ i < n - 1 - i) {j : Nat} (hj : j < n) : turnF n i f j = f (n - 1 - j) := by
  unfold turnF
  by_cases c : j < i ∨ n - 1 - i < j
  · rw [if_pos c]
  · rw [if_neg c, show n - 1 - j = j by omega]
set_option maxRecDepth 100000 in
set_option maxHeartbeats 4000000 in
theorem reverse_any (g n c : Nat) (f : Nat → Int) (w : World) (hA : ArrAt w g n 2 f) (hn : n ≤ 1000) :
    Calls Try.prog 71 #[.slice (some ⟨g, 0, none⟩) n c] w fun e w' => (∃ v, e = .returned v) ∧ ArrAt w' g n 2 (fun i => f (n - 1 - i)) ∧ FrL w g w' := by
  have HA := Lib.hid hA
  have mixed : Try.prog.follows .mixedOrders = true := by kernel_rfl
  have ww : IntKind.i64.wrap ((n : Int) - 1) = (n : Int) - 1 := IntWalk.i64_in _ (by omega)
  clear hA
  go_enter Try.func71, Try.ntmps71
  go_wp2
  go_loopw [2, 3] (fun s t wr => ∃ i : Nat, (i : Int) ≤ n ∧ s = .int .i64 i ∧ t = .int .i64 ((n : Int) - 1 - i) ∧ ArrAt wr g n 2 (turnF n i f) ∧ FrL w g wr) (fun s _ _ => n - (intOf s).toNat)
  case atStart => exact ⟨0, by omega, rfl, by first | rfl | (congr 1; omega), HA.out.same fun i hi => turnF_zero n f hi, FrL.of_below (Below.refl _ _)⟩
  case round =>
    clear HA
    obtain ⟨i, hi, rfl, rfl, hA, hF⟩ := hrel
    have HF := Lib.hid hF
    have HA := Lib.hid hA
    by_cases hlt : i < n - 1 - i
    · have d1 : decide ((i : Int) < (n : Int) - 1 - i) = true := by simp; omega
      have e0 := hA.cell (i := i) (by omega)
      have e1 := hA.cell (i := n - 1 - i) (by omega)
      obtain ⟨x, hx⟩ : ∃ x, turnF n i f i = x := ⟨_, rfl⟩
      obtain ⟨z, hz⟩ : ∃ z, turnF n i f (n - 1 - i) = z := ⟨_, rfl⟩
      rw [hx] at e0
      rw [hz] at e1
      have HXZ := Lib.hid (And.intro hx hz)
      have HST := Lib.hid (turnF_step (f := f) hlt)
      obtain ⟨j, hj⟩ : ∃ j, n - 1 - i = j := ⟨_, rfl⟩
      have hji : (n : Int) - 1 - i = (j : Int) := by omega
      rw [hj] at e1 hlt
      have HJ := Lib.hid hj
      rw [hji]
      rw [hji] at d1
      have hjn : j < n := by omega
      have hin : i < n := by omega
      have HJI := Lib.hid hji
      have g0 := fun d os => cell_regrown e0 d os
      have g1 := fun d os => cell_regrown e1 d os
      have hgl := hA.lt
      have ww1 : IntKind.i64.wrap ((j : Int) - 1) = (j : Int) - 1 := IntWalk.i64_in _ (by omega)
      clear hA hF hx hz hj hji g0 g1
      have f0 := HA.out.frozen i
      have f1 := HA.out.frozen j
      go_wp2_with fail
      go_region_o
      go_wp2
      go_roundw
      case rel =>
        have hs := ((HA.out.set i z).set j x).below (Below.refl _ _).drew
        refine ⟨i + 1, by omega, by go_num, by congr 1; have := HJI.out; omega, ?_, ((HF.out.set i (.int .i64 z)).set j (.int .i64 x)).below (Below.refl _ _).drew⟩
        rw [← HST.out, HXZ.out.1, HXZ.out.2, HJ.out]
        exact hs
      case measure => simp [intOf] <;> omega
    · have d1 : decide ((i : Int) < (n : Int) - 1 - i) = false := by simp; omega
      have HE := Lib.hid (hA.same (f' := fun i => f (n - 1 - i)) fun j hj => (turnF_end hlt hj).symm)
      clear hA hF
      go_wp2
      go_end0
      exact ⟨⟨_, rfl⟩, HE.out, HF.out⟩
end Go.Proofs.Ytjbeoakikdkdaaa

namespace Go.Proofs.Ytjbeoakikdkdaaa
open Go.RowKit Go.Vat Go.Sort Go.Shelf
attribute [local go_sem] Oper.semAt_some

/-! ## A list of windows is turned round -/
def PArr (W : World) (g n c : Nat) (a b : Nat → Int) : Prop := ∃ cs T, Blk W g (.cells cs T) ∧ (n ≤ c ∧ cs.size = c * 2) ∧ ∀ i, i < n → cs[i * 2]? = some (.int .i64 (a i)) ∧ cs[i * 2 + 1]? = some (.int .i64 (b i))
section
variable {W W' : World} {g n c : Nat} {a b : Nat → Int}
theorem PArr.below (h : PArr W g n c a b) (hb : Below W.heap.size W W') : PArr W' g n c a b := by
  obtain ⟨cs, T, h1, h2⟩ := h
  exact ⟨cs, T, h1.below hb, h2⟩
theorem PArr.lt (h : PArr W g n c a b) : g < W.heap.size := by
  obtain ⟨cs, T, h1, _⟩ := h
  exact h1.lt
theorem PArr.cell (h : PArr W g n c a b) {i : Nat} (hi : i < n) : W.cell? ⟨g, i * 2, none⟩ = some (.int .i64 (a i)) ∧ W.cell? ⟨g, i * 2 + 1, none⟩ = some (.int .i64 (b i)) := by
  obtain ⟨cs, T, h1, _, h3⟩ := h
  rw [h1.cell, h1.cell]
  exact h3 i hi
theorem PArr.frozen (h : PArr W g n c a b) (i : Nat) : W.frozen? ⟨g, i, none⟩ = false := by
  obtain ⟨cs, T, h1, _⟩ := h
  exact h1.frozen i
theorem PArr.set (h : PArr W g n c a b) (i : Nat) (u v : Int) : PArr ((W.setCell ⟨g, i * 2, none⟩ (.int .i64 u)).setCell ⟨g, i * 2 + 1, none⟩ (.int .i64 v)) g n c (updF a i u) (updF b i v) := by
  obtain ⟨cs, T, h1, h2, h3⟩ := h
  refine ⟨_, T, (h1.set (.int .i64 u)).set (.int .i64 v), ⟨h2.1, by simpa using h2.2⟩, fun j hj => ?_⟩
  rw [Array.getElem?_setIfInBounds, Array.getElem?_setIfInBounds, Array.getElem?_setIfInBounds, Array.getElem?_setIfInBounds]
  obtain ⟨h4, h5⟩ := h3 j hj
  unfold updF
  by_cases e : i = j
  · subst e
    rw [if_pos rfl, if_pos rfl, if_neg (by omega), if_pos rfl, if_pos (by omega), if_pos rfl, if_pos (by simp; omega)]
    exact ⟨rfl, rfl⟩
  · rw [if_neg (show ¬ i * 2 + 1 = j * 2 by omega), if_neg (show ¬ i * 2 = j * 2 by omega), if_neg (show ¬ i * 2 + 1 = j * 2 + 1 by omega), if_neg (show ¬ i * 2 = j * 2 + 1 by omega), if_neg (fun h => e h.symm), if_neg (fun h => e h.symm)]
    exact ⟨h4, h5⟩
theorem PArr.same {a' b' : Nat → Int} (h : PArr W g n c a b) (e : ∀ i, i < n → a' i = a i ∧ b' i = b i) : PArr W g n c a' b' := by
  obtain ⟨cs, T, h1, h2, h3⟩ := h
  exact ⟨cs, T, h1, h2, fun i hi => by rw [(e i hi).1, (e i hi).2]; exact h3 i hi⟩
end
set_option maxRecDepth 100000 in
set_option maxHeartbeats 4000000 in
theorem reverseP_any (g n c : Nat) (a b : Nat → Int) (w : World) (hA : PArr w g n c a b) (hn : n ≤ 1000) :
    Calls Try.prog 85 #[.slice (some ⟨g, 0, none⟩) n c] w fun e w' => (∃ v, e = .returned v) ∧ PArr w' g n c (fun i => a (n - 1 - i)) (fun i => b (n - 1 - i)) ∧ FrL w g w' := by
  have HA := Lib.hid hA
  have mixed : Try.prog.follows .mixedOrders = true := by kernel_rfl
  have ww : IntKind.i64.wrap ((n : Int) - 1) = (n : Int) - 1 := IntWalk.i64_in _ (by omega)
  clear hA
  go_enter Try.func85, Try.ntmps85
  go_wp2
  go_loopw [2, 3] (fun s t wr => ∃ i : Nat, (i : Int) ≤ n ∧ s = .int .i64 i ∧ t = .int .i64 ((n : Int) - 1 - i) ∧ PArr wr g n c (turnF n i a) (turnF n i b) ∧ FrL w g wr) (fun s _ _ => n - (intOf s).toNat)
  case atStart => exact ⟨0, by omega, rfl, by first | rfl | (congr 1; omega), HA.out.same fun i hi => ⟨turnF_zero n a hi, turnF_zero n b hi⟩, FrL.of_below (Below.refl _ _)⟩
  case round =>
    clear HA
    obtain ⟨i, hi, rfl, rfl, hA, hF⟩ := hrel
    have HF := Lib.hid hF
    have HA := Lib.hid hA
    by_cases hlt : i < n - 1 - i
    · have d1 : decide ((i : Int) < (n : Int) - 1 - i) = true := by simp; omega
      obtain ⟨e0, e0'⟩ := hA.cell (i := i) (by omega)
      obtain ⟨e1, e1'⟩ := hA.cell (i := n - 1 - i) (by omega)
      obtain ⟨x, hx⟩ : ∃ x, turnF n i a i = x := ⟨_, rfl⟩
      obtain ⟨z, hz⟩ : ∃ z, turnF n i a (n - 1 - i) = z := ⟨_, rfl⟩
      obtain ⟨x', hx'⟩ : ∃ x, turnF n i b i = x := ⟨_, rfl⟩
      obtain ⟨z', hz'⟩ : ∃ z, turnF n i b (n - 1 - i) = z := ⟨_, rfl⟩
      rw [hx] at e0
      rw [hz] at e1
      rw [hx'] at e0'
      rw [hz'] at e1'
      have HXZ := Lib.hid (And.intro (And.intro hx hx') (And.intro hz hz'))
      have HST := Lib.hid (And.intro (turnF_step (f := a) hlt) (turnF_step (f := b) hlt))
      obtain ⟨j, hj⟩ : ∃ j, n - 1 - i = j := ⟨_, rfl⟩
      have hji : (n : Int) - 1 - i = (j : Int) := by omega
      rw [hj] at e1 e1' hlt
      have HJ := Lib.hid hj
      rw [hji]
      rw [hji] at d1
      have hjn : j < n := by omega
      have hin : i < n := by omega
      have HJI := Lib.hid hji
      have hgl := hA.lt
      have ww1 : IntKind.i64.wrap ((j : Int) - 1) = (j : Int) - 1 := IntWalk.i64_in _ (by omega)
      have f0 := HA.out.frozen (i * 2)
      have f1 := HA.out.frozen (j * 2)
      have f0' := HA.out.frozen (i * 2 + 1)
      have f1' := HA.out.frozen (j * 2 + 1)
      have n1 : j * 2 ≠ i * 2 := by omega
      have n2 : j * 2 ≠ i * 2 + 1 := by omega
      have n3 : j * 2 + 1 ≠ i * 2 := by omega
      have n4 : j * 2 + 1 ≠ i * 2 + 1 := by omega
      clear hA hF hx hz hj hji hx' hz'
      go_wp2_with fail
      go_region_o
      go_wp2
      go_roundw
      case rel =>
        have hs := ((HA.out.set i z z').set j x x').below (Below.refl _ _).drew
        refine ⟨i + 1, by omega, by go_num, by congr 1; have := HJI.out; omega, ?_, ((((HF.out.set (i * 2) (.int .i64 z)).set (i * 2 + 1) (.int .i64 z')).set (j * 2) (.int .i64 x)).set (j * 2 + 1) (.int .i64 x')).below (Below.refl _ _).drew⟩
        rw [← HST.out.1, ← HST.out.2, HXZ.out.1.1, HXZ.out.1.2, HXZ.out.2.1, HXZ.out.2.2, HJ.out]
        exact hs
      case measure => simp [intOf] <;> omega
    · have d1 : decide ((i : Int) < (n : Int) - 1 - i) = false := by simp; omega
      have HE := Lib.hid (hA.same (a' := fun i => a (n - 1 - i)) (b' := fun i => b (n - 1 - i)) fun j hj => ⟨(turnF_end hlt hj).symm, (turnF_end hlt hj).symm⟩)
      clear hA hF
      go_wp2
      go_end0
      exact ⟨⟨_, rfl⟩, HE.out, HF.out⟩
/-- The cells of a row that starts a block. -/
theorem PArr.of_blk {W : World} {g cap : Nat} {l : List (Int × Int)} {cs : Array Value} {T : TypeId} (hB : Blk W g (.cells cs T)) (hs : cs.size = cap * 2) (hn : l.length ≤ cap) (ht : cs.toList.take (l.length * 2) = pairCells l) :
    PArr W g l.length cap (fun i => (l.getD i (0, 0)).1) (fun i => (l.getD i (0, 0)).2) := by
  refine ⟨cs, T, hB, ⟨hn, hs⟩, fun i hi => ?_⟩
  obtain ⟨g1, g2⟩ := pairCells_get l i hi
  have hx : ∀ j, j < l.length * 2 → cs[j]? = (pairCells l)[j]? := fun j hj => by
    rw [← ht, List.getElem?_take, if_pos hj]; simp
  rw [hx _ (by omega), hx _ (by omega), g1, g2]
  simp [List.getD, List.getElem?_eq_getElem hi]
theorem PArr.row {W : World} {g cap : Nat} {l : List (Int × Int)} {a b : Nat → Int} (h : PArr W g l.length cap a b) (e : ∀ i (hi : i < l.length), l[i] = (a i, b i)) (hm : cap ≤ maxLen) :
    Row W (.slice (some ⟨g, 0, none⟩) l.length cap) l.length 2 (pairCells l) := by
  obtain ⟨cs, T, h1, ⟨h2, h3⟩, h4⟩ := h
  refine ⟨pairCells_length l, Or.inr ⟨g, cap, cs, T, rfl, h1, h2, hm, h3, ?_⟩⟩
  apply List.ext_getElem?
  intro j
  rw [List.getElem?_take]
  by_cases hj : j < l.length * 2
  · rw [if_pos hj]
    obtain ⟨x1, x2⟩ := h4 (j / 2) (by omega)
    obtain ⟨g1, g2⟩ := pairCells_get l (j / 2) (by omega)
    rw [e _ (by omega)] at g1 g2
    rcases Nat.mod_two_eq_zero_or_one j with m | m
    · rw [show j / 2 * 2 = j by omega] at x1 g1
      rw [g1, ← x1]; simp
    · rw [show j / 2 * 2 + 1 = j by omega] at x2 g2
      rw [g2, ← x2]; simp
  · rw [if_neg hj, List.getElem?_eq_none (by rw [pairCells_length]; omega)]
set_option maxRecDepth 100000 in
set_option maxHeartbeats 4000000 in
theorem reverseP_nil (w : World) : Calls Try.prog 85 #[.slice none 0 0] w fun e w' => (∃ v, e = .returned v) ∧ w' = w := by
  go_enter Try.func85, Try.ntmps85
  go_wp2
  go_loopw [2, 3] (fun s t wr => s = .int .i64 0 ∧ t = .int .i64 (-1) ∧ wr = w) (fun _ _ _ => 0)
  case atStart => exact ⟨rfl, rfl, rfl⟩
  case round =>
    obtain ⟨rfl, rfl, rfl⟩ := hrel
    go_wp2
    go_end0
    exact ⟨⟨_, rfl⟩, rfl⟩
set_option maxRecDepth 100000 in
set_option maxHeartbeats 4000000 in
theorem reverse_nil (w : World) : Calls Try.prog 71 #[.slice none 0 0] w fun e w' => (∃ v, e = .returned v) ∧ w' = w := by
  go_enter Try.func71, Try.ntmps71
  go_wp2
  go_loopw [2, 3] (fun s t wr => s = .int .i64 0 ∧ t = .int .i64 (-1) ∧ wr = w) (fun _ _ _ => 0)
  case atStart => exact ⟨rfl, rfl, rfl⟩
  case round =>
    obtain ⟨rfl, rfl, rfl⟩ := hrel
    go_wp2
    go_end0
    exact ⟨⟨_, rfl⟩, rfl⟩
end Go.Proofs.Ytjbeoakikdkdaaa

namespace Go.Proofs.Ytjbeoakikdkdaaa
open Go.RowKit Go.Vat Go.Sort Go.Shelf
attribute [local go_sem] Oper.semAt_some

/-! ## The yard counted back -/
/-- A row whose block is new. -/
def RowG (w : World) (B : Nat) (v : Value) (n size : Nat) (xs : List Value) : Prop := Row w v n size xs ∧ ∀ g o k c, v = .slice (some ⟨g, o, none⟩) k c → B ≤ g
theorem RowG.nil (w : World) (B size : Nat) : RowG w B (.slice none 0 0) 0 size [] := ⟨Row.nil _ _, by intro g o k c h; cases h⟩
theorem RowG.mono {w : World} {B B' : Nat} {v : Value} {n size : Nat} {xs : List Value} (h : RowG w B v n size xs) (hb : B' ≤ B) : RowG w B' v n size xs := ⟨h.1, fun g o k c e => Nat.le_trans hb (h.2 g o k c e)⟩
theorem RowG.below {w w' : World} {B : Nat} {v : Value} {n size : Nat} {xs : List Value} (h : RowG w B v n size xs) (hb : Below w.heap.size w w') : RowG w' B v n size xs := ⟨h.1.below hb, h.2⟩
theorem RowG.fr {w w' : World} {B L : Nat} {v : Value} {n size : Nat} {xs : List Value} (h : RowG w B v n size xs) (hb : FrL w L w') (hL : L < B) : RowG w' B v n size xs := by
  refine ⟨?_, h.2⟩
  obtain ⟨⟨h1, h2 | ⟨g, cap, cur, e, e1, e3, e4, e5, e6, e7⟩⟩, h3⟩ := h
  · exact ⟨h1, Or.inl h2⟩
  · exact ⟨h1, Or.inr ⟨g, cap, cur, e, e1, (hb.same g e3.lt (by have := h3 g 0 n cap e1; omega)).trans e3, e4, e5, e6, e7⟩⟩
/-- A pair more. -/
theorem pairCells_snoc (l : List (Int × Int)) (x y : Int) : pairCells (l ++ [(x, y)]) = pairCells l ++ [.int .i64 x, .int .i64 y] := by simp [pairCells]
/-- Counted back. -/
def backL (ls : List (Int × Int)) : List (Int × Int) := ls.map fun l => (100 - l.2, 100 - l.1)
theorem backL_step {ls : List (Int × Int)} {k : Nat} (h : k < ls.length) : backL (ls.take (k + 1)) = backL (ls.take k) ++ [(100 - ls[k].2, 100 - ls[k].1)] := by
  unfold backL; rw [List.take_succ_eq_append_getElem h, List.map_append, List.map_singleton]
theorem backL_length (ls : List (Int × Int)) : (backL ls).length = ls.length := by simp [backL]
theorem PairsAt.get0 {w : World} {sa : Option Addr} {n cap : Nat} {ls : List (Int × Int)} (h : PairsAt w (.slice sa n cap) ls) {k : Nat} (hk : k < ls.length) :
    ∃ b off, sa = some ⟨b, off, none⟩ ∧ b < w.heap.size ∧ w.cell? ⟨b, off + k * 2, none⟩ = some (.int .i64 ls[k].1) ∧ w.cell? ⟨b, off + k * 2 + 1, none⟩ = some (.int .i64 ls[k].2) := by
  obtain ⟨b, off, c, e, h1, h2⟩ := h.get k hk
  injection e with e1
  exact ⟨b, off, e1, lt_of_cell h1, h1, h2⟩
theorem FrL.set2 {w W : World} {L : Nat} (h : FrL w L W) (i j : Nat) (u v : Value) : FrL w L ((W.setCell ⟨L, i, none⟩ u).setCell ⟨L, j, none⟩ v) := (h.set i u).set j v
theorem FrL.trans' {w W W' : World} {L : Nat} (h : FrL w L W) (h' : FrL W L W') : FrL w L W' :=
  ⟨Nat.le_trans h.size h'.size, fun k hk hne => (h'.same k (Nat.lt_of_lt_of_le hk h.size) hne).trans (h.same k hk hne), h'.os.trans h.os, h'.tape.trans h.tape, h'.output.trans h.output⟩
theorem Blk.fr' {w W : World} {k L : Nat} {o : Obj} (h : Blk w k o) (hF : FrL w L W) (hne : k ≠ L) : Blk W k o := (hF.same k h.lt hne).trans h
theorem FrL.under {w W : World} {L B : Nat} (h : FrL w L W) (hB : B ≤ w.heap.size) (hL : B ≤ L) : Below B w W :=
  ⟨h.os, h.tape, h.output, h.size, fun k hk => h.same k (by omega) (by omega)⟩
set_option maxRecDepth 100000 in
set_option maxHeartbeats 2000000 in
theorem grownEB_any (v : Value) (n : Nat) (xs : List Value) (x y : Int) (w : World) (hrow : Row w v n 2 xs) (hn : n ≤ 1000000) :
    Calls Try.prog 84 #[v, .agg #[.int .i64 x, .int .i64 y]] w fun e w' => ∃ v', e = .returned v' ∧ RowG w' w.heap.size v' (n + 1) 2 (xs ++ [.int .i64 x, .int .i64 y]) ∧ Below w.heap.size w w' := by
  obtain ⟨a, cap, rfl, hcap, hnone, hcells, hlen⟩ := hrow.cells
  obtain ⟨i0, hi, hz0', hz1, hz2⟩ := info_parts infoE
  clear hrow
  go_enter Try.func84, Try.ntmps84
  go_wp2
  obtain ⟨W0, hW0⟩ : ∃ W0, w.alloc (.cells #[.int .i64 x, .int .i64 y] 27) = W0 := ⟨_, rfl⟩
  have hB0 : Below w.heap.size w W0 := by rw [← hW0]; exact below1 _ _
  have hcc : Blk W0 w.heap.size (.cells #[.int .i64 x, .int .i64 y] 27) := by rw [← hW0]; exact Blk.new _ _
  have hz0 : W0.heap.size = w.heap.size + 1 := by rw [← hW0]; simp
  rw [hW0]
  clear hW0
  have c0 : W0.cell? ⟨w.heap.size, 0, none⟩ = some (.int .i64 x) := by rw [hcc.cell]; simp
  have c1 : W0.cell? ⟨w.heap.size, 1, none⟩ = some (.int .i64 y) := by rw [hcc.cell]; simp
  have hn0 : ¬ (n : Int) < 0 := by omega
  have s1 := Lib.hid (show a = none → n = 0 ∧ n = 0 from fun h => ⟨(hnone h).1, (hnone h).1⟩)
  have hW : Below w.heap.size w (W0.alloc (.cells #[.int .i64 x, .int .i64 y] 27)).drew := (hB0.alloc hB0.size _).drew
  have s2 := Lib.hid (fun b (hb : a = some b) j u (hu : xs[j]? = some u) => addB (hcells b hb j u hu) hW)
  have hN : Blk (W0.alloc (.cells #[.int .i64 x, .int .i64 y] 27)).drew (w.heap.size + 1) (.cells #[.int .i64 x, .int .i64 y] 27) := by have := (Blk.new W0 (.cells #[.int .i64 x, .int .i64 y] 27)).drew; rwa [hz0] at this
  have s3 := Lib.hid (show ∀ (j : Nat) (u : Value), [Value.int .i64 x, .int .i64 y][j]? = some u → (W0.alloc (.cells #[.int .i64 x, .int .i64 y] 27)).drew.cell? ((⟨w.heap.size + 1, 0, none⟩ : Addr).add j) = some u from fun j u hu => by
    have e : (⟨w.heap.size + 1, 0, none⟩ : Addr).add j = ⟨w.heap.size + 1, j, none⟩ := by unfold Addr.add; split <;> simp_all
    rw [e, hN.cell]; simpa using hu)
  have s4 : n + 1 ≤ maxLen := by unfold maxLen; omega
  have s4' := Lib.hid s4
  have hHB := Lib.hid hB0
  have HL := Lib.hid hlen
  clear hcells hlen hnone hB0 s4 hN hW
  go_region_law (refine step_append_grows rfl (.tmp 10) (.tmp 12) 22 rfl 27 i0 (.agg #[.int .i64 0, .int .i64 0]) 2 16 Try.underlying22 hi hz0' hz1 hz2 rfl (by decide) a n n xs (by simp [Act.eval]) s1.out HL.out s2.out ⟨w.heap.size + 1, 0, none⟩ 1 1 [.int .i64 x, .int .i64 y] (by simp [Act.eval]) rfl s3.out (by simp [Value.oneCell']) (by omega) s4'.out (by omega) ?_; intro v' w' hown hgrow)
  go_wp2
  go_ret
  refine ⟨v', rfl, ⟨Row.of_owns hown, ?_⟩, hHB.out.trans ((((Below.refl _ _).alloc (Nat.le_refl _) _).drew.trans ((below_of_grown hgrow).mono (by simp))).mono (by omega))⟩
  intro g o k c e
  obtain ⟨_, ⟨h1, _⟩ | ⟨g', cap', cur, e1, e2, _⟩⟩ := hown
  · rw [h1] at e; cases e
  · rw [e1] at e; cases e; simp at e2; omega
theorem infoYd : (Try.prog.info? 24).map (·.size) = some 2 := by kernel_rfl
set_option maxRecDepth 100000 in
set_option maxHeartbeats 4000000 in
theorem countedBack_any (v : Value) (y : YardD) (w : World) (hv : YardAt w v y) (hy : y.Ok) :
    Calls Try.prog 68 #[v] w fun e w' => ∃ sv, e = .returned (.agg #[.int .i64 y.load, sv]) ∧ RowG w' w.heap.size sv y.logs.length 2 (pairCells (backL y.logs)) ∧ Below w.heap.size w w' := by
  obtain ⟨sv, rfl, hp⟩ := hv
  obtain ⟨sa, cap, rfl⟩ := hp.slice
  have hl10 := hy.count
  have HY := Lib.hid hy
  go_enter Try.func68, Try.ntmps68
  go_wp2
  obtain ⟨W0, hW0⟩ : ∃ W0, ((w.alloc (.cells #[.int .i64 y.load, .slice sa y.logs.length cap] 24)).alloc (.cells #[.int .i64 0, .slice none 0 0] 24)).alloc (.cells #[.int .i64 y.load, .slice none 0 0] 24) = W0 := ⟨_, rfl⟩
  have hB0 : Below w.heap.size w W0 := by rw [← hW0]; exact (below2 _ _ _).trans ((below1 _ _).mono (by simp; omega))
  have b1 : Blk W0 (w.heap.size + 1) (.cells #[.int .i64 0, .slice none 0 0] 24) := by
    rw [← hW0]
    have := (Blk.new (w.alloc (.cells #[.int .i64 y.load, .slice sa y.logs.length cap] 24)) (.cells #[.int .i64 0, .slice none 0 0] 24)).below (below1 _ (.cells #[.int .i64 y.load, .slice none 0 0] 24))
    rwa [World.size_alloc] at this
  have b2 : Blk W0 (w.heap.size + 2) (.cells #[.int .i64 y.load, .slice none 0 0] 24) := by
    rw [← hW0]
    have := Blk.new ((w.alloc (.cells #[.int .i64 y.load, .slice sa y.logs.length cap] 24)).alloc (.cells #[.int .i64 0, .slice none 0 0] 24)) (.cells #[.int .i64 y.load, .slice none 0 0] 24)
    simpa using this
  have hz0 : W0.heap.size = w.heap.size + 3 := by rw [← hW0]; simp
  have hP0 := fun k (hk : k < y.logs.length) => hp.get0 hk
  rw [hW0]
  clear hW0 hp
  have e2 : w.heap.size + 1 + 1 = w.heap.size + 2 := by omega
  rw [e2]
  clear e2
  have HB0 := Lib.hid hB0
  have HB1 := Lib.hid b1
  have HP0 := Lib.hid hP0
  have HZ0 := Lib.hid hz0
  obtain ⟨L, hL⟩ : ∃ L, w.heap.size + 2 = L := ⟨_, rfl⟩
  obtain ⟨R, hR⟩ : ∃ R, w.heap.size + 1 = R := ⟨_, rfl⟩
  rw [hL] at b2 ⊢
  rw [hR] at HB1 ⊢
  have HL := Lib.hid (And.intro hL hR)
  have HB2 := Lib.hid b2
  clear hB0 b1 b2 hP0 hz0 hL hR
  go_loopw [12] (fun i wr => ∃ (k : Nat) (s : Value), k ≤ y.logs.length ∧ i = .int .i64 k ∧ Blk wr L (.cells #[.int .i64 y.load, s] 24) ∧ RowG wr (L + 1) s k 2 (pairCells (backL (y.logs.take k))) ∧ FrL W0 L wr) (fun i _ => y.logs.length - (intOf i).toNat)
  case atStart => exact ⟨0, _, Nat.zero_le _, rfl, HB2.out, RowG.nil _ _ _, FrL.of_below (Below.refl _ _)⟩
  case round =>
    clear HB2
    obtain ⟨k, s, hk, rfl, hbL, hrow, hF⟩ := hrel
    obtain ⟨ra, rn, rc, rfl⟩ := hrow.1.slice
    have HR := Lib.hid hrow
    have HF := Lib.hid hF
    have HBL := Lib.hid hbL
    have cL1 := hbL.cell 1
    have cL0 := hbL.cell 0
    simp at cL1 cL0
    have hzL := hbL.lt
    have hBw := HB0.out.trans (hF.under (B := w.heap.size) (by rw [HZ0.out]; omega) (by have := HL.out.1; omega))
    have HBW := Lib.hid hBw
    clear hrow hF hbL
    by_cases hlt : k < y.logs.length
    · obtain ⟨b, off, rfl, hbw, hc, hc'⟩ := HP0.out k hlt
      replace hc := (hBw.cell (p := ⟨b, off + k * 2, none⟩) hbw).trans hc
      replace hc' := (hBw.cell (p := ⟨b, off + k * 2 + 1, none⟩) hbw).trans hc'
      have hlg := HY.out.log _ (List.getElem_mem hlt)
      have HST := Lib.hid (backL_step hlt)
      obtain ⟨l1, hl1⟩ : ∃ x, y.logs[k].1 = x := ⟨_, rfl⟩
      obtain ⟨l2, hl2⟩ : ∃ x, y.logs[k].2 = x := ⟨_, rfl⟩
      rw [hl1] at hc hlg
      rw [hl2] at hc' hlg
      have HLL := Lib.hid (And.intro hl1 hl2)
      have q1 : IntKind.i64.wrap (100 - l1) = 100 - l1 := IntWalk.i64_in _ (by omega)
      have q2 : IntKind.i64.wrap (100 - l2) = 100 - l2 := IntWalk.i64_in _ (by omega)
      have hsz := hBw.size
      have hlb : b < wr.heap.size := by omega
      clear hl1 hl2 hlg hBw
      go_wp2_with fail
      have hb1 := below1 wr (.cells #[.int .i64 l1, .int .i64 l2] 27)
      refine (grownEB_any _ k _ (100 - l2) (100 - l1) _ (HR.out.1.below hb1) (by omega)).mono ?_
      rintro e w2 ⟨v2, rfl, hr2, hb2⟩
      obtain ⟨xa, xn, xc, rfl⟩ := hr2.1.slice
      have hb12 := bC hb1 hb2
      have HBL2 := Lib.hid (HBL.out.below hb12)
      have HF2 := Lib.hid (HF.out.below hb12)
      have HR2 := Lib.hid (hr2.mono (B' := L + 1) (by simp; omega))
      have cM1 := HBL2.out.cell 1
      have cM0 := HBL2.out.cell 0
      have fM := HBL2.out.frozen 1
      simp at cM1 cM0
      have hzM := HBL2.out.lt
      clear hb1 hb2 hb12 hr2 cL0 cL1 hc hc' HBL HR HF HBW
      go_wp2
      go_roundw
      case rel => exact ⟨k + 1, _, by omega, by go_num, HBL2.out.set (.slice xa xn xc), by rw [HST.out, HLL.out.1, HLL.out.2, pairCells_snoc]; exact HR2.out.fr ((FrL.of_below (Below.refl _ _)).set 1 (.slice xa xn xc)) (by omega), HF2.out.set 1 (.slice xa xn xc)⟩
      case measure => simp [intOf] <;> omega
    · obtain rfl : k = y.logs.length := by omega
      have hRL : R ≠ L := by have := HL.out; omega
      have cR0 := (HB1.out.fr' HF.out hRL).cell 0
      have cR1 := (HB1.out.fr' HF.out hRL).cell 1
      have fR0 := (HB1.out.fr' HF.out hRL).frozen 0
      have fR1 := (HB1.out.fr' HF.out hRL).frozen 1
      simp at cR0 cR1
      have hRz := (HB1.out.fr' HF.out hRL).lt
      rw [List.take_length] at HR
      clear hBw
      go_wp2
      have hfin : Blk ((wr.setCell ⟨R, 0, none⟩ (.int .i64 y.load)).setCell ⟨R, 1, none⟩ (.slice ra rn rc)) R (.cells #[.int .i64 y.load, .slice ra rn rc] 24) := ((HB1.out.fr' HF.out hRL).set (.int .i64 y.load)).set (.slice ra rn rc)
      (try simp only [Exit.inBlock, Exit.then])
      refine bodyPost_ret (results_cell_row rfl _ _ R _ _ _ _ rfl hfin Try.underlying24 rfl infoYd) rfl ?_
      have hfr : FrL wr R ((wr.setCell ⟨R, 0, none⟩ (.int .i64 y.load)).setCell ⟨R, 1, none⟩ (.slice ra rn rc)) := ((FrL.of_below (Below.refl _ _)).set 0 _).set 1 _
      have hL1 := HL.out
      exact ⟨_, rfl, (HR.out.fr hfr (by omega)).mono (by omega), HBW.out.trans (hfr.under HBW.out.size (by omega))⟩
end Go.Proofs.Ytjbeoakikdkdaaa

namespace Go.Proofs.Ytjbeoakikdkdaaa
open Go.RowKit Go.Vat Go.Sort Go.Shelf
attribute [local go_sem] Oper.semAt_some

/-! ## The early loads -/
theorem LogsIn.of_row {w : World} {n₀ B T M : Nat} {v : Value} {ls : List (Int × Int)} {n : Nat} (h : RowG w B v n 2 (pairCells ls)) (hl : ls.length = n) (hn : n₀ = w.heap.size) (hT : T < B) (hM : M < B) : LogsIn w n₀ T M v ls := by
  subst hl
  obtain ⟨a, cap, e, hc⟩ := h.1.pairs
  refine ⟨a, cap, e, fun hne => ?_⟩
  obtain ⟨b, off, ea, hc⟩ := hc hne
  have hb := h.2 b off ls.length cap (by rw [e, ea])
  have hp : 0 < ls.length := List.length_pos_iff.2 hne
  exact ⟨b, off, ea, ⟨by rw [hn]; exact lt_of_cell (hc 0 hp).1, by omega, by omega⟩, hc⟩
theorem LaidV.pre {w : World} {T M n₀ : Nat} {y : YardD} {sv : Value} {H : Nat → Int} (h : LaidV w T M y n₀ sv H) (hy : y.Ok) : PreV w T M (U y) H := by
  obtain ⟨cs, h1, h2, _, h4, h5, h6⟩ := h.vat
  exact ⟨⟨cs, _, _, h1, h2⟩, h6, Nat.lt_of_lt_of_le h5 h.size, U_zero y, fun q _ => ⟨U_nonneg y q, by have := U_len hy q; have := hy.count; omega⟩⟩
theorem FrLM.under {w W : World} {L M B : Nat} (h : FrLM w L M W) (hB : B ≤ w.heap.size) (hL : B ≤ L) (hM : B ≤ M) : Below B w W :=
  ⟨h.os, h.tape, h.output, h.size, fun k hk => h.same k (by omega) (by omega) (by omega)⟩
/-- The first k hours are counted back. -/
def partF (f : Nat → Int) (k j : Nat) : Int := if j < k then 100 - f j else f j
theorem partF_zero (f : Nat → Int) (j : Nat) : partF f 0 j = f j := by unfold partF; rw [if_neg (by omega)]
theorem partF_step (f : Nat → Int) (k : Nat) : updF (partF f k) k (100 - f k) = partF f (k + 1) := by
  funext j
  unfold updF partF
  by_cases c : j = k
  · subst c; rw [if_pos rfl, if_pos (by omega)]
  · rw [if_neg c]
    by_cases c2 : j < k
    · rw [if_pos c2, if_pos (by omega)]
    · rw [if_neg c2, if_neg (by omega)]
theorem partF_at (f : Nat → Int) (k : Nat) : partF f k k = f k := by unfold partF; rw [if_neg (by omega)]
theorem partF_end (f : Nat → Int) {n j : Nat} (h : j < n) : partF f n j = 100 - f j := by unfold partF; rw [if_pos h]
theorem ArrAt.of_ints {W : World} {g : Nat} {l : List Int} {T : TypeId} (h : Blk W g (.cells (intCells l).toArray T)) : ArrAt W g l.length T (fun i => l.getD i 0) :=
  ⟨_, h, by simp [intCells], fun i hi => by simp [intCells, List.getD, List.getElem?_eq_getElem hi]⟩
theorem late_in (y : YardD) (k : Nat) (h : k < (lateL y).length) : 0 ≤ (lateL y).getD k 0 ∧ (lateL y).getD k 0 ≤ 100 := by
  have e : (lateL y).getD k 0 = (lateL y)[k] := by simp [List.getD, List.getElem?_eq_getElem h]
  rw [e]; exact lateL_bd h
theorem early_list (y : YardD) : (List.range (lateL (back y)).length).map (fun i => partF (fun i => (lateL (back y)).getD i 0) (lateL (back y)).length ((lateL (back y)).length - 1 - i)) = earlyL y := by
  apply List.ext_getElem
  · simp [earlyL]
  · intro i h1 h2
    rw [earlyL_get h2]
    simp only [List.length_map, List.length_range] at h1
    simp only [List.getElem_map, List.getElem_range]
    rw [partF_end _ (by omega)]
    simp [List.getD, List.getElem?_eq_getElem (show (lateL (back y)).length - 1 - i < (lateL (back y)).length by omega)]
set_option maxRecDepth 100000 in
set_option maxHeartbeats 4000000 in
theorem reverse_zero (a : Option Addr) (c : Nat) (w : World) : Calls Try.prog 71 #[.slice a 0 c] w fun e w' => (∃ v, e = .returned v) ∧ w' = w := by
  go_enter Try.func71, Try.ntmps71
  go_wp2
  go_loopw [2, 3] (fun s t wr => s = .int .i64 0 ∧ t = .int .i64 (-1) ∧ wr = w) (fun _ _ _ => 0)
  case atStart => exact ⟨rfl, rfl, rfl⟩
  case round =>
    obtain ⟨rfl, rfl, rfl⟩ := hrel
    go_wp2
    go_end0
    exact ⟨⟨_, rfl⟩, rfl⟩
set_option maxRecDepth 100000 in
set_option maxHeartbeats 1000000 in
theorem Early_err (v : Value) (y : YardD) (w : World) (hv : YardAt w v y) (hl : y.logs.length ≤ 1000000) (he : yardErr y ≠ 0) :
    Calls Try.prog 31 #[v] w fun e w' => e = .returned (.tuple #[.slice none 0 0, .int .i64 (yardErr y)]) ∧ Below w.heap.size w w' := by
  obtain ⟨sv, rfl, hp⟩ := hv
  obtain ⟨sa, cap, rfl⟩ := hp.slice
  have HP := Lib.hid hp
  have HER := Lib.hid he
  obtain ⟨E, hE⟩ : ∃ E, yardErr y = E := ⟨_, rfl⟩
  have d1 : (E != 0) = true := by rw [← hE]; simpa using he
  have HE := Lib.hid hE
  clear hp he hE
  rw [HE.out]
  go_enter Try.func31, Try.ntmps31
  go_wp2_with fail
  refine (lay_err _ y _ ⟨_, rfl, HP.out.below (below1 _ _)⟩ hl HER.out).mono ?_
  rintro e w1 ⟨rfl, hb⟩
  rw [HE.out]
  go_wp2
  go_ret2
  exact ⟨rfl, after1 hb⟩
set_option maxRecDepth 100000 in
set_option maxHeartbeats 4000000 in
theorem Early_ok (v : Value) (y : YardD) (w : World) (hv : YardAt w v y) (hy : y.Ok) :
    Calls Try.prog 31 #[v] w fun e w' => ∃ v', e = .returned (.tuple #[v', .int .i64 0]) ∧ IntsAt w' v' (earlyL y) ∧ Below w.heap.size w w' := by
  obtain ⟨sv, rfl, hp⟩ := hv
  obtain ⟨sa, cap, rfl⟩ := hp.slice
  have hB0 := below1 w (.cells #[.int .i64 y.load, .slice sa y.logs.length cap] 24)
  have HV := Lib.hid (show YardAt (w.alloc (.cells #[.int .i64 y.load, .slice sa y.logs.length cap] 24)) (.agg #[.int .i64 y.load, .slice sa y.logs.length cap]) y from ⟨_, rfl, hp.below hB0⟩)
  have HYD := Lib.hid hy
  have hl10 := hy.count
  have hbk := back_ok hy
  have HBK := Lib.hid hbk
  have hll : (lateL (back y)).length ≤ 10 := by
    have h1 := lateL_length (back y)
    have h2 := U_len hbk 101
    have h3 := hbk.count
    omega
  have HBX := Lib.hid (Blk.new w (.cells #[.int .i64 y.load, .slice sa y.logs.length cap] 24))
  have HP := Lib.hid (hp.below hB0)
  have HBD := Lib.hid (late_in (back y))
  have HEL := Lib.hid (early_list y)
  have HEQ := Lib.hid (show earlyL y = [] ↔ lateL (back y) = [] by simp [earlyL])
  obtain ⟨EL, hEL⟩ : ∃ L, earlyL y = L := ⟨_, rfl⟩
  obtain ⟨L, hLL⟩ : ∃ L, lateL (back y) = L := ⟨_, rfl⟩
  rw [hLL, hEL] at HEL HEQ
  rw [hLL] at HBD
  rw [hLL] at hll
  rw [hEL]
  have HLL := Lib.hid hLL
  clear hbk hLL hEL
  clear hp hy
  go_enter Try.func31, Try.ntmps31
  go_wp2_with fail
  generalize w.alloc (.cells #[.int .i64 y.load, .slice sa y.logs.length cap] 24) = W0 at *
  refine (lay_ok _ y _ HV.out HYD.out).mono ?_
  rintro e w1 ⟨T, M, n₀, sv, H, rfl, hL, hT, hM, hb1⟩
  have HL := Lib.hid hL
  have HB1 := Lib.hid (bC hB0 hb1)
  have HBX1 := Lib.hid (HBX.out.below hb1)
  have HP1 := Lib.hid (HP.out.below hb1)
  have x0 := HBX1.out.cell 0
  have x1 := HBX1.out.cell 1
  simp at x0 x1
  have hwz := HBX1.out.lt
  have HTM := Lib.hid (show w.heap.size ≤ T ∧ w.heap.size ≤ M from ⟨by have := hB0.size; omega, by have := hB0.size; omega⟩)
  clear hL hB0 HV hb1 HBX HP hT hM
  go_wp2_with fail
  refine (countedBack_any _ y _ ⟨_, rfl, HP1.out⟩ HYD.out).mono ?_
  rintro e w2 ⟨bv, rfl, hrb, hb2⟩
  obtain ⟨ba, bn, bc, rfl⟩ := hrb.1.slice
  have HL2 := Lib.hid (HL.out.below hb2)
  have HB2 := Lib.hid (bC HB1.out hb2)
  have hTl := HL.out.vat.lt
  have hsz1 := HL.out.size
  have HLG := Lib.hid (LogsIn.of_row (n₀ := w2.heap.size) (T := T) (M := M) (ls := (back y).logs) hrb (by simp [back]) rfl (by omega) (by omega))
  clear hrb hb2 HL HB1 HBX1 HP1 x0 x1 hTl hsz1
  go_wp2_with fail
  refine (put_any T M (.slice ba bn bc) (back y) (U y) H (nf y) (Sy y) w2 HLG.out (HL2.out.pre HYD.out) HL2.out.map HBK.out).mono ?_
  rintro e w3 ⟨⟨pv, rfl⟩, hL3, hF3⟩
  have HL3 := Lib.hid hL3
  have HB3 := Lib.hid (HB2.out.trans (hF3.under HB2.out.size HTM.out.1 HTM.out.2))
  clear hL3 hF3 HLG HL2 HB2
  go_wp2_with fail
  refine (late_any _ T M (back y) _ H _ HL3.out.vat HBK.out HL3.out.size).mono ?_
  rintro e w4 ⟨v4, rfl, hr4, hn4, hb4⟩
  rw [HLL.out] at hr4 hn4
  have HB4 := Lib.hid (bC HB3.out hb4)
  have hi4 := hr4.ints
  by_cases hnil : L = []
  · obtain rfl := hn4 hnil
    have hel := HEQ.out.2 hnil
    subst hnil hel
    clear hr4 hi4 hn4 hb4 HL3 HB3
    go_wp2_with fail
    refine (takenI0_any _).mono ?_
    rintro e w5 ⟨v5, rfl, hi5, hb5⟩
    obtain ⟨ta, tc, rfl⟩ := hi5.slice
    have HE := Lib.hid (And.intro hi5 (bC HB4.out hb5))
    clear hi5 hb5
    have e0 : ([] : List Int).length = 0 := rfl
    rw [e0] at HE ⊢
    go_wp2_with fail
    go_loopw [26] (fun i wr => i = .int .i64 0 ∧ wr = w5) (fun _ _ => 0)
    case atStart => exact ⟨rfl, rfl⟩
    case round =>
      obtain ⟨rfl, rfl⟩ := hrel
      go_wp2_with fail
      refine (reverse_zero _ _ _).mono ?_
      rintro e w6 ⟨⟨rv, rfl⟩, rfl⟩
      go_wp2
      go_ret2
      exact ⟨_, rfl, HE.out.1, HE.out.2⟩
  · obtain ⟨oa, oc, rfl⟩ := hi4.slice
    have HI4 := Lib.hid hi4
    have HNN := Lib.hid hnil
    clear hr4 hi4 hn4 hnil hb4 HL3 HB3
    go_wp2_with fail
    refine (takenI_any _ L _ HI4.out HNN.out (by omega)).mono ?_
    rintro e w5 ⟨g, gc, rfl, hg, hblk, hb5⟩
    have HA := Lib.hid (ArrAt.of_ints hblk)
    have HB5 := Lib.hid (bC HB4.out hb5)
    have HG := Lib.hid (show w.heap.size ≤ g by have := HB4.out.size; omega)
    clear hblk hb5
    go_wp2_with fail
    go_loopw [7, 8, 26] (fun _ _ i wr => ∃ k : Nat, k ≤ L.length ∧ i = .int .i64 k ∧ ArrAt wr g L.length 2 (partF (fun i => L.getD i 0) k) ∧ FrL w5 g wr) (fun _ _ i _ => L.length - (intOf i).toNat)
    case atStart => exact ⟨0, Nat.zero_le _, rfl, HA.out.same fun i _ => partF_zero _ i, FrL.of_below (Below.refl _ _)⟩
    case round =>
      clear HA
      obtain ⟨k, hk, rfl, hA, hF⟩ := hrel
      have HA := Lib.hid hA
      have HF := Lib.hid hF
      by_cases hlt : k < L.length
      · have c0 := hA.cell hlt
        have f0 := hA.frozen k
        rw [partF_at] at c0
        obtain ⟨x, hx⟩ : ∃ x, L.getD k 0 = x := ⟨_, rfl⟩
        rw [hx] at c0
        have hbd := HBD.out k hlt
        rw [hx] at hbd
        have HX := Lib.hid hx
        have q1 : IntKind.i64.wrap (100 - x) = 100 - x := IntWalk.i64_in _ (by omega)
        have hgl := hA.lt
        clear hA hF hx hbd
        go_wp2
        go_roundw
        case rel =>
          have hs := HA.out.set k (100 - x)
          refine ⟨k + 1, by omega, by go_num, ?_, HF.out.set k (.int .i64 (100 - x))⟩
          have hq := partF_step (fun i => L.getD i 0) k
          rw [HX.out] at hq
          rw [← hq]
          exact hs
        case measure => simp [intOf] <;> omega
      · obtain rfl : k = L.length := by omega
        clear hA hF
        go_wp2_with fail
        refine (reverse_any g L.length gc _ _ HA.out (by omega)).mono ?_
        rintro e w6 ⟨⟨rv, rfl⟩, hA6, hF6⟩
        have hi6 := hA6.ints gc
        rw [HEL.out] at hi6
        have hb6 : Below w.heap.size w w6 := HB5.out.trans ((HF.out.trans' hF6).under (by have := HB5.out.size; omega) HG.out)
        have HE := Lib.hid (And.intro hi6 hb6)
        clear hA6 hF6 hi6 hb6
        go_wp2
        go_ret2
        exact ⟨_, rfl, HE.out.1, HE.out.2⟩
end Go.Proofs.Ytjbeoakikdkdaaa

namespace Go.Proofs.Ytjbeoakikdkdaaa
open Go.RowKit Go.Vat Go.Sort Go.Shelf
attribute [local go_sem] Oper.semAt_some

/-! ## The yard of some logs -/
def onlyL (y : YardD) (ix : List Nat) : List (Int × Int) := ix.map fun i => y.logs.getD i (0, 0)
theorem onlyL_step (y : YardD) {ix : List Nat} {k : Nat} (h : k < ix.length) (hj : ix[k] < y.logs.length) : onlyL y (ix.take (k + 1)) = onlyL y (ix.take k) ++ [(y.logs[ix[k]].1, y.logs[ix[k]].2)] := by
  unfold onlyL
  rw [List.take_succ_eq_append_getElem h, List.map_append, List.map_singleton]
  simp [List.getD, List.getElem?_eq_getElem hj]
theorem IntsAt.getN {w : World} {sa : Option Addr} {n cap : Nat} {ix : List Nat} (h : IntsAt w (.slice sa n cap) (ix.map (Nat.cast : Nat → Int))) {k : Nat} (hk : k < ix.length) :
    ∃ b off, sa = some ⟨b, off, none⟩ ∧ b < w.heap.size ∧ w.cell? ⟨b, off + k, none⟩ = some (.int .i64 (ix[k] : Nat)) := by
  obtain ⟨b, off, c, e, h1⟩ := h.get k (by simpa using hk)
  injection e with e1
  rw [List.getElem_map] at h1
  exact ⟨b, off, e1, lt_of_cell h1, h1⟩
set_option maxRecDepth 100000 in
set_option maxHeartbeats 4000000 in
theorem only_any (v lv : Value) (y : YardD) (ix : List Nat) (w : World) (hv : YardAt w v y) (hy : y.Ok) (hi : IntsAt w lv (ix.map (Nat.cast : Nat → Int))) (hix : ∀ i ∈ ix, i < y.logs.length) (hil : ix.length ≤ 1000) :
    Calls Try.prog 74 #[v, lv] w fun e w' => ∃ sv, e = .returned (.agg #[.int .i64 y.load, sv]) ∧ RowG w' w.heap.size sv ix.length 2 (pairCells (onlyL y ix)) ∧ Below w.heap.size w w' := by
  obtain ⟨sv, rfl, hp⟩ := hv
  obtain ⟨sa, cap, rfl⟩ := hp.slice
  have hl10 := hy.count
  obtain ⟨la, lc, rfl⟩ := hi.slice
  simp only [List.length_map] at hi ⊢
  have HY := Lib.hid hy
  go_enter Try.func74, Try.ntmps74
  go_wp2
  obtain ⟨W0, hW0⟩ : ∃ W0, ((w.alloc (.cells #[.int .i64 y.load, .slice sa y.logs.length cap] 24)).alloc (.cells #[.int .i64 0, .slice none 0 0] 24)).alloc (.cells #[.int .i64 y.load, .slice none 0 0] 24) = W0 := ⟨_, rfl⟩
  have hB0 : Below w.heap.size w W0 := by rw [← hW0]; exact (below2 _ _ _).trans ((below1 _ _).mono (by simp; omega))
  have b0 : Blk W0 w.heap.size (.cells #[.int .i64 y.load, .slice sa y.logs.length cap] 24) := by
    rw [← hW0]
    exact ((Blk.new w (.cells #[.int .i64 y.load, .slice sa y.logs.length cap] 24)).below (below1 _ _)).below (below1 _ _)
  have HBX0 := Lib.hid b0
  clear b0
  have b1 : Blk W0 (w.heap.size + 1) (.cells #[.int .i64 0, .slice none 0 0] 24) := by
    rw [← hW0]
    have := (Blk.new (w.alloc (.cells #[.int .i64 y.load, .slice sa y.logs.length cap] 24)) (.cells #[.int .i64 0, .slice none 0 0] 24)).below (below1 _ (.cells #[.int .i64 y.load, .slice none 0 0] 24))
    rwa [World.size_alloc] at this
  have b2 : Blk W0 (w.heap.size + 2) (.cells #[.int .i64 y.load, .slice none 0 0] 24) := by
    rw [← hW0]
    have := Blk.new ((w.alloc (.cells #[.int .i64 y.load, .slice sa y.logs.length cap] 24)).alloc (.cells #[.int .i64 0, .slice none 0 0] 24)) (.cells #[.int .i64 y.load, .slice none 0 0] 24)
    simpa using this
  have hz0 : W0.heap.size = w.heap.size + 3 := by rw [← hW0]; simp
  have hP0 := fun k (hk : k < y.logs.length) => hp.get0 hk
  have hI0 := fun k (hk : k < ix.length) => IntsAt.getN hi hk
  rw [hW0]
  clear hW0 hp hi
  have e2 : w.heap.size + 1 + 1 = w.heap.size + 2 := by omega
  rw [e2]
  clear e2
  have HB0 := Lib.hid hB0
  have HB1 := Lib.hid b1
  have HP0 := Lib.hid hP0
  have HI0 := Lib.hid hI0
  have HIX := Lib.hid hix
  have HZ0 := Lib.hid hz0
  obtain ⟨L, hL⟩ : ∃ L, w.heap.size + 2 = L := ⟨_, rfl⟩
  obtain ⟨R, hR⟩ : ∃ R, w.heap.size + 1 = R := ⟨_, rfl⟩
  rw [hL] at b2 ⊢
  rw [hR] at HB1 ⊢
  have HL := Lib.hid (And.intro hL hR)
  have HB2 := Lib.hid b2
  clear hB0 b1 b2 hP0 hI0 hix hz0 hL hR
  go_loopw [7, 13] (fun _ i wr => ∃ (k : Nat) (s : Value), k ≤ ix.length ∧ i = .int .i64 k ∧ Blk wr L (.cells #[.int .i64 y.load, s] 24) ∧ RowG wr (L + 1) s k 2 (pairCells (onlyL y (ix.take k))) ∧ FrL W0 L wr) (fun _ i _ => ix.length - (intOf i).toNat)
  case atStart => exact ⟨0, _, Nat.zero_le _, rfl, HB2.out, RowG.nil _ _ _, FrL.of_below (Below.refl _ _)⟩
  case round =>
    clear HB2
    obtain ⟨k, s, hk, rfl, hbL, hrow, hF⟩ := hrel
    obtain ⟨ra, rn, rc, rfl⟩ := hrow.1.slice
    have HR := Lib.hid hrow
    have HF := Lib.hid hF
    have HF0 := Lib.hid hF
    have HBL := Lib.hid hbL
    have cL1 := hbL.cell 1
    have cL0 := hbL.cell 0
    simp at cL1 cL0
    have hzL := hbL.lt
    have hBw := HB0.out.trans (hF.under (B := w.heap.size) (by rw [HZ0.out]; omega) (by have := HL.out.1; omega))
    have HBW := Lib.hid hBw
    clear hrow hF hbL
    by_cases hlt : k < ix.length
    · obtain ⟨b', off', rfl, hbw', hd⟩ := HI0.out k hlt
      replace hd := (hBw.cell (p := ⟨b', off' + k, none⟩) hbw').trans hd
      have hjl := HIX.out _ (List.getElem_mem hlt)
      have HST := Lib.hid (onlyL_step y hlt hjl)
      obtain ⟨j, hj⟩ : ∃ j, ix[k] = j := ⟨_, rfl⟩
      have HJ := Lib.hid hj
      rw [hj] at hd
      replace hjl : j < y.logs.length := by rw [← hj]; exact hjl
      have HSJ := Lib.hid (show onlyL y (ix.take (k + 1)) = onlyL y (ix.take k) ++ [(y.logs[j].1, y.logs[j].2)] by rw [HST.out]; simp [hj])
      obtain ⟨b, off, rfl, hbw, hc, hc'⟩ := HP0.out j hjl
      replace hc := (hBw.cell (p := ⟨b, off + j * 2, none⟩) hbw).trans hc
      replace hc' := (hBw.cell (p := ⟨b, off + j * 2 + 1, none⟩) hbw).trans hc'
      have hbx := HBX0.out.fr' HF0.out (show w.heap.size ≠ L by have := HL.out.1; omega)
      have cB1 := hbx.cell 1
      have hbxl := hbx.lt
      simp at cB1
      have hlg := HY.out.log _ (List.getElem_mem hjl)
      obtain ⟨l1, hl1⟩ : ∃ x, y.logs[j].1 = x := ⟨_, rfl⟩
      obtain ⟨l2, hl2⟩ : ∃ x, y.logs[j].2 = x := ⟨_, rfl⟩
      rw [hl1] at hc hlg
      rw [hl2] at hc' hlg
      have HLL := Lib.hid (And.intro hl1 hl2)
      have q1 : IntKind.i64.wrap (100 - l1) = 100 - l1 := IntWalk.i64_in _ (by omega)
      have q2 : IntKind.i64.wrap (100 - l2) = 100 - l2 := IntWalk.i64_in _ (by omega)
      have hsz := hBw.size
      have hlb : b < wr.heap.size := by omega
      clear hl1 hl2 hlg hBw
      go_wp2_with fail
      have g0 := fun d os => cell_regrown cL1 d os
      have g1 := fun d os => cell_regrown cB1 d os
      have g2 := fun d os => cell_regrown hc d os
      have g3 := fun d os => cell_regrown hc' d os
      have lj : (j : Int) < y.logs.length := by omega
      have lj0 : (0 : Int) ≤ j := by omega
      clear hj hbx hd HST HI0 HP0 HBX0 HF0 HBW cL0 cL1 cB1 hc hc' q1 q2
      refine wp_region_tail 7 (by kernel_rfl) (by kernel_rfl) ?_
      repeat (quiet_step (fail))
      refine wpQuiet_nil ?_
      intro _ hw'
      obtain ⟨⟨dq, osq⟩, hw''⟩ := hw'
      subst hw''
      simp only [List.drop_succ_cons, List.drop_zero]
      have hb8 := below_regrown wr dq osq
      have HR8 := Lib.hid (HR.out.below hb8)
      have HF8 := Lib.hid (HF.out.below hb8)
      have HBL8 := Lib.hid (HBL.out.below hb8)
      have hz8 := hb8.size
      clear g0 g1 g2 g3 hb8 HR HF HBL
      generalize grow (redrawn wr dq) osq = w9 at *
      go_wp2_with fail
      refine (grownEB_any _ k _ l1 l2 _ HR8.out.1 (by omega)).mono ?_
      rintro e w2 ⟨v2, rfl, hr2, hb2⟩
      obtain ⟨xa, xn, xc, rfl⟩ := hr2.1.slice
      have HBL2 := Lib.hid (HBL8.out.below hb2)
      have HF2 := Lib.hid (HF8.out.below hb2)
      have HR2 := Lib.hid (hr2.mono (B' := L + 1) (by omega))
      have cM1 := HBL2.out.cell 1
      have cM0 := HBL2.out.cell 0
      have fM := HBL2.out.frozen 1
      simp at cM1 cM0
      have hzM := HBL2.out.lt
      clear hb2 hr2 HBL8 HR8 HF8
      go_wp2
      go_roundw
      case rel => exact ⟨k + 1, _, by omega, by go_num, HBL2.out.set (.slice xa xn xc), by rw [HSJ.out, HLL.out.1, HLL.out.2, pairCells_snoc]; exact HR2.out.fr ((FrL.of_below (Below.refl _ _)).set 1 (.slice xa xn xc)) (by omega), HF2.out.set 1 (.slice xa xn xc)⟩
      case measure => simp [intOf] <;> omega
    · obtain rfl : k = ix.length := by omega
      have hRL : R ≠ L := by have := HL.out; omega
      have cR0 := (HB1.out.fr' HF.out hRL).cell 0
      have cR1 := (HB1.out.fr' HF.out hRL).cell 1
      have fR0 := (HB1.out.fr' HF.out hRL).frozen 0
      have fR1 := (HB1.out.fr' HF.out hRL).frozen 1
      simp at cR0 cR1
      have hRz := (HB1.out.fr' HF.out hRL).lt
      rw [List.take_length] at HR
      clear hBw
      go_wp2
      have hfin : Blk ((wr.setCell ⟨R, 0, none⟩ (.int .i64 y.load)).setCell ⟨R, 1, none⟩ (.slice ra rn rc)) R (.cells #[.int .i64 y.load, .slice ra rn rc] 24) := ((HB1.out.fr' HF.out hRL).set (.int .i64 y.load)).set (.slice ra rn rc)
      (try simp only [Exit.inBlock, Exit.then])
      refine bodyPost_ret (results_cell_row rfl _ _ R _ _ _ _ rfl hfin Try.underlying24 rfl infoYd) rfl ?_
      have hfr : FrL wr R ((wr.setCell ⟨R, 0, none⟩ (.int .i64 y.load)).setCell ⟨R, 1, none⟩ (.slice ra rn rc)) := ((FrL.of_below (Below.refl _ _)).set 0 _).set 1 _
      have hL1 := HL.out
      exact ⟨_, rfl, (HR.out.fr hfr (by omega)).mono (by omega), HBW.out.trans (hfr.under HBW.out.size (by omega))⟩
end Go.Proofs.Ytjbeoakikdkdaaa
