import Derived.Test.YtlhldkiggmlegaaDoorNe
import Derived.Laws.StructEq
namespace Go.Proofs.YtlhldkiggmlegaaDoor
open Go.RowKit

/-! ## The places of a proof -/
def NoneAt (w : World) : Prop := w.cell? ⟨0, 0, none⟩ = some (.int .i64 (-1)) ∧ w.cell? ⟨0, 1, none⟩ = some (.int .i64 (-1)) ∧ w.cell? ⟨0, 2, none⟩ = some (.int .i64 (-1))
theorem NoneAt.below {w w' : World} (h : NoneAt w) (hb : Below w.heap.size w w') : NoneAt w' := ⟨cellB h.1 hb, cellB h.2.1 hb, cellB h.2.2 hb⟩
/-- A proof is as described. -/
structure Shaped (n : Nat) (f m t s : Int) : Prop where
  f0 : 0 ≤ f
  fm : f ≤ m
  mt : m ≤ t
  tn : t < n
  side : (s = 0 ∧ f = m ∧ m = t) ∨ ((s = 1 ∨ s = 2) ∧ f < m ∧ m < t)

theorem idx0 (x y z : Int) (w : World) : (Instr.index 102 (.agg #[.int .i64 x, .int .i64 y, .int .i64 z]) (.int .i64 0)).run Tryd.prog w = .ok (.int .i64 x) w := by kernel_rfl
theorem idx1 (x y z : Int) (w : World) : (Instr.index 102 (.agg #[.int .i64 x, .int .i64 y, .int .i64 z]) (.int .i64 1)).run Tryd.prog w = .ok (.int .i64 y) w := by kernel_rfl
theorem idx2 (x y z : Int) (w : World) : (Instr.index 102 (.agg #[.int .i64 x, .int .i64 y, .int .i64 z]) (.int .i64 2)).run Tryd.prog w = .ok (.int .i64 z) w := by kernel_rfl

theorem arr3_eq (x y z x' y' z' : Int) (d : Nat) (w : World) : (Op.equalIn (d + 2) 102 (.agg #[.int .i64 x, .int .i64 y, .int .i64 z]) (.agg #[.int .i64 x', .int .i64 y', .int .i64 z'])).run Tryd.prog w = .ok (x == x' && y == y' && z == z') w := by
  have ht : Tryd.prog.underlying 102 = some (.array 3 3) := by kernel_rfl
  have he : Tryd.prog.underlying 3 = some (.int .i64) := by kernel_rfl
  have hs : ∀ w, (sizeOf 3).run Tryd.prog w = .ok 1 w := fun w => by kernel_rfl
  have p0 : ∀ (a b c : Int) w, (part 3 #[.int .i64 a, .int .i64 b, .int .i64 c] 0).run Tryd.prog w = .ok (.int .i64 a) w := fun _ _ _ w => by kernel_rfl
  have p1 : ∀ (a b c : Int) w, (part 3 #[.int .i64 a, .int .i64 b, .int .i64 c] 1).run Tryd.prog w = .ok (.int .i64 b) w := fun _ _ _ w => by kernel_rfl
  have p2 : ∀ (a b c : Int) w, (part 3 #[.int .i64 a, .int .i64 b, .int .i64 c] 2).run Tryd.prog w = .ok (.int .i64 c) w := fun _ _ _ w => by kernel_rfl
  have h : ∀ a b w, (Op.equalIn (d + 1) 3 (.int .i64 a) (.int .i64 b)).run Tryd.prog w = .ok (a == b) w := fun a b w => run_equalIn_int w d _ _ _ a b he
  rw [Op.equalIn]
  have hr : List.range' 0 3 = [0, 1, 2] := rfl
  simp only [Sem.run_bind, run_underlying ht, Result.andThen_ok, hs]
  by_cases hx : x = x' <;> by_cases hy : y = y' <;> by_cases hz : z = z' <;> simp [hr, p0, p1, p2, h, Result.andThen_ok, hx, hy, hz]
set_option maxRecDepth 100000 in
set_option maxHeartbeats 1000000 in
theorem places_f (L M : Nat) (f m t s : Int) (l : LogD) (w : World) (hG : NoneAt w) (hl : LatheAt w L M l) (_hn : l.at_.length ≤ 8) (hx : f < 0 ∨ l.at_.length ≤ f) :
    Calls Tryd.prog 71 #[.pointer (some ⟨L, 0, none⟩), .agg #[.int .i64 f, .int .i64 m, .int .i64 t, .int .i64 s]] w fun e w' => e = .returned (.agg #[.int .i64 (-1), .int .i64 (-1), .int .i64 (-1)]) ∧ Below w.heap.size w w' := by
  obtain ⟨va, ve, bL, hA, hE⟩ := hl
  obtain ⟨a, cap, rfl⟩ := hA.slice
  have c0 := bL.cell 0
  simp at c0
  have lL := bL.lt
  clear hA hE bL
  have l1 : L < w.heap.size + 1 := by omega
  have l2 : L < w.heap.size + 1 + 1 := by omega
  obtain ⟨g0, g1, g2⟩ := hG
  have g3 := lt_of_cell g0
  have g4 : 0 < w.heap.size + 1 := by omega
  have g5 : 0 < w.heap.size + 1 + 1 := by omega
  have hgd : Tryd.prog.eqGuardType Tryd.prog.depth 102 = false := by kernel_rfl
  have hea : ∀ w, (Op.equalIn 10000 102 (.agg #[.int .i64 f, .int .i64 m, .int .i64 t]) (.agg #[.int .i64 f, .int .i64 f, .int .i64 f])).run Tryd.prog w = .ok (f == f && m == f && t == f) w := fun w => arr3_eq f m t f f f 9998 w
  have i0 := idx0 f m t
  have i1 := idx1 f m t
  have i2 := idx2 f m t
  have hd : decide (f < 0) = true ∨ (decide (f < 0) = false ∧ decide ((l.at_.length : Int) ≤ f) = true) := by simp; omega
  clear hx
  rcases hd with hd | ⟨hd, he⟩
  all_goals
    go_enter Tryd.func71, Tryd.ntmps71
    go_wp2
    refine wp_loop_rounds 4 ?_
    rw [rounds_succ]
    go_wp2
    refine bodyPost_ret (v := .agg #[.int .i64 (-1), .int .i64 (-1), .int .i64 (-1)]) (by simp [results, Tryd.results71, go_sem]) rfl ⟨rfl, below3 _ _ _ _⟩

set_option maxRecDepth 100000 in
set_option maxHeartbeats 1000000 in
theorem places_m (L M : Nat) (f m t s : Int) (l : LogD) (w : World) (hG : NoneAt w) (hl : LatheAt w L M l) (_hn : l.at_.length ≤ 8) (f0 : 0 ≤ f) (f1 : f < l.at_.length) (hx : m < 0 ∨ l.at_.length ≤ m) :
    Calls Tryd.prog 71 #[.pointer (some ⟨L, 0, none⟩), .agg #[.int .i64 f, .int .i64 m, .int .i64 t, .int .i64 s]] w fun e w' => e = .returned (.agg #[.int .i64 (-1), .int .i64 (-1), .int .i64 (-1)]) ∧ Below w.heap.size w w' := by
  obtain ⟨va, ve, bL, hA, hE⟩ := hl
  obtain ⟨a, cap, rfl⟩ := hA.slice
  have c0 := bL.cell 0
  simp at c0
  have lL := bL.lt
  clear hA hE bL
  have l1 : L < w.heap.size + 1 := by omega
  have l2 : L < w.heap.size + 1 + 1 := by omega
  obtain ⟨g0, g1, g2⟩ := hG
  have g3 := lt_of_cell g0
  have g4 : 0 < w.heap.size + 1 := by omega
  have g5 : 0 < w.heap.size + 1 + 1 := by omega
  have hgd : Tryd.prog.eqGuardType Tryd.prog.depth 102 = false := by kernel_rfl
  have hea : ∀ w, (Op.equalIn 10000 102 (.agg #[.int .i64 f, .int .i64 m, .int .i64 t]) (.agg #[.int .i64 f, .int .i64 f, .int .i64 f])).run Tryd.prog w = .ok (f == f && m == f && t == f) w := fun w => arr3_eq f m t f f f 9998 w
  have i0 := idx0 f m t
  have i1 := idx1 f m t
  have i2 := idx2 f m t
  have a1 : decide (f < 0) = false := by simp; omega
  have b1 : decide ((l.at_.length : Int) ≤ f) = false := by simp; omega
  have hd : decide (m < 0) = true ∨ (decide (m < 0) = false ∧ decide ((l.at_.length : Int) ≤ m) = true) := by simp; omega
  clear hx
  rcases hd with hd | ⟨hd, he⟩
  all_goals
    go_enter Tryd.func71, Tryd.ntmps71
    go_wp2
    refine wp_loop_rounds 4 ?_
    rw [rounds_succ]
    go_wp2
    rw [rounds_succ]
    go_wp2
    refine bodyPost_ret (v := .agg #[.int .i64 (-1), .int .i64 (-1), .int .i64 (-1)]) (by simp [results, Tryd.results71, go_sem]) rfl ⟨rfl, below3 _ _ _ _⟩

set_option maxRecDepth 100000 in
set_option maxHeartbeats 1000000 in
theorem places_t (L M : Nat) (f m t s : Int) (l : LogD) (w : World) (hG : NoneAt w) (hl : LatheAt w L M l) (_hn : l.at_.length ≤ 8) (f0 : 0 ≤ f) (f1 : f < l.at_.length) (m0 : 0 ≤ m) (m1 : m < l.at_.length) (hx : t < 0 ∨ l.at_.length ≤ t) :
    Calls Tryd.prog 71 #[.pointer (some ⟨L, 0, none⟩), .agg #[.int .i64 f, .int .i64 m, .int .i64 t, .int .i64 s]] w fun e w' => e = .returned (.agg #[.int .i64 (-1), .int .i64 (-1), .int .i64 (-1)]) ∧ Below w.heap.size w w' := by
  obtain ⟨va, ve, bL, hA, hE⟩ := hl
  obtain ⟨a, cap, rfl⟩ := hA.slice
  have c0 := bL.cell 0
  simp at c0
  have lL := bL.lt
  clear hA hE bL
  have l1 : L < w.heap.size + 1 := by omega
  have l2 : L < w.heap.size + 1 + 1 := by omega
  obtain ⟨g0, g1, g2⟩ := hG
  have g3 := lt_of_cell g0
  have g4 : 0 < w.heap.size + 1 := by omega
  have g5 : 0 < w.heap.size + 1 + 1 := by omega
  have hgd : Tryd.prog.eqGuardType Tryd.prog.depth 102 = false := by kernel_rfl
  have hea : ∀ w, (Op.equalIn 10000 102 (.agg #[.int .i64 f, .int .i64 m, .int .i64 t]) (.agg #[.int .i64 f, .int .i64 f, .int .i64 f])).run Tryd.prog w = .ok (f == f && m == f && t == f) w := fun w => arr3_eq f m t f f f 9998 w
  have i0 := idx0 f m t
  have i1 := idx1 f m t
  have i2 := idx2 f m t
  have a1 : decide (f < 0) = false := by simp; omega
  have b1 : decide ((l.at_.length : Int) ≤ f) = false := by simp; omega
  have a2 : decide (m < 0) = false := by simp; omega
  have b2 : decide ((l.at_.length : Int) ≤ m) = false := by simp; omega
  have hd : decide (t < 0) = true ∨ (decide (t < 0) = false ∧ decide ((l.at_.length : Int) ≤ t) = true) := by simp; omega
  clear hx
  rcases hd with hd | ⟨hd, he⟩
  all_goals
    go_enter Tryd.func71, Tryd.ntmps71
    go_wp2
    refine wp_loop_rounds 4 ?_
    rw [rounds_succ]
    go_wp2
    rw [rounds_succ]
    go_wp2
    rw [rounds_succ]
    go_wp2
    refine bodyPost_ret (v := .agg #[.int .i64 (-1), .int .i64 (-1), .int .i64 (-1)]) (by simp [results, Tryd.results71, go_sem]) rfl ⟨rfl, below3 _ _ _ _⟩

set_option maxRecDepth 100000 in
set_option maxHeartbeats 1000000 in
theorem places_other (L M : Nat) (f m t s : Int) (l : LogD) (w : World) (hG : NoneAt w) (hl : LatheAt w L M l) (_hn : l.at_.length ≤ 8) (f0 : 0 ≤ f) (f1 : f < l.at_.length) (m0 : 0 ≤ m) (m1 : m < l.at_.length) (t0 : 0 ≤ t) (t1 : t < l.at_.length) (hs : s ≠ 0) (hs1 : s ≠ 1) (hs2 : s ≠ 2) :
    Calls Tryd.prog 71 #[.pointer (some ⟨L, 0, none⟩), .agg #[.int .i64 f, .int .i64 m, .int .i64 t, .int .i64 s]] w fun e w' => e = .returned (.agg #[.int .i64 (-1), .int .i64 (-1), .int .i64 (-1)]) ∧ Below w.heap.size w w' := by
  obtain ⟨va, ve, bL, hA, hE⟩ := hl
  obtain ⟨a, cap, rfl⟩ := hA.slice
  have c0 := bL.cell 0
  simp at c0
  have lL := bL.lt
  clear hA hE bL
  have l1 : L < w.heap.size + 1 := by omega
  have l2 : L < w.heap.size + 1 + 1 := by omega
  obtain ⟨g0, g1, g2⟩ := hG
  have g3 := lt_of_cell g0
  have g4 : 0 < w.heap.size + 1 := by omega
  have g5 : 0 < w.heap.size + 1 + 1 := by omega
  have hgd : Tryd.prog.eqGuardType Tryd.prog.depth 102 = false := by kernel_rfl
  have hea : ∀ w, (Op.equalIn 10000 102 (.agg #[.int .i64 f, .int .i64 m, .int .i64 t]) (.agg #[.int .i64 f, .int .i64 f, .int .i64 f])).run Tryd.prog w = .ok (f == f && m == f && t == f) w := fun w => arr3_eq f m t f f f 9998 w
  have i0 := idx0 f m t
  have i1 := idx1 f m t
  have i2 := idx2 f m t
  have a1 : decide (f < 0) = false := by simp; omega
  have b1 : decide ((l.at_.length : Int) ≤ f) = false := by simp; omega
  have a2 : decide (m < 0) = false := by simp; omega
  have b2 : decide ((l.at_.length : Int) ≤ m) = false := by simp; omega
  have a3 : decide (t < 0) = false := by simp; omega
  have b3 : decide ((l.at_.length : Int) ≤ t) = false := by simp; omega
  have s0 : ((s : Int) == 0) = false := by simp; omega
  have s1 : ((s : Int) == 1) = false := by simp; omega
  have s2 : ((s : Int) == 2) = false := by simp; omega
  go_enter Tryd.func71, Tryd.ntmps71
  go_wp2
  refine wp_loop_rounds 4 ?_
  rw [rounds_succ]
  go_wp2
  rw [rounds_succ]
  go_wp2
  rw [rounds_succ]
  go_wp2
  rw [rounds_succ]
  go_wp2
  refine bodyPost_ret (v := .agg #[.int .i64 (-1), .int .i64 (-1), .int .i64 (-1)]) (by simp [results, Tryd.results71, go_sem]) rfl ⟨rfl, below3 _ _ _ _⟩

set_option maxRecDepth 100000 in
set_option maxHeartbeats 1000000 in
theorem places_one (L M : Nat) (f m t s : Int) (l : LogD) (w : World) (hG : NoneAt w) (hl : LatheAt w L M l) (_hn : l.at_.length ≤ 8) (_f0 : 0 ≤ f) (_f1 : f < l.at_.length) (_m0 : 0 ≤ m) (_m1 : m < l.at_.length) (_t0 : 0 ≤ t) (_t1 : t < l.at_.length) (hs : s = 0) (hm : f = m) (ht : f = t) :
    Calls Tryd.prog 71 #[.pointer (some ⟨L, 0, none⟩), .agg #[.int .i64 f, .int .i64 m, .int .i64 t, .int .i64 s]] w fun e w' => e = .returned (.agg #[.int .i64 f, .int .i64 f, .int .i64 f]) ∧ Below w.heap.size w w' := by
  obtain ⟨va, ve, bL, hA, hE⟩ := hl
  obtain ⟨a, cap, rfl⟩ := hA.slice
  have c0 := bL.cell 0
  simp at c0
  have lL := bL.lt
  clear hA hE bL
  have l1 : L < w.heap.size + 1 := by omega
  have l2 : L < w.heap.size + 1 + 1 := by omega
  obtain ⟨g0, g1, g2⟩ := hG
  have g3 := lt_of_cell g0
  have g4 : 0 < w.heap.size + 1 := by omega
  have g5 : 0 < w.heap.size + 1 + 1 := by omega
  have hgd : Tryd.prog.eqGuardType Tryd.prog.depth 102 = false := by kernel_rfl
  have hea : ∀ w, (Op.equalIn 10000 102 (.agg #[.int .i64 f, .int .i64 m, .int .i64 t]) (.agg #[.int .i64 f, .int .i64 f, .int .i64 f])).run Tryd.prog w = .ok (f == f && m == f && t == f) w := fun w => arr3_eq f m t f f f 9998 w
  have i0 := idx0 f m t
  have i1 := idx1 f m t
  have i2 := idx2 f m t
  subst hs
  subst hm
  subst ht
  have a1 : decide (f < 0) = false := by simp; omega
  have b1 : decide ((l.at_.length : Int) ≤ f) = false := by simp; omega
  go_enter Tryd.func71, Tryd.ntmps71
  go_wp2
  refine wp_loop_rounds 4 ?_
  rw [rounds_succ]
  go_wp2
  rw [rounds_succ]
  go_wp2
  rw [rounds_succ]
  go_wp2
  rw [rounds_succ]
  go_wp2
  refine bodyPost_ret (v := .agg #[.int .i64 f, .int .i64 f, .int .i64 f]) (by simp [results, Tryd.results71, go_sem]) rfl ⟨rfl, below3 _ _ _ _⟩

set_option maxRecDepth 100000 in
set_option maxHeartbeats 1000000 in
theorem places_three (L M : Nat) (f m t s : Int) (l : LogD) (w : World) (hG : NoneAt w) (hl : LatheAt w L M l) (_hn : l.at_.length ≤ 8) (f0 : 0 ≤ f) (f1 : f < l.at_.length) (m0 : 0 ≤ m) (m1 : m < l.at_.length) (t0 : 0 ≤ t) (t1 : t < l.at_.length) (hs : s = 1 ∨ s = 2) (h1 : f < m) (h2 : m < t) :
    Calls Tryd.prog 71 #[.pointer (some ⟨L, 0, none⟩), .agg #[.int .i64 f, .int .i64 m, .int .i64 t, .int .i64 s]] w fun e w' => e = .returned (.agg #[.int .i64 f, .int .i64 m, .int .i64 t]) ∧ Below w.heap.size w w' := by
  obtain ⟨va, ve, bL, hA, hE⟩ := hl
  obtain ⟨a, cap, rfl⟩ := hA.slice
  have c0 := bL.cell 0
  simp at c0
  have lL := bL.lt
  clear hA hE bL
  have l1 : L < w.heap.size + 1 := by omega
  have l2 : L < w.heap.size + 1 + 1 := by omega
  obtain ⟨g0, g1, g2⟩ := hG
  have g3 := lt_of_cell g0
  have g4 : 0 < w.heap.size + 1 := by omega
  have g5 : 0 < w.heap.size + 1 + 1 := by omega
  have hgd : Tryd.prog.eqGuardType Tryd.prog.depth 102 = false := by kernel_rfl
  have hea : ∀ w, (Op.equalIn 10000 102 (.agg #[.int .i64 f, .int .i64 m, .int .i64 t]) (.agg #[.int .i64 f, .int .i64 f, .int .i64 f])).run Tryd.prog w = .ok (f == f && m == f && t == f) w := fun w => arr3_eq f m t f f f 9998 w
  have i0 := idx0 f m t
  have i1 := idx1 f m t
  have i2 := idx2 f m t
  have a1 : decide (f < 0) = false := by simp; omega
  have b1 : decide ((l.at_.length : Int) ≤ f) = false := by simp; omega
  have a2 : decide (m < 0) = false := by simp; omega
  have b2 : decide ((l.at_.length : Int) ≤ m) = false := by simp; omega
  have a3 : decide (t < 0) = false := by simp; omega
  have b3 : decide ((l.at_.length : Int) ≤ t) = false := by simp; omega
  have d1 : decide (f < m) = true := by simp; omega
  have d2 : decide (m < t) = true := by simp; omega
  have s0 : ((s : Int) == 0) = false := by simp; omega
  clear h1 h2 f0 f1 m0 m1 t0 t1
  rcases hs with rfl | rfl
  all_goals
    go_enter Tryd.func71, Tryd.ntmps71
    go_wp2
    refine wp_loop_rounds 4 ?_
    rw [rounds_succ]
    go_wp2
    rw [rounds_succ]
    go_wp2
    rw [rounds_succ]
    go_wp2
    rw [rounds_succ]
    go_wp2
    refine bodyPost_ret (v := .agg #[.int .i64 f, .int .i64 m, .int .i64 t]) (by simp [results, Tryd.results71, go_sem]) rfl ⟨rfl, below3 _ _ _ _⟩

set_option maxRecDepth 100000 in
set_option maxHeartbeats 1000000 in
theorem places_not3 (L M : Nat) (f m t s : Int) (l : LogD) (w : World) (hG : NoneAt w) (hl : LatheAt w L M l) (_hn : l.at_.length ≤ 8) (f0 : 0 ≤ f) (f1 : f < l.at_.length) (m0 : 0 ≤ m) (m1 : m < l.at_.length) (t0 : 0 ≤ t) (t1 : t < l.at_.length) (hs : s = 1 ∨ s = 2) (hx : ¬ (f < m ∧ m < t)) :
    Calls Tryd.prog 71 #[.pointer (some ⟨L, 0, none⟩), .agg #[.int .i64 f, .int .i64 m, .int .i64 t, .int .i64 s]] w fun e w' => e = .returned (.agg #[.int .i64 (-1), .int .i64 (-1), .int .i64 (-1)]) ∧ Below w.heap.size w w' := by
  obtain ⟨va, ve, bL, hA, hE⟩ := hl
  obtain ⟨a, cap, rfl⟩ := hA.slice
  have c0 := bL.cell 0
  simp at c0
  have lL := bL.lt
  clear hA hE bL
  have l1 : L < w.heap.size + 1 := by omega
  have l2 : L < w.heap.size + 1 + 1 := by omega
  obtain ⟨g0, g1, g2⟩ := hG
  have g3 := lt_of_cell g0
  have g4 : 0 < w.heap.size + 1 := by omega
  have g5 : 0 < w.heap.size + 1 + 1 := by omega
  have hgd : Tryd.prog.eqGuardType Tryd.prog.depth 102 = false := by kernel_rfl
  have hea : ∀ w, (Op.equalIn 10000 102 (.agg #[.int .i64 f, .int .i64 m, .int .i64 t]) (.agg #[.int .i64 f, .int .i64 f, .int .i64 f])).run Tryd.prog w = .ok (f == f && m == f && t == f) w := fun w => arr3_eq f m t f f f 9998 w
  have i0 := idx0 f m t
  have i1 := idx1 f m t
  have i2 := idx2 f m t
  have a1 : decide (f < 0) = false := by simp; omega
  have b1 : decide ((l.at_.length : Int) ≤ f) = false := by simp; omega
  have a2 : decide (m < 0) = false := by simp; omega
  have b2 : decide ((l.at_.length : Int) ≤ m) = false := by simp; omega
  have a3 : decide (t < 0) = false := by simp; omega
  have b3 : decide ((l.at_.length : Int) ≤ t) = false := by simp; omega
  have s0 : ((s : Int) == 0) = false := by simp; omega
  have hd : decide (f < m) = false ∨ (decide (f < m) = true ∧ decide (m < t) = false) := by simp; omega
  clear hx f0 f1 m0 m1 t0 t1
  rcases hs with rfl | rfl <;> rcases hd with d1 | ⟨d1, d2⟩
  all_goals
    go_enter Tryd.func71, Tryd.ntmps71
    go_wp2
    refine wp_loop_rounds 4 ?_
    rw [rounds_succ]
    go_wp2
    rw [rounds_succ]
    go_wp2
    rw [rounds_succ]
    go_wp2
    rw [rounds_succ]
    go_wp2
    refine bodyPost_ret (v := .agg #[.int .i64 (-1), .int .i64 (-1), .int .i64 (-1)]) (by simp [results, Tryd.results71, go_sem]) rfl ⟨rfl, below3 _ _ _ _⟩

set_option maxRecDepth 100000 in
set_option maxHeartbeats 1000000 in
theorem places_not1 (L M : Nat) (f m t s : Int) (l : LogD) (w : World) (hG : NoneAt w) (hl : LatheAt w L M l) (_hn : l.at_.length ≤ 8) (f0 : 0 ≤ f) (f1 : f < l.at_.length) (m0 : 0 ≤ m) (m1 : m < l.at_.length) (t0 : 0 ≤ t) (t1 : t < l.at_.length) (hs : s = 0) (hx : ¬ (m = f ∧ t = f)) :
    Calls Tryd.prog 71 #[.pointer (some ⟨L, 0, none⟩), .agg #[.int .i64 f, .int .i64 m, .int .i64 t, .int .i64 s]] w fun e w' => e = .returned (.agg #[.int .i64 (-1), .int .i64 (-1), .int .i64 (-1)]) ∧ Below w.heap.size w w' := by
  obtain ⟨va, ve, bL, hA, hE⟩ := hl
  obtain ⟨a, cap, rfl⟩ := hA.slice
  have c0 := bL.cell 0
  simp at c0
  have lL := bL.lt
  clear hA hE bL
  have l1 : L < w.heap.size + 1 := by omega
  have l2 : L < w.heap.size + 1 + 1 := by omega
  obtain ⟨g0, g1, g2⟩ := hG
  have g3 := lt_of_cell g0
  have g4 : 0 < w.heap.size + 1 := by omega
  have g5 : 0 < w.heap.size + 1 + 1 := by omega
  have hgd : Tryd.prog.eqGuardType Tryd.prog.depth 102 = false := by kernel_rfl
  have hea : ∀ w, (Op.equalIn 10000 102 (.agg #[.int .i64 f, .int .i64 m, .int .i64 t]) (.agg #[.int .i64 f, .int .i64 f, .int .i64 f])).run Tryd.prog w = .ok (f == f && m == f && t == f) w := fun w => arr3_eq f m t f f f 9998 w
  have i0 := idx0 f m t
  have i1 := idx1 f m t
  have i2 := idx2 f m t
  have a1 : decide (f < 0) = false := by simp; omega
  have b1 : decide ((l.at_.length : Int) ≤ f) = false := by simp; omega
  have a2 : decide (m < 0) = false := by simp; omega
  have b2 : decide ((l.at_.length : Int) ≤ m) = false := by simp; omega
  have a3 : decide (t < 0) = false := by simp; omega
  have b3 : decide ((l.at_.length : Int) ≤ t) = false := by simp; omega
  subst hs
  have hq : (m == f && t == f) = false := by simp; omega
  go_enter Tryd.func71, Tryd.ntmps71
  go_wp2
  refine wp_loop_rounds 4 ?_
  rw [rounds_succ]
  go_wp2
  rw [rounds_succ]
  go_wp2
  rw [rounds_succ]
  go_wp2
  rw [rounds_succ]
  go_wp2
  refine bodyPost_ret (v := .agg #[.int .i64 (-1), .int .i64 (-1), .int .i64 (-1)]) (by simp [results, Tryd.results71, go_sem]) rfl ⟨rfl, below3 _ _ _ _⟩

theorem places_yes (L M : Nat) (f m t s : Int) (l : LogD) (w : World) (hG : NoneAt w) (hl : LatheAt w L M l) (hn : l.at_.length ≤ 8) (h : Shaped l.at_.length f m t s) :
    Calls Tryd.prog 71 #[.pointer (some ⟨L, 0, none⟩), .agg #[.int .i64 f, .int .i64 m, .int .i64 t, .int .i64 s]] w fun e w' => e = .returned (.agg #[.int .i64 f, .int .i64 m, .int .i64 t]) ∧ Below w.heap.size w w' := by
  obtain ⟨h1, h2, h3, h4, hs⟩ := h
  rcases hs with ⟨hs, hm, ht⟩ | ⟨hs, hm, ht⟩
  · have := places_one L M f m t s l w hG hl hn h1 (by omega) (by omega) (by omega) (by omega) (by omega) hs hm (by omega)
    subst hm
    subst ht
    exact this
  · exact places_three L M f m t s l w hG hl hn h1 (by omega) (by omega) (by omega) (by omega) (by omega) hs hm ht
theorem places_no (L M : Nat) (f m t s : Int) (l : LogD) (w : World) (hG : NoneAt w) (hl : LatheAt w L M l) (hn : l.at_.length ≤ 8) (h : ¬ Shaped l.at_.length f m t s) :
    Calls Tryd.prog 71 #[.pointer (some ⟨L, 0, none⟩), .agg #[.int .i64 f, .int .i64 m, .int .i64 t, .int .i64 s]] w fun e w' => e = .returned (.agg #[.int .i64 (-1), .int .i64 (-1), .int .i64 (-1)]) ∧ Below w.heap.size w w' := by
  by_cases h1 : f < 0 ∨ l.at_.length ≤ f
  · exact places_f L M f m t s l w hG hl hn h1
  by_cases h2 : m < 0 ∨ l.at_.length ≤ m
  · exact places_m L M f m t s l w hG hl hn (by omega) (by omega) h2
  by_cases h3 : t < 0 ∨ l.at_.length ≤ t
  · exact places_t L M f m t s l w hG hl hn (by omega) (by omega) (by omega) (by omega) h3
  by_cases s0 : s = 0
  · exact places_not1 L M f m t s l w hG hl hn (by omega) (by omega) (by omega) (by omega) (by omega) (by omega) s0 (fun hx => h ⟨by omega, by omega, by omega, by omega, .inl ⟨s0, by omega, by omega⟩⟩)
  by_cases s1 : s = 1 ∨ s = 2
  · exact places_not3 L M f m t s l w hG hl hn (by omega) (by omega) (by omega) (by omega) (by omega) (by omega) s1 (fun hx => h ⟨by omega, by omega, by omega, by omega, .inr ⟨s1, by omega, by omega⟩⟩)
  · exact places_other L M f m t s l w hG hl hn (by omega) (by omega) (by omega) (by omega) (by omega) (by omega) s0 (by omega) (by omega)
end Go.Proofs.YtlhldkiggmlegaaDoor
