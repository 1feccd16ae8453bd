import Derived.Test.YtlhldkiggmlegaaDoorOd
import Derived.Test.YtlhldkiggmlegaaDoorOb
import Derived.Test.YtlhldkiggmlegaaDoorOf
namespace Go.Proofs.YtlhldkiggmlegaaDoor
open Go.RowKit Go.Shelf Go.Sort
attribute [local go_sem] Oper.semAt_some

/-! ## Logs that the laws build: rows of the call's own -/
theorem intCells_get (l : List Int) (j : Nat) (hj : j < l.length) : (l.map (Value.int .i64))[j]? = some (.int .i64 l[j]) := by simp [hj]
theorem Row.ints {w : World} {v : Value} {l : List Int} (h : Row w v l.length 1 (l.map (Value.int .i64))) : IntsAt w v l := by
  obtain ⟨h1, ⟨h2, h3⟩ | ⟨g, cap, cur, e, e1, e3, e4, e5, e6, e7⟩⟩ := h
  · exact ⟨none, 0, by rw [h2, h3], fun hn => absurd (List.length_eq_zero_iff.1 h3) hn⟩
  · refine ⟨some ⟨g, 0, none⟩, cap, e1, fun _ => ⟨g, 0, rfl, fun j hj => ?_⟩⟩
    have c1 := intCells_get l j hj
    rw [← e7] at c1
    rw [e3.cell, Nat.zero_add]
    simp only [List.getElem?_take, Array.getElem?_toList] at c1
    rw [if_pos (by omega)] at c1
    exact c1
/-- A row of another type stands while one grows. -/
theorem owns_grown {W W' : World} {base base' size size' n n' : Nat} {e e' : TypeId} {v v' : Value} {xs xs' : List Value} (h : W.ownsRow base e size v n xs) (h' : W.ownsRow base' e' size' v' n' xs') (hne : e' ≠ e) (hg : W.grownBy W' v.ownBlock) : W'.ownsRow base' e' size' v' n' xs' := by
  obtain ⟨h1, h2 | ⟨g, cap, cur, e1, e2, e3, e4⟩⟩ := h'
  · exact ⟨h1, .inl h2⟩
  · exact ⟨h1, .inr ⟨g, cap, cur, e1, e2, Blk.grown e3 h hne hg, e4⟩⟩
theorem infoI : (Tryd.prog.info? 2).map (fun i => (i.zero, i.size, i.bytes)) = some (some (.int .i64 0), 1, 8) := by kernel_rfl
theorem undI : Tryd.prog.underlying 22 = some (.slice 2) := by kernel_rfl
theorem cells_pair {W : World} {b : Nat} {x y : Value} (h0 : W.cell? ⟨b, 0, none⟩ = some x) (h1 : W.cell? ⟨b, 1, none⟩ = some y) : ∀ m u, [x, y][m]? = some u → W.cell? (Addr.add ⟨b, 0, none⟩ m) = some u := by
  intro m u hu
  have e1 : (Addr.add ⟨b, 0, none⟩ m) = ⟨b, m, none⟩ := by unfold Addr.add; split <;> simp_all
  rw [e1]
  match m with
  | 0 => rw [h0]; simpa using hu
  | 1 => rw [h1]; simpa using hu
  | m + 2 => simp at hu
theorem cells_one {W : World} {b : Nat} {x : Value} (h0 : W.cell? ⟨b, 0, none⟩ = some x) : ∀ m u, [x][m]? = some u → W.cell? (Addr.add ⟨b, 0, none⟩ m) = some u := by
  intro m u hu
  have e1 : (Addr.add ⟨b, 0, none⟩ m) = ⟨b, m, none⟩ := by unfold Addr.add; split <;> simp_all
  rw [e1]
  match m with
  | 0 => rw [h0]; simpa using hu
  | m + 1 => simp at hu
theorem HeadM.step {n : Nat} {md : Region.Mode} {ops : Array Oper} {listed : Array Bool} (inv : HeadM md ops n ops.size listed) (i : Nat) (hr : (Region.ready md ops listed).contains i = true) (hin : i < n) : HeadM md ops n ops.size (listed.setIfInBounds i true) :=
  inv.set (by simpa using hr) hin
theorem tmodN (x N : Int) (h0 : 0 ≤ x) (h : 0 < N) : 0 ≤ x.tmod N ∧ x.tmod N < N := by
  rw [Int.tmod_eq_emod_of_nonneg h0]
  exact ⟨Int.emod_nonneg _ (by omega), Int.emod_lt_of_pos _ h⟩
theorem tmodZ (x N : Int) (h : 0 < N) : -N < x.tmod N ∧ x.tmod N < N := by
  have h1 : (x.tmod N).natAbs = x.natAbs % N.natAbs := Int.natAbs_tmod ..
  have h2 : x.natAbs % N.natAbs < N.natAbs := Nat.mod_lt _ (by omega)
  omega
theorem mulN {a b A B : Int} (h1 : 0 ≤ a) (h2 : a ≤ A) (h3 : 0 ≤ b) (h4 : b ≤ B) : 0 ≤ a * b ∧ a * b ≤ A * B :=
  ⟨Int.mul_nonneg h1 h3, Int.mul_le_mul h2 h4 h3 (by omega)⟩
section
variable {P : Program} (w : World)
theorem run_min_w (ts : Array TypeId) (t : TypeId) (k k' : IntKind) (x y : Int) : (Builtin.min_ ts t #[.int k x, .int k' y]).run P w = .ok (.int k (min x y)) w := by
  have e : (if y < x then y else x) = min x y := by
    rw [Int.min_def]
    split <;> split <;> omega
  simp [Builtin.min_, Builtin.min2, e]
theorem run_max_w (ts : Array TypeId) (t : TypeId) (k k' : IntKind) (x y : Int) : (Builtin.max_ ts t #[.int k x, .int k' y]).run P w = .ok (.int k (max x y)) w := by
  have e : (if y > x then y else x) = max x y := by
    rw [Int.max_def]
    split <;> split <;> omega
  simp [Builtin.max_, Builtin.max2, e]
theorem run_max_w3 (ts : Array TypeId) (t : TypeId) (k k' k'' : IntKind) (x y z : Int) : (Builtin.max_ ts t #[.int k x, .int k' y, .int k'' z]).run P w = .ok (.int k (max (max x y) z)) w := by
  have e1 : (if y > x then y else x) = max x y := by
    rw [Int.max_def]
    split <;> split <;> omega
  have e2 : (if z > max x y then z else max x y) = max (max x y) z := by
    rw [Int.max_def (max x y) z]
    split <;> split <;> omega
  simp [Builtin.max_, Builtin.max2, e1, e2]
end
end Go.Proofs.YtlhldkiggmlegaaDoor
