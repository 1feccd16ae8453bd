import Derived.OwnWalk
import Derived.Test.YtnkeikhkafbokaaBase
namespace Go.Proofs.Ytnkeikhkafbokaa
open Go.RowKit Go.Shelf
attribute [local go_sem] Oper.semAt_some
/-! What all layers share: made of general parts by base.py. -/
theorem ne_types {W : World} {g B : Nat} {c d : Array Value} {e T : TypeId} {z y : Nat × Nat} (h : Blk W g (.cells c e z)) (hB : Blk W B (.cells d T y)) (hne : T ≠ e) : g ≠ B := by
  rintro rfl
  have := Option.some.inj (h.symm.trans hB)
  injection this with _ h2 _
  exact hne h2.symm
theorem owns_set {W : World} {base size n : Nat} {e T : TypeId} {v : Value} {xs : List Value} {B : Nat} {d : Array Value} {y : Nat × Nat} (h : W.ownsRow base e size v n xs) (hB : Blk W B (.cells d T y)) (hne : T ≠ e) (j : Nat) (u : Value) : (W.setCell ⟨B, j, none⟩ u).ownsRow base e size v n xs := by
  obtain ⟨h1, h2 | ⟨g, cap, cur, e1, e2, e3, e4⟩⟩ := h
  · exact ⟨h1, .inl h2⟩
  · exact ⟨h1, .inr ⟨g, cap, cur, e1, e2, Blk.other e3 (ne_types e3 hB hne) u, e4⟩⟩
theorem owns_below {W W' : World} {base size n : Nat} {e : TypeId} {v : Value} {xs : List Value} (h : W.ownsRow base e size v n xs) (hb : Below W.heap.size W W') : W'.ownsRow base e size v n xs := by
  obtain ⟨h1, h2 | ⟨g, cap, cur, e1, e2, e3, e4⟩⟩ := h
  · exact ⟨h1, .inl h2⟩
  · exact ⟨h1, .inr ⟨g, cap, cur, e1, e2, Blk.below e3 hb, e4⟩⟩
theorem Blk.grown {W W' : World} {base size n : Nat} {e T : TypeId} {v : Value} {xs : List Value} {B : Nat} {d : Array Value} {y : Nat × Nat} (hB : Blk W B (.cells d T y)) (h : W.ownsRow base e size v n xs) (hne : T ≠ e) (hg : W.grownBy W' v.ownBlock) : Blk W' B (.cells d T y) := by
  refine (hg.block B hB.lt ?_).trans hB
  obtain ⟨h1, h2 | ⟨g, cap, cur, e1, e2, e3, e4⟩⟩ := h
  · rw [h2.1]; intro h; cases h
  · rw [e1]
    intro h
    exact ne_types e3 hB hne (Option.some.inj h).symm
theorem below_owns {W W' : World} {w : World} {base size n : Nat} {e : TypeId} {v : Value} {xs : List Value} (h : W.ownsRow base e size v n xs) (hg : W.grownBy W' v.ownBlock) (hb : Below base w W) (hs : base ≤ W.heap.size) : Below base w W' := by
  refine hb.grown hg hs ?_
  obtain ⟨h1, h2 | ⟨g, cap, cur, e1, e2, e3, e4⟩⟩ := h
  · rw [h2.1]; intro k h; cases h
  · rw [e1]
    intro k h
    have := Option.some.inj h
    simp only at this
    omega
theorem intCells_get (l : List Int) (j : Nat) (hj : j < l.length) : (l.map (Value.int .i64))[j]? = some (.int .i64 l[j]) := by simp [hj]
theorem Row.ints {w : World} {v : Value} {l : List Int} (h : Row w v l.length 1 (l.map (Value.int .i64))) : IntsAt w v l := by
  obtain ⟨h1, ⟨h2, h3⟩ | ⟨g, cap, cur, e, e1, e3, e4, e5, e6, e7⟩⟩ := h
  · exact ⟨none, 0, by rw [h2, h3], fun hn => absurd (List.length_eq_zero_iff.1 h3) hn⟩
  · refine ⟨some ⟨g, 0, none⟩, cap, e1, fun _ => ⟨g, 0, rfl, fun j hj => ?_⟩⟩
    have c1 := intCells_get l j hj
    rw [← e7] at c1
    rw [e3.cell, Nat.zero_add]
    simp only [List.getElem?_take, Array.getElem?_toList] at c1
    rw [if_pos (by omega)] at c1
    exact c1
/-- A row of another type stands while one grows. -/
theorem owns_grown {W W' : World} {base base' size size' n n' : Nat} {e e' : TypeId} {v v' : Value} {xs xs' : List Value} (h : W.ownsRow base e size v n xs) (h' : W.ownsRow base' e' size' v' n' xs') (hne : e' ≠ e) (hg : W.grownBy W' v.ownBlock) : W'.ownsRow base' e' size' v' n' xs' := by
  obtain ⟨h1, h2 | ⟨g, cap, cur, e1, e2, e3, e4⟩⟩ := h'
  · exact ⟨h1, .inl h2⟩
  · exact ⟨h1, .inr ⟨g, cap, cur, e1, e2, Blk.grown e3 h hne hg, e4⟩⟩
theorem cells_pair {W : World} {b : Nat} {x y : Value} (h0 : W.cell? ⟨b, 0, none⟩ = some x) (h1 : W.cell? ⟨b, 1, none⟩ = some y) : ∀ m u, [x, y][m]? = some u → W.cell? (Addr.add ⟨b, 0, none⟩ m) = some u := by
  intro m u hu
  have e1 : (Addr.add ⟨b, 0, none⟩ m) = ⟨b, m, none⟩ := by unfold Addr.add; split <;> simp_all
  rw [e1]
  match m with
  | 0 => rw [h0]; simpa using hu
  | 1 => rw [h1]; simpa using hu
  | m + 2 => simp at hu
theorem cells_one {W : World} {b : Nat} {x : Value} (h0 : W.cell? ⟨b, 0, none⟩ = some x) : ∀ m u, [x][m]? = some u → W.cell? (Addr.add ⟨b, 0, none⟩ m) = some u := by
  intro m u hu
  have e1 : (Addr.add ⟨b, 0, none⟩ m) = ⟨b, m, none⟩ := by unfold Addr.add; split <;> simp_all
  rw [e1]
  match m with
  | 0 => rw [h0]; simpa using hu
  | m + 1 => simp at hu
theorem tmodN (x N : Int) (h0 : 0 ≤ x) (h : 0 < N) : 0 ≤ x.tmod N ∧ x.tmod N < N := by
  rw [Int.tmod_eq_emod_of_nonneg h0]
  exact ⟨Int.emod_nonneg _ (by omega), Int.emod_lt_of_pos _ h⟩
theorem tmodZ (x N : Int) (h : 0 < N) : -N < x.tmod N ∧ x.tmod N < N := by
  have h1 : (x.tmod N).natAbs = x.natAbs % N.natAbs := Int.natAbs_tmod ..
  have h2 : x.natAbs % N.natAbs < N.natAbs := Nat.mod_lt _ (by omega)
  omega
theorem mulN {a b A B : Int} (h1 : 0 ≤ a) (h2 : a ≤ A) (h3 : 0 ≤ b) (h4 : b ≤ B) : 0 ≤ a * b ∧ a * b ≤ A * B :=
  ⟨Int.mul_nonneg h1 h3, Int.mul_le_mul h2 h4 h3 (by omega)⟩
theorem new_cells (W : World) (l : List Value) (T : TypeId) : ∀ (j : Nat) (u : Value), l[j]? = some u → (W.alloc (.cells l.toArray T)).cell? (Addr.add ⟨W.heap.size, 0, none⟩ j) = some u := by
  intro j u hu
  have e1 : (Addr.add ⟨W.heap.size, 0, none⟩ j) = ⟨W.heap.size, j, none⟩ := by unfold Addr.add; split <;> simp_all
  rw [e1, (Blk.new W (.cells l.toArray T)).cell]
  simpa using hu
theorem one4 (x y z u : Int) : ∀ q ∈ [Value.int .i64 x, Value.int .i64 y, Value.int .i64 z, Value.int .i64 u], q.oneCell' = true := by
  intro q hq
  simp only [List.mem_cons, List.not_mem_nil, or_false] at hq
  rcases hq with rfl | rfl | rfl | rfl <;> rfl
/-- A list of pairs, as the program holds it. -/
theorem Row.pairs {w : World} {v : Value} {l : List (Int × Int)} (h : Row w v l.length 2 (pairCells l)) : PairsAt w v l := by
  obtain ⟨h1, ⟨h2, h3⟩ | ⟨g, cap, cur, e, e1, e3, e4, e5, e6, e7⟩⟩ := h
  · exact ⟨none, 0, by rw [h2, h3], fun hn => absurd (List.length_eq_zero_iff.1 h3) hn⟩
  · refine ⟨some ⟨g, 0, none⟩, cap, e1, fun _ => ⟨g, 0, rfl, fun j hj => ?_⟩⟩
    obtain ⟨c1, c2⟩ := pairCells_get l j hj
    rw [← e7] at c1 c2
    rw [e3.cell, e3.cell, Nat.zero_add]
    simp only [List.getElem?_take, Array.getElem?_toList] at c1 c2
    rw [if_pos (by omega)] at c1 c2
    exact ⟨c1, c2⟩
def Apart (v v' : Value) : Prop := ∀ g, v.ownBlock = some g → v'.ownBlock = some g → False
theorem owns_block {W : World} {base size n : Nat} {e : TypeId} {v : Value} {xs : List Value} (h : W.ownsRow base e size v n xs) {g : Nat} (hg : v.ownBlock = some g) : g < W.heap.size := by
  obtain ⟨h1, h2 | ⟨g', cap, cur, e1, e2, e3, e4⟩⟩ := h
  · rw [h2.1] at hg; cases hg
  · rw [e1] at hg
    obtain rfl : g' = g := by simpa [Value.ownBlock] using hg
    exact Blk.lt e3
theorem owns_apart {W W' : World} {base size n : Nat} {e : TypeId} {v v' : Value} {xs : List Value} (h : W.ownsRow base e size v' n xs) (ha : Apart v' v) (hg : W.grownBy W' v.ownBlock) : W'.ownsRow base e size v' n xs := by
  obtain ⟨h1, h2 | ⟨g, cap, cur, e1, e2, e3, e4⟩⟩ := h
  · exact ⟨h1, .inl h2⟩
  · refine ⟨h1, .inr ⟨g, cap, cur, e1, e2, (hg.block g (Blk.lt e3) ?_).trans e3, e4⟩⟩
    intro hh
    exact ha g (by rw [e1]; rfl) hh.symm
theorem apart_grown {W : World} {base size n : Nat} {e : TypeId} {v v' v2 : Value} {xs : List Value} (h : W.ownsRow base e size v' n xs) (ha : Apart v' v) (hat : v2.ownBlock = v.ownBlock ∨ v2.ownBlock = some W.heap.size) : Apart v' v2 := by
  intro g h1 h2
  rcases hat with e | e
  · exact ha g h1 (by rw [← e]; exact h2)
  · have h3 := owns_block h h1
    rw [e] at h2
    have := Option.some.inj h2
    omega
end Go.Proofs.Ytnkeikhkafbokaa
