import Derived.Test.YtnkeikhkafbokaaDag10
import Derived.Test.YtnkeikhkafbokaaProgF
namespace Go.Proofs.Ytnkeikhkafbokaa
open Go.Dag

/-! ## What goBack holds: the numbers, and the sheets that are left -/
def Wx (t : Tab) (p q : Nat) : Int := if q ≤ t.L then Yv t p q else 0
/-- .. in the round of place p, when the sheets pre have been told of. -/
def Zx (t : Tab) (p : Nat) (pre : List (Nat × Nat)) (q : Nat) : Int :=
  if q ≤ t.L then (Yv t p q + if q = p - 1 ∧ up t (p - 1) = up t p then Dag.ways t p else 0) + (if q < p then addW t p pre q else 0) else 0
theorem Wx_end (t : Tab) (h : t.Ok) : Wx t t.L = fun q => if q = t.L then 1 else 0 := by
  funext q
  unfold Wx
  by_cases c : q ≤ t.L
  · rw [if_pos c, Yv_start h c]
  · rw [if_neg c, if_neg (by omega)]
theorem addW_nil (t : Tab) (p q : Nat) : addW t p [] q = 0 := rfl
theorem Zx_no {t : Tab} {p : Nat} (he : up t (p - 1) ≠ up t p) : Zx t p [] = Wx t p := by
  funext q
  unfold Zx Wx
  rw [addW_nil, if_neg (fun hh : q = p - 1 ∧ _ => he hh.2)]
  by_cases c : q ≤ t.L
  · rw [if_pos c, if_pos c]; split <;> omega
  · rw [if_neg c, if_neg c]
theorem Zx_yes {t : Tab} {p : Nat} (hpL : p ≤ t.L) (he : up t (p - 1) = up t p) : updF (Wx t p) (p - 1) (Wx t p (p - 1) + Dag.ways t p) = Zx t p [] := by
  funext q
  unfold updF Zx Wx
  rw [addW_nil]
  by_cases e : q = p - 1
  · subst e
    rw [if_pos rfl, if_pos (by omega), if_pos (by omega), if_pos ⟨rfl, he⟩]
    split <;> omega
  · rw [if_neg e, if_neg (fun hh : q = p - 1 ∧ _ => e hh.1)]
    split
    · split <;> omega
    · rfl
theorem Zx_add {t : Tab} {p : Nat} {pre : List (Nat × Nat)} {x : Nat × Nat} (hpL : p ≤ t.L) (hx : x.1 < p) (he : up t x.1 + t.P x.2 = up t p) : updF (Zx t p pre) x.1 (Zx t p pre x.1 + Dag.ways t p) = Zx t p (pre ++ [x]) := by
  funext q
  unfold updF Zx
  rw [addW_snoc]
  by_cases e : q = x.1
  · subst e
    rw [if_pos rfl, if_pos (show x.1 ≤ t.L by omega), if_pos hx, if_pos (⟨rfl, he⟩ : x.1 = x.1 ∧ up t x.1 + t.P x.2 = up t p)]
    omega
  · rw [if_neg e, if_neg (fun hh : x.1 = q ∧ _ => e hh.1.symm), Int.add_zero]
theorem Zx_same {t : Tab} {p : Nat} {pre : List (Nat × Nat)} {x : Nat × Nat} (he : up t x.1 + t.P x.2 = up t p → Dag.ways t p = 0) : Zx t p pre = Zx t p (pre ++ [x]) := by
  funext q
  unfold Zx
  rw [addW_snoc]
  by_cases c : x.1 = q ∧ up t x.1 + t.P x.2 = up t p
  · rw [if_pos c, he c.2, Int.add_zero]
  · rw [if_neg c, Int.add_zero]
theorem Zx_at {t : Tab} {p : Nat} (hp : 1 ≤ p) (hpL : p ≤ t.L) (pre : List (Nat × Nat)) : Zx t p pre p = Dag.ways t p := by
  unfold Zx Yv
  rw [if_pos hpL, if_pos (Nat.le_refl p), if_neg (by omega), if_neg (by omega)]
  omega
theorem Wx_at {t : Tab} {p : Nat} (hpL : p ≤ t.L) : Wx t p p = Dag.ways t p := by
  unfold Wx Yv
  rw [if_pos hpL, if_pos (Nat.le_refl p)]
theorem Zx_all {t : Tab} (h : t.Ok) {p : Nat} (hp : 1 ≤ p) (hpL : p ≤ t.L) : Zx t p (shL t p) = Wx t (p - 1) := by
  funext q
  unfold Zx Wx
  rw [Yv_step h hp hpL]
theorem Wx_bd {t : Tab} (h : t.Ok) (hK : t.K ≤ 6) (hL : t.L ≤ 24) {p : Nat} (hp : 1 ≤ p) (q : Nat) : 0 ≤ Wx t p q ∧ Wx t p q ≤ b23 := by
  unfold Wx Yv
  have hb : (0 : Int) ≤ b23 := by unfold b23; omega
  split
  · split
    · exact ways_bd h hK hL (by omega)
    · exact Yb_bd h hK hL hp
  · omega
theorem Zx_bd {t : Tab} (h : t.Ok) (hK : t.K ≤ 6) (hL : t.L ≤ 24) {p : Nat} (hp : 1 ≤ p) (pre : List (Nat × Nat)) (hpre : pre.length ≤ 6) (q : Nat) : 0 ≤ Zx t p pre q ∧ Zx t p pre q ≤ 8 * b23 := by
  have h1 := Wx_bd h hK hL hp q
  have h2 := addW_bd h hK hL hp q pre
  have h3 := ways_bd h hK hL hp
  have hb : (0 : Int) ≤ b23 := by unfold b23; omega
  have h4 : (pre.length : Int) * b23 ≤ 6 * b23 := Int.mul_le_mul_of_nonneg_right (by omega) hb
  unfold Wx at h1
  unfold Zx
  split
  · rename_i c
    rw [if_pos c] at h1
    split <;> split <;> omega
  · omega
theorem shL_len (t : Tab) (p : Nat) : (shL t p).length ≤ t.K := by
  unfold shL shK
  rw [List.length_map]
  exact Nat.le_trans (List.length_filter_le _ _) (by rw [List.length_range]; exact Nat.le_refl _)
/-- The sheets that are left when the places behind p have been told of. -/
def Bx (t : Tab) (p : Nat) (k : SK) : Prop := Sx t (t.L + 1) k ∧ ∀ a i : Nat, k = ((a : Int), (i : Int)) → p < a + t.W i → On t (a + t.W i)
def Bp (t : Tab) (p : Nat) (pre : List (Nat × Nat)) (k : SK) : Prop := Bx t p k ∧ (Dag.ways t p = 0 → ∀ x ∈ pre, k ≠ skI x)
theorem Bx_start {t : Tab} (k : SK) : Sx t (t.L + 1) k ↔ Bx t t.L k := by
  refine ⟨fun hs => ⟨hs, fun a i e hl => ?_⟩, fun hs => hs.1⟩
  obtain ⟨a', i', e', h1, h2, h3, h4⟩ := hs
  rw [e] at e'
  have e1 := congrArg Prod.fst e'
  have e2 := congrArg Prod.snd e'
  simp only at e1 e2
  obtain rfl : a = a' := by omega
  obtain rfl : i = i' := by omega
  omega
theorem Bp_nil (t : Tab) (p : Nat) (k : SK) : Bx t p k ↔ Bp t p [] k := ⟨fun h => ⟨h, fun _ x hx => by cases hx⟩, fun h => h.1⟩
theorem skI_inj {x y : Nat × Nat} (h : skI x = skI y) : x = y := by
  unfold skI at h
  have e1 := congrArg Prod.fst h
  have e2 := congrArg Prod.snd h
  simp only at e1 e2
  exact Prod.ext (by omega) (by omega)
theorem shL_end {t : Tab} {p : Nat} {x : Nat × Nat} (hx : x ∈ shL t p) : x.2 < t.K ∧ t.can x.1 x.2 = true ∧ x.1 + t.W x.2 = p := by
  obtain ⟨m1, m2, m3⟩ := shL_mem.1 hx
  unfold canTo at m2
  simp only [Bool.and_eq_true, decide_eq_true_eq] at m2
  exact ⟨m1, by rw [m3]; exact m2.2, by omega⟩
theorem Bp_add (t : Tab) (p : Nat) (pre : List (Nat × Nat)) (x : Nat × Nat) (hz : Dag.ways t p = 0) (k : SK) : (Bp t p pre k ∧ k ≠ skI x) ↔ Bp t p (pre ++ [x]) k := by
  constructor
  · rintro ⟨⟨h1, h2⟩, h3⟩
    refine ⟨h1, fun h0 y hy => ?_⟩
    rcases List.mem_append.1 hy with hy | hy
    · exact h2 h0 y hy
    · simp only [List.mem_singleton] at hy
      rw [hy]; exact h3
  · rintro ⟨h1, h2⟩
    exact ⟨⟨h1, fun h0 y hy => h2 h0 y (List.mem_append_left _ hy)⟩, h2 hz x (List.mem_append_right _ (List.mem_singleton.2 rfl))⟩
theorem Bp_same (t : Tab) (p : Nat) (pre : List (Nat × Nat)) (x : Nat × Nat) (hz : Dag.ways t p ≠ 0) (k : SK) : Bp t p pre k ↔ Bp t p (pre ++ [x]) k :=
  ⟨fun h => ⟨h.1, fun h0 => absurd h0 hz⟩, fun h => ⟨h.1, fun h0 => absurd h0 hz⟩⟩
/-- Whether a sheet that ends at p is among them. -/
theorem Bp_mem {t : Tab} {p : Nat} (hpL : p ≤ t.L) (pre : List (Nat × Nat)) {x : Nat × Nat} (hx : x ∈ shL t p) (hz : Dag.ways t p ≠ 0) : Bp t p pre (skI x) ↔ up t x.1 + t.P x.2 = up t p := by
  obtain ⟨m1, m2, m3⟩ := shL_end hx
  constructor
  · rintro ⟨⟨⟨a, i, e, h1, h2, h3, h4⟩, _⟩, _⟩
    have e1 := congrArg Prod.fst e
    have e2 := congrArg Prod.snd e
    unfold skI at e1 e2
    simp only at e1 e2
    obtain rfl : x.1 = a := by omega
    obtain rfl : x.2 = i := by omega
    rw [h4, m3]
  · intro he
    refine ⟨⟨⟨x.1, x.2, rfl, m1, m2, by omega, by rw [he, m3]⟩, fun a i e hl => ?_⟩, fun h0 => absurd h0 hz⟩
    have e1 := congrArg Prod.fst e
    have e2 := congrArg Prod.snd e
    unfold skI at e1 e2
    simp only at e1 e2
    obtain rfl : x.1 = a := by omega
    obtain rfl : x.2 = i := by omega
    omega
theorem Bp_all {t : Tab} (h : t.Ok) {p : Nat} (hp : 1 ≤ p) (k : SK) : Bp t p (shL t p) k ↔ Bx t (p - 1) k := by
  constructor
  · rintro ⟨⟨h1, h2⟩, h3⟩
    refine ⟨h1, fun a i e hl => ?_⟩
    by_cases c : p < a + t.W i
    · exact h2 a i e c
    · have hpe : a + t.W i = p := by omega
      have hon : ¬ Dag.ways t p = 0 := fun hz => by
        obtain ⟨a', i', e', k1, k2, k3, k4⟩ := h1
        rw [e] at e'
        have e1 := congrArg Prod.fst e'
        have e2 := congrArg Prod.snd e'
        simp only at e1 e2
        obtain rfl : a = a' := by omega
        obtain rfl : i = i' := by omega
        refine h3 hz (a, i) (shL_mem.2 ⟨k1, ?_, by simp only; omega⟩) e
        unfold canTo
        simp only [Bool.and_eq_true, decide_eq_true_eq]
        exact ⟨by omega, by rw [show p - t.W i = a by omega]; exact k2⟩
      rw [ways_zero h] at hon
      rw [hpe]
      exact Classical.not_not.1 hon
  · rintro ⟨h1, h2⟩
    refine ⟨⟨h1, fun a i e hl => h2 a i e (by omega)⟩, fun hz x hx e => ?_⟩
    obtain ⟨m1, m2, m3⟩ := shL_end hx
    have := h2 x.1 x.2 e (by omega)
    rw [m3] at this
    exact (ways_zero h p).1 hz this
theorem Bx_best {t : Tab} (h : t.Ok) (a i : Nat) : Bx t 0 ((a : Int), (i : Int)) ↔ Best t a i := by
  constructor
  · rintro ⟨⟨a', i', e, h1, h2, h3, h4⟩, h5⟩
    have e1 := congrArg Prod.fst e
    have e2 := congrArg Prod.snd e
    simp only at e1 e2
    obtain rfl : a = a' := by omega
    obtain rfl : i = i' := by omega
    have := h.w i h1
    exact ⟨h1, h2, h4, h5 a i rfl (by omega)⟩
  · rintro ⟨h1, h2, h3, h4⟩
    have := h.fit a i h1 h2
    refine ⟨⟨a, i, rfl, h1, h2, by omega, h3⟩, fun a' i' e _ => ?_⟩
    have e1 := congrArg Prod.fst e
    have e2 := congrArg Prod.snd e
    simp only at e1 e2
    obtain rfl : a = a' := by omega
    obtain rfl : i = i' := by omega
    exact h4
theorem Bx_nat {t : Tab} {k : SK} (h : Bx t 0 k) : ∃ a i : Nat, k = ((a : Int), (i : Int)) := by
  obtain ⟨⟨a, i, e, _⟩, _⟩ := h
  exact ⟨a, i, e⟩
theorem Wx_zero {t : Tab} {q : Nat} (hq : q ≤ t.L) : Wx t 0 q = Dag.ways t q := by
  unfold Wx Yv
  rw [if_pos hq, if_pos (Nat.zero_le q)]
end Go.Proofs.Ytnkeikhkafbokaa
