import Derived.Test.YtnkeikhkafbokaaProgD
/-! The mathematics of layer 2: in how many ways best cuts go on, told from the last place to the first. -/
namespace Go.Proofs.Ytnkeikhkafbokaa
open Go.Dag
theorem isum_filter {α : Type} (xs : List α) (q : α → Bool) (f : α → Int) : isum (xs.filter q) f = isum xs fun x => if q x = true then f x else 0 := by
  induction xs with
  | nil => rfl
  | cons x xs ih =>
    rw [List.filter_cons, isum_cons]
    by_cases h : q x = true
    · rw [if_pos h, if_pos h, isum_cons, ih]
    · rw [if_neg h, if_neg h, ih]; omega
theorem isum_map {α β : Type} (xs : List α) (g : α → β) (f : β → Int) : isum (xs.map g) f = isum xs fun x => f (g x) := by
  unfold isum
  rw [List.map_map]
  rfl
/-- In how many ways best cuts go on with a sheet of a kind from q on. -/
def con (t : Tab) (q i : Nat) : Int := if t.can q i = true ∧ up t q + t.P i = up t (q + t.W i) then Dag.ways t (q + t.W i) else 0
/-- .. with a sheet that ends behind p. -/
def Yb (t : Tab) (p q : Nat) : Int := isum (List.range t.K) fun i => if p < q + t.W i then con t q i else 0
/-- What sheets that end at p add at q. -/
def addW (t : Tab) (p : Nat) (xs : List (Nat × Nat)) (q : Nat) : Int := isum xs fun x => if x.1 = q ∧ up t x.1 + t.P x.2 = up t p then Dag.ways t p else 0
theorem addW_snoc (t : Tab) (p : Nat) (xs : List (Nat × Nat)) (x : Nat × Nat) (q : Nat) : addW t p (xs ++ [x]) q = addW t p xs q + if x.1 = q ∧ up t x.1 + t.P x.2 = up t p then Dag.ways t p else 0 := by
  unfold addW
  rw [isum_append, isum_cons]
  simp [isum]
theorem Yb_step {t : Tab} (h : t.Ok) {p q : Nat} (hp : 1 ≤ p) : Yb t (p - 1) q = Yb t p q + addW t p (shL t p) q := by
  unfold Yb addW shL shK
  rw [isum_map, isum_filter, ← isum_add]
  refine isum_same fun i hi => ?_
  have hw := h.w i (List.mem_range.1 hi)
  by_cases c1 : p < q + t.W i
  · rw [if_pos (by omega), if_pos c1]
    by_cases c3 : canTo t p i = true
    · rw [if_pos c3]
      unfold canTo at c3
      rw [Bool.and_eq_true, decide_eq_true_eq] at c3
      rw [if_neg (fun hh => by have := hh.1; simp only at this; omega)]
      omega
    · rw [if_neg c3]; omega
  · rw [if_neg c1]
    by_cases c2 : q + t.W i = p
    · rw [if_pos (by omega)]
      have e : p - t.W i = q := by omega
      unfold con canTo
      simp only [e, c2]
      by_cases c3 : t.can q i = true
      · rw [c3]
        rw [decide_eq_true (by omega)]
        by_cases c4 : up t q + t.P i = up t p
        · simp [c4]
        · simp [c4]
      · rw [Bool.not_eq_true] at c3
        rw [c3]
        simp
    · rw [if_neg (by omega)]
      by_cases c3 : canTo t p i = true
      · rw [if_pos c3]
        unfold canTo at c3
        rw [Bool.and_eq_true, decide_eq_true_eq] at c3
        rw [if_neg (fun hh => by have := hh.1; simp only at this; omega)]
        rfl
      · rw [if_neg c3]; rfl
theorem ways_Yb {t : Tab} (h : t.Ok) {q : Nat} (hq : q < t.L) : Dag.ways t q = (if up t q = up t (q + 1) then Dag.ways t (q + 1) else 0) + Yb t q q := by
  rw [Dag.ways_step h hq]
  congr 1
  unfold Yb
  refine isum_same fun i hi => ?_
  have hw := h.w i (List.mem_range.1 hi)
  rw [if_pos (show q < q + t.W i by omega)]
  rfl
/-- What the program holds when the places behind p have been told of. -/
def Yv (t : Tab) (p q : Nat) : Int := if p ≤ q then Dag.ways t q else Yb t p q
theorem Yb_end {t : Tab} (h : t.Ok) (q : Nat) : Yb t t.L q = 0 := by
  unfold Yb
  refine isum_zero fun i hi => ?_
  by_cases c : t.L < q + t.W i
  · rw [if_pos c]
    unfold con
    rw [if_neg]
    rintro ⟨h1, _⟩
    have := h.fit q i (List.mem_range.1 hi) h1
    omega
  · rw [if_neg c]
theorem Yv_start {t : Tab} (h : t.Ok) {q : Nat} (hq : q ≤ t.L) : Yv t t.L q = if q = t.L then 1 else 0 := by
  unfold Yv
  by_cases e : q = t.L
  · subst e
    rw [if_pos (Nat.le_refl _), if_pos rfl]
    unfold Dag.ways
    rw [if_pos (on_end h), many_end t (Nat.le_refl _)]
  · rw [if_neg (by omega), if_neg e, Yb_end h]
/-- From place p to the one before it. -/
theorem Yv_step {t : Tab} (h : t.Ok) {p q : Nat} (hp : 1 ≤ p) (hpL : p ≤ t.L) : Yv t (p - 1) q = (Yv t p q + if q = p - 1 ∧ up t (p - 1) = up t p then Dag.ways t p else 0) + if q < p then addW t p (shL t p) q else 0 := by
  unfold Yv
  by_cases c1 : p ≤ q
  · rw [if_pos (by omega), if_pos c1, if_neg (by omega), if_neg (by omega)]; omega
  · rw [if_neg c1, if_pos (show q < p by omega)]
    have hs := Yb_step h (q := q) hp
    by_cases c2 : q = p - 1
    · subst c2
      rw [if_pos (Nat.le_refl (p - 1)), ways_Yb h (by omega), show p - 1 + 1 = p by omega]
      by_cases c3 : up t (p - 1) = up t p
      · rw [if_pos c3, if_pos ⟨rfl, c3⟩]; omega
      · rw [if_neg c3, if_neg (fun hh => c3 hh.2)]; omega
    · rw [if_neg (show ¬ p - 1 ≤ q by omega), if_neg (fun (hh : q = p - 1 ∧ _) => c2 hh.1)]; omega
theorem ways_bd {t : Tab} (h : t.Ok) (hK : t.K ≤ 6) (hL : t.L ≤ 24) {q : Nat} (hq : 1 ≤ q) : 0 ≤ Dag.ways t q ∧ Dag.ways t q ≤ b23 := by
  have h1 := many_pos h _ q rfl
  have h2 := many_le h hK _ q rfl
  have h3 := six_mono (show t.L - q ≤ 23 by omega)
  have h5 : (6 : Int) ^ 23 = b23 := rfl
  unfold Dag.ways
  split <;> omega
theorem con_bd {t : Tab} (h : t.Ok) (hK : t.K ≤ 6) (hL : t.L ≤ 24) {p q i : Nat} (hp : p < q + t.W i) (h1 : 1 ≤ p) : 0 ≤ con t q i ∧ 6 * con t q i ≤ b23 := by
  have hb : (6 : Int) * 6 ^ 22 = b23 := by unfold b23; omega
  have hb0 : (0 : Int) ≤ 6 ^ 22 := by omega
  unfold con
  split
  · have m1 := many_pos h _ (q + t.W i) rfl
    have m2 := many_le h hK _ (q + t.W i) rfl
    have m3 := six_mono (show t.L - (q + t.W i) ≤ 22 by omega)
    unfold Dag.ways
    split <;> omega
  · omega
theorem Yb_bd {t : Tab} (h : t.Ok) (hK : t.K ≤ 6) (hL : t.L ≤ 24) {p q : Nat} (h1 : 1 ≤ p) : 0 ≤ Yb t p q ∧ Yb t p q ≤ b23 := by
  have h0 : ∀ i, i ∈ List.range t.K → 0 ≤ (if p < q + t.W i then con t q i else 0) := fun i _ => by
    split
    · exact (con_bd h hK hL ‹_› h1).1
    · exact Int.le_refl _
  refine ⟨isum_nonneg h0, ?_⟩
  have hb : (6 : Int) * 6 ^ 22 = b23 := by unfold b23; omega
  have hb0 : (0 : Int) ≤ 6 ^ 22 := by omega
  have := isum_bound (f := fun i => if p < q + t.W i then con t q i else 0) (B := 6 ^ 22) t.K (fun i _ => by
    split
    · have := (con_bd h hK hL ‹_› h1).2; omega
    · exact hb0)
  have h6 : (t.K : Int) * 6 ^ 22 ≤ 6 * 6 ^ 22 := Int.mul_le_mul_of_nonneg_right (by omega) hb0
  unfold Yb
  omega
theorem addW_bd {t : Tab} (h : t.Ok) (hK : t.K ≤ 6) (hL : t.L ≤ 24) {p : Nat} (hp : 1 ≤ p) (q : Nat) : ∀ xs : List (Nat × Nat), 0 ≤ addW t p xs q ∧ addW t p xs q ≤ (xs.length : Int) * b23
  | [] => by simp [addW, isum]
  | x :: xs => by
    have ih := addW_bd h hK hL hp q xs
    have hw := ways_bd h hK hL hp
    have e : addW t p (x :: xs) q = (if x.1 = q ∧ up t x.1 + t.P x.2 = up t p then Dag.ways t p else 0) + addW t p xs q := isum_cons _ _ _
    have e2 : ((x :: xs).length : Int) * b23 = (xs.length : Int) * b23 + b23 := by
      rw [List.length_cons, show ((xs.length + 1 : Nat) : Int) = (xs.length : Int) + 1 by omega, Int.add_mul, Int.one_mul]
    rw [e, e2]
    split <;> omega
end Go.Proofs.Ytnkeikhkafbokaa
