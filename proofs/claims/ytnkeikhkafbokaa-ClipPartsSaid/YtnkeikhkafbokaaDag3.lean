import Derived.Test.YtnkeikhkafbokaaDag2
/-! The mathematics of layer 2: bounds; the table of a ribbon and kinds; its pieces. No marks besides the import's. -/
namespace Go.Dag

/-! ## Bounds -/
theorem dn_le {t : Tab} (h : t.Ok) {M : Int} (h0 : 0 ≤ M) (hp : ∀ i, i < t.K → t.P i ≤ M) : ∀ (d n : Nat), t.L - n = d → dn t n ≤ M * d := by
  intro d
  induction d using Nat.strongRecOn with
  | _ d ih =>
    intro n hd
    by_cases hn : n < t.L
    · obtain ⟨e, rfl⟩ : ∃ e, d = e + 1 := ⟨d - 1, by omega⟩
      have hM : M * ((e + 1 : Nat) : Int) = M * (e : Int) + M := by rw [Int.natCast_add, Int.mul_add]; simp
      rw [hM]
      have mono : ∀ f : Nat, f ≤ e → M * (f : Int) ≤ M * (e : Int) := fun f hf => Int.mul_le_mul_of_nonneg_left (by omega) h0
      rcases dn_reach h hn with q | ⟨i, hi, _, q⟩
      · have := ih e (by omega) (n + 1) (by omega)
        omega
      · have hw := h.w i hi
        have h1 := ih (t.L - (n + t.W i)) (by omega) (n + t.W i) rfl
        have h2 := mono (t.L - (n + t.W i)) (by omega)
        have h3 := hp i hi
        omega
    · rw [dn_end t (by omega)]
      exact Int.mul_nonneg h0 (by omega)
theorem isum_bound {f : Nat → Int} {B : Int} : ∀ (K : Nat), (∀ i, i < K → f i ≤ B) → isum (List.range K) f ≤ (K : Int) * B
  | 0, _ => by simp [isum]
  | K + 1, h => by
    have e : isum (List.range (K + 1)) f = isum (List.range K) f + f K := by
      unfold isum
      rw [List.range_succ, List.map_append, List.sum_append]
      simp
    have h1 := isum_bound K fun i hi => h i (by omega)
    have h2 := h K (by omega)
    rw [e, Int.natCast_add, Int.add_mul]
    simp only [Int.natCast_one, Int.one_mul]
    omega
theorem six_mono {a b : Nat} (h : a ≤ b) : (6 : Int) ^ a ≤ 6 ^ b := by
  have := Nat.pow_le_pow_right (n := 6) (by omega) h
  have e : ∀ k : Nat, (6 : Int) ^ k = ((6 ^ k : Nat) : Int) := fun k => by simp
  rw [e, e]
  omega
theorem six_pos (a : Nat) : (1 : Int) ≤ 6 ^ a := by have := six_mono (Nat.zero_le a); simpa using this
theorem many_le {t : Tab} (h : t.Ok) (hk : t.K ≤ 6) : ∀ (d n : Nat), t.L - n = d → many t n ≤ 6 ^ d := by
  intro d
  induction d using Nat.strongRecOn with
  | _ d ih =>
    intro n hd
    by_cases hn : n < t.L
    · obtain ⟨e, rfl⟩ : ∃ e, d = e + 1 := ⟨d - 1, by omega⟩
      have h6 := six_pos e
      have hs : (6 : Int) ^ (e + 1) = 6 ^ e * 6 := Int.pow_succ 6 e
      rw [many_step h hn]
      by_cases c : dn t (n + 1) = dn t n
      · rw [if_pos c]
        have h1 := ih e (by omega) (n + 1) (by omega)
        match e, hd, ih, h6, hs, h1 with
        | 0, hd, _, _, hs, h1 =>
          have hz : isum (List.range t.K) (fun i => if t.can n i = true ∧ t.P i + dn t (n + t.W i) = dn t n then many t (n + t.W i) else 0) = 0 := isum_zero fun i hi => by
            have hi' := List.mem_range.1 hi
            rw [if_neg]
            rintro ⟨c1, c2⟩
            have hw := h.w i hi'
            have hf := h.fit n i hi' c1
            have hp := h.p i hi'
            rw [show n + t.W i = n + 1 by omega] at c2
            omega
          rw [hz]
          simp only [Nat.zero_add] at hs ⊢
          omega
        | e + 1, hd, ih, h6, hs, h1 =>
          have hs2 : (6 : Int) ^ (e + 1) = 6 ^ e * 6 := Int.pow_succ 6 e
          have h7 := six_pos e
          have hb := isum_bound (f := fun i => if t.can n i = true ∧ t.P i + dn t (n + t.W i) = dn t n then many t (n + t.W i) else 0) (B := 6 ^ e) t.K fun i hi' => by
            split
            · rename_i c1
              have hw := h.w i hi'
              have hp := h.p i hi'
              have hw2 : t.W i ≠ 1 := fun e1 => by
                have c2 := c1.2
                rw [e1] at c2
                omega
              have h3 := ih (t.L - (n + t.W i)) (by omega) (n + t.W i) rfl
              have h4 := six_mono (a := t.L - (n + t.W i)) (b := e) (by omega)
              omega
            · omega
          have hkb : (t.K : Int) * 6 ^ e ≤ 6 * 6 ^ e := Int.mul_le_mul_of_nonneg_right (by omega) (by omega)
          omega
      · rw [if_neg c]
        have hb := isum_bound (f := fun i => if t.can n i = true ∧ t.P i + dn t (n + t.W i) = dn t n then many t (n + t.W i) else 0) (B := 6 ^ e) t.K fun i hi' => by
          split
          · have hw := h.w i hi'
            have h3 := ih (t.L - (n + t.W i)) (by omega) (n + t.W i) rfl
            have h4 := six_mono (a := t.L - (n + t.W i)) (b := e) (by omega)
            omega
          · omega
        have hkb : (t.K : Int) * 6 ^ e ≤ 6 * 6 ^ e := Int.mul_le_mul_of_nonneg_right (by omega) (by omega)
        omega
    · rw [many_end t (by omega)]
      exact six_pos d

/-! ## Ribbons and kinds -/
structure RibD where
  len : Int
  fs : List Int
structure KindD where
  w : Int
  p : Int
  m : Int
def kd (ks : List KindD) (i : Nat) : KindD := ks.getD i ⟨0, 0, 0⟩
def isF (r : RibD) (u : Int) : Bool := r.fs.contains u
/-- How many faults lie in n units from a place on. -/
def nf (r : RibD) (a n : Nat) : Int := isum (List.range n) fun u => if isF r ((a + u : Nat) : Int) = true then 1 else 0
def canB (r : RibD) (k : KindD) (a : Nat) : Bool := decide ((a : Int) + k.w ≤ r.len) && decide (nf r a k.w.toNat ≤ k.m)
def tabOf (r : RibD) (ks : List KindD) : Tab := { L := r.len.toNat, K := ks.length, W := fun i => (kd ks i).w.toNat, P := fun i => (kd ks i).p, can := fun a i => canB r (kd ks i) a }
structure KindOk (k : KindD) : Prop where
  w1 : 1 ≤ k.w
  w2 : k.w ≤ 24
  p1 : 1 ≤ k.p
  p2 : k.p ≤ 1000
  m1 : 0 ≤ k.m
  m2 : k.m ≤ 24
def KindsOk (ks : List KindD) : Prop := (1 ≤ ks.length ∧ ks.length ≤ 6) ∧ ∀ k ∈ ks, KindOk k
theorem kd_ok {ks : List KindD} (h : KindsOk ks) {i : Nat} (hi : i < ks.length) : KindOk (kd ks i) := by
  unfold kd
  rw [List.getD_eq_getElem?_getD, List.getElem?_eq_getElem hi]
  exact h.2 _ (List.getElem_mem hi)
theorem kd_w {ks : List KindD} (h : KindsOk ks) (i : Nat) : 0 ≤ (kd ks i).w := by
  by_cases hi : i < ks.length
  · have := (kd_ok h hi).w1; omega
  · unfold kd
    rw [List.getD_eq_getElem?_getD, List.getElem?_eq_none (by omega)]
    exact Int.le_refl _
theorem tabOf_ok {r : RibD} {ks : List KindD} (h0 : 0 ≤ r.len) (h : KindsOk ks) : (tabOf r ks).Ok := by
  refine ⟨fun i hi => ?_, fun i hi => (kd_ok h hi).p1, fun a i hi hc => ?_⟩
  · have := (kd_ok h hi).w1
    simp only [tabOf]
    omega
  · have h1 := (kd_ok h hi).w1
    simp only [tabOf, canB, Bool.and_eq_true, decide_eq_true_eq] at hc ⊢
    omega
theorem tabOf_dn {r : RibD} {ks : List KindD} (h0 : 0 ≤ r.len) (h24 : r.len ≤ 24) (h : KindsOk ks) (n : Nat) : 0 ≤ dn (tabOf r ks) n ∧ dn (tabOf r ks) n ≤ 24000 := by
  have hok := tabOf_ok h0 h
  have h1 := dn_le hok (M := 1000) (by omega) (fun i hi => (kd_ok h hi).p2) _ n rfl
  have h2 : (tabOf r ks).L = r.len.toNat := rfl
  refine ⟨dn_nonneg hok _ n rfl, ?_⟩
  omega
/-! ## Pieces -/
def piece (r : RibD) (a b : Int) : RibD := ⟨b - a, (r.fs.filter fun f => decide (a ≤ f) && decide (f < b)).map fun f => f - a⟩
theorem isF_piece (r : RibD) (a b u : Int) : isF (piece r a b) u = (decide (0 ≤ u) && decide (u + a < b) && isF r (u + a)) := by
  unfold isF piece
  rw [Bool.eq_iff_iff]
  simp only [List.contains_iff_mem, List.mem_map, List.mem_filter, Bool.and_eq_true, decide_eq_true_eq]
  constructor
  · rintro ⟨f, ⟨h1, h2, h3⟩, rfl⟩
    rw [show f - a + a = f by omega]
    exact ⟨⟨by omega, h3⟩, h1⟩
  · rintro ⟨⟨h1, h2⟩, h3⟩
    exact ⟨u + a, ⟨h3, by omega, h2⟩, by omega⟩
theorem nf_piece (r : RibD) (a b : Int) (ha : 0 ≤ a) (x n : Nat) (h : (x : Int) + n + a ≤ b) : nf (piece r a b) x n = nf r (x + a.toNat) n := by
  unfold nf
  refine isum_same fun u hu => ?_
  have hu' := List.mem_range.1 hu
  rw [isF_piece, decide_eq_true (by omega), decide_eq_true (by omega), Bool.true_and, Bool.true_and, show ((x + u : Nat) : Int) + a = ((x + a.toNat + u : Nat) : Int) by omega]
theorem tab_pre {r : RibD} {ks : List KindD} (h : KindsOk ks) {m : Nat} (hm : (m : Int) ≤ r.len) : tabOf (piece r 0 m) ks = pre (tabOf r ks) m := by
  unfold tabOf pre
  have hL : (piece r 0 (m : Int)).len.toNat = m := by simp [piece]
  rw [hL]
  congr 1
  funext a i
  have hw := kd_w h i
  dsimp only
  rw [Bool.eq_iff_iff]
  simp only [canB, Bool.and_eq_true, decide_eq_true_eq]
  have hlen : (piece r 0 (m : Int)).len = m := by simp [piece]
  rw [hlen]
  constructor
  · rintro ⟨h1, h2⟩
    rw [nf_piece r 0 m (by omega) a _ (by omega), Int.toNat_zero, Nat.add_zero] at h2
    exact ⟨⟨by omega, h2⟩, by omega⟩
  · rintro ⟨⟨h1, h2⟩, h3⟩
    rw [nf_piece r 0 m (by omega) a _ (by omega), Int.toNat_zero, Nat.add_zero]
    exact ⟨by omega, h2⟩
theorem tab_suf {r : RibD} {ks : List KindD} (h : KindsOk ks) {m : Nat} (hm : (m : Int) ≤ r.len) : tabOf (piece r m r.len) ks = suf (tabOf r ks) m := by
  unfold tabOf suf
  have hL : (piece r (m : Int) r.len).len.toNat = r.len.toNat - m := by simp only [piece]; omega
  rw [hL]
  congr 1
  funext a i
  have hw := kd_w h i
  dsimp only
  generalize kd ks i = k at hw
  rw [Bool.eq_iff_iff]
  simp only [canB, Bool.and_eq_true, decide_eq_true_eq]
  have hlen : (piece r (m : Int) r.len).len = r.len - m := rfl
  rw [hlen]
  constructor
  · rintro ⟨h1, h2⟩
    rw [nf_piece r m r.len (by omega) a _ (by omega), Int.toNat_natCast] at h2
    exact ⟨by omega, h2⟩
  · rintro ⟨h1, h2⟩
    rw [nf_piece r m r.len (by omega) a _ (by omega), Int.toNat_natCast]
    exact ⟨by omega, h2⟩
end Go.Dag
