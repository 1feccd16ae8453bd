import Derived.Test.YtnkeikhkafbokaaDag4
/-! The mathematics of layer 2: no best cuts come before the first ones; unit prices; more sheets, greater prices. No marks besides the import's. -/
namespace Go.Dag

/-- The first list of sheets comes no later than the second one: at their first difference it begins first, or has the lesser kind; and none ends before the other one. -/
def NotBefore : List (Nat × Nat) → List (Nat × Nat) → Prop
  | [], [] => True
  | [], _ :: _ => False
  | _ :: _, [] => False
  | (a, i) :: c, (b, j) :: g => (a = b ∧ i = j ∧ NotBefore c g) ∨ a < b ∨ (a = b ∧ i < j)
theorem first_first {t : Tab} (h : t.Ok) : ∀ (f n : Nat), t.L - n ≤ f → ∀ {g : List (Nat × Nat)}, IsBest t n g → NotBefore (firstF t f n) g
  | 0, n, hf, [], _ => trivial
  | 0, n, hf, (b, j) :: g, hb => by have := hb.cons h; omega
  | f + 1, n, hf, g, hb => by
    rw [firstF]
    by_cases hn : n < t.L
    · rw [if_pos hn]
      rcases hq : (List.range t.K).find? fun i => t.can n i && decide (t.P i + dn t (n + t.W i) = dn t n) with _ | i
      · simp only
        have hno := List.find?_eq_none.1 hq
        have hb' := (hb.waste h hn fun b j g' eg => by
          subst eg
          obtain ⟨h1, _, _, h4, h5, h6, _⟩ := hb.cons h
          rcases Nat.lt_or_ge n b with h7 | h7
          · exact h7
          · obtain rfl : b = n := by omega
            have := hno j (List.mem_range.2 h4)
            simp only [h5, h6, decide_true, Bool.and_true, not_true_eq_false] at this).2
        exact first_first h f (n + 1) (by omega) hb'
      · simp only
        have hi := List.mem_range.1 (List.mem_of_find?_eq_some hq)
        have hp := List.find?_some hq
        simp only [Bool.and_eq_true, decide_eq_true_eq] at hp
        have hw := h.w i hi
        match g, hb with
        | [], hb =>
          have := (hb.nil h).2 n i (Nat.le_refl _) hi
          rw [hp.1] at this
          cases this
        | (b, j) :: g', hb =>
          obtain ⟨h1, _, _, h4, h5, h6, h7⟩ := hb.cons h
          rcases Nat.lt_or_ge n b with h8 | h8
          · exact .inr (.inl h8)
          · obtain rfl : b = n := by omega
            rcases Nat.lt_or_ge j i with h9 | h9
            · have := (List.find?_range_eq_some.1 hq).2.2 j h9
              simp only [h5, h6, decide_true, Bool.and_true, Bool.not_true] at this
              cases this
            · by_cases e : i = j
              · subst e
                exact .inl ⟨rfl, rfl, first_first h f (b + t.W i) (by omega) h7⟩
              · exact .inr (.inr ⟨rfl, by omega⟩)
    · rw [if_neg hn]
      match g, hb with
      | [], _ => trivial
      | (b, j) :: g', hb => have := hb.cons h; omega

/-! ## Unit prices -/
/-- What n units from a place on have together. -/
def psum (l : Nat → Int) (a n : Nat) : Int := isum (List.range n) fun u => l (a + u)
theorem psum_succ (l : Nat → Int) (a n : Nat) : psum l a (n + 1) = psum l a n + l (a + n) := by
  unfold psum isum
  rw [List.range_succ, List.map_append, List.sum_append]
  simp
theorem psum_add (l : Nat → Int) (a n m : Nat) : psum l a (n + m) = psum l a n + psum l (a + n) m := by
  induction m with
  | zero => simp [psum, isum]
  | succ m ih => rw [← Nat.add_assoc, psum_succ, psum_succ, ih, Nat.add_assoc]; omega
theorem psum_nonneg {l : Nat → Int} {a n : Nat} (h : ∀ u, u < n → 0 ≤ l (a + u)) : 0 ≤ psum l a n := isum_nonneg fun u hu => h u (List.mem_range.1 hu)
/-- Unit prices that cover each sheet: no cuts are worth more than the units behind their beginning have together. -/
theorem cover_le {t : Tab} (h : t.Ok) {l : Nat → Int} (h0 : ∀ u, u < t.L → 0 ≤ l u) (hc : ∀ a i, i < t.K → t.can a i = true → t.P i ≤ psum l a (t.W i)) :
    ∀ {g : List (Nat × Nat)} {n : Nat}, n ≤ t.L → IsCuts t n g → wth t g ≤ psum l n (t.L - n)
  | [], n, hn, _ => by
    simp only [wth, isum, List.map_nil, List.sum_nil]
    exact psum_nonneg fun u hu => h0 _ (by omega)
  | (a, i) :: g, n, hn, hcut => by
    obtain ⟨h1, h2, h3, h4⟩ := hcut
    have hf := h.fit a i h2 h3
    have h5 := cover_le h h0 hc hf h4
    have h6 := hc a i h2 h3
    have e : t.L - n = (a - n) + (t.W i + (t.L - (a + t.W i))) := by omega
    rw [e, psum_add, psum_add, show n + (a - n) = a by omega, wth_cons]
    have h7 : 0 ≤ psum l n (a - n) := psum_nonneg fun u hu => h0 _ (by omega)
    simp only
    omega
/-- The prices that the program tells. -/
def priceV (t : Tab) (n : Nat) : Int := up t (n + 1) - up t n
theorem psum_price (t : Tab) (a n : Nat) : psum (priceV t) a n = up t (a + n) - up t a := by
  induction n with
  | zero => simp [psum, isum]
  | succ n ih => rw [psum_succ, ih, priceV, Nat.add_assoc]; omega
theorem price_nonneg {t : Tab} (h : t.Ok) (n : Nat) : 0 ≤ priceV t n := by
  have := up_waste h n
  unfold priceV
  omega
theorem price_cover {t : Tab} (h : t.Ok) (a i : Nat) (hi : i < t.K) (hc : t.can a i = true) : t.P i ≤ psum (priceV t) a (t.W i) := by
  rw [psum_price]
  have := up_sheet h hi hc
  omega
theorem price_all {t : Tab} (h : t.Ok) : psum (priceV t) 0 t.L = dn t 0 := by
  rw [psum_price, Nat.zero_add, up_all h, up_zero]; omega
/-- Waste has no price, each sheet's units are its price together. -/
def TightFrom (t : Tab) : Nat → List (Nat × Nat) → Prop
  | n, [] => ∀ u, n ≤ u → u < t.L → priceV t u = 0
  | n, (a, i) :: g => (∀ u, n ≤ u → u < a → priceV t u = 0) ∧ psum (priceV t) a (t.W i) = t.P i ∧ TightFrom t (a + t.W i) g
theorem on_waste {t : Tab} (h : t.Ok) : ∀ (d n : Nat), n + d ≤ t.L → On t n → dn t (n + d) = dn t n → On t (n + d) ∧ ∀ u, n ≤ u → u < n + d → priceV t u = 0
  | 0, n, _, ho, _ => ⟨ho, fun u h1 h2 => by omega⟩
  | d + 1, n, hl, ho, e => by
    have m1 := dn_waste h (n := n) (by omega)
    have m2 := dn_mono h (n := n + 1) (n + (d + 1)) (by omega)
    obtain ⟨e1, o1⟩ := (waste_iff h (n := n) (by omega)).2 ⟨ho, by omega⟩
    obtain ⟨o2, z⟩ := on_waste h d (n + 1) (by omega) o1 (by rw [show n + 1 + d = n + (d + 1) by omega]; omega)
    rw [show n + 1 + d = n + (d + 1) by omega] at o2 z
    refine ⟨o2, fun u h1 h2 => ?_⟩
    by_cases hu : u = n
    · subst hu; unfold priceV; omega
    · exact z u (by omega) h2
theorem best_tight {t : Tab} (h : t.Ok) : ∀ {g : List (Nat × Nat)} {n : Nat}, n ≤ t.L → On t n → IsBest t n g → TightFrom t n g
  | [], n, hn, ho, hb => by
    have h0 := (hb.nil h).1
    have e : dn t (n + (t.L - n)) = dn t n := by rw [dn_end t (by omega), h0]
    have := (on_waste h (t.L - n) n (by omega) ho e).2
    exact fun u h1 h2 => this u h1 (by omega)
  | (a, i) :: g, n, hn, ho, hb => by
    obtain ⟨h1, h2, h3, h4, h5, h6, h7⟩ := hb.cons h
    have hf := h.fit a i h4 h5
    have e : n + (a - n) = a := by omega
    obtain ⟨o1, z⟩ := on_waste h (a - n) n (by omega) ho (by rw [e]; exact h3)
    rw [e] at o1 z
    obtain ⟨s1, s2⟩ := (sheet_iff h h4 h5).2 ⟨o1, h6⟩
    exact ⟨z, by rw [psum_price]; omega, best_tight h hf s2 h7⟩

/-! ## More sheets, greater prices -/
theorem dn_more {t t' : Tab} (h : t.Ok) (h' : t'.Ok) (hL : t'.L = t.L) (hs : ∀ a i, i < t.K → t.can a i = true → ∃ j, j < t'.K ∧ t'.can a j = true ∧ t'.W j = t.W i ∧ t.P i ≤ t'.P j) :
    ∀ (d n : Nat), t.L - n = d → dn t n ≤ dn t' n := by
  intro d
  induction d using Nat.strongRecOn with
  | _ d ih =>
    intro n hd
    by_cases hn : n < t.L
    · rcases dn_reach h hn with e | ⟨i, hi, hc, e⟩
      · have := ih _ (by omega) (n + 1) rfl
        have := dn_waste h' (n := n) (by omega)
        omega
      · obtain ⟨j, hj, hc', hw, hp⟩ := hs n i hi hc
        have hw1 := h.w i hi
        have h1 := ih _ (by omega) (n + t.W i) rfl
        have h2 := dn_sheet h' (n := n) (by omega) hj hc'
        rw [hw] at h2
        omega
    · rw [dn_end t (by omega), dn_end t' (by omega)]; omega
/-- All prices as many times as great: so is what is best, and the ways stay. -/
theorem bk_times {t t' : Tab} (h : t.Ok) (h' : t'.Ok) (c : Int) (hc : 1 ≤ c) (hL : t'.L = t.L) (hK : t'.K = t.K) (hW : t'.W = t.W) (hcan : t'.can = t.can) (hP : ∀ i, t'.P i = c * t.P i) :
    ∀ (d n : Nat), t.L - n = d → bk t' n = (c * dn t n, many t n) := by
  intro d
  induction d using Nat.strongRecOn with
  | _ d ih =>
    intro n hd
    by_cases hn : n < t.L
    · rw [bk_step h' (by omega), hK, hcan, hW, ih _ (by omega) (n + 1) rfl]
      have e0 : (dn t n, many t n) = updL (t.can n) (fun i => t.P i + dn t (n + t.W i)) (fun i => many t (n + t.W i)) (List.range t.K) (dn t (n + 1), many t (n + 1)) := bk_step h hn
      have key : ∀ (xs : List Nat) (s : Int × Int), (∀ i ∈ xs, i < t.K) → updL (t.can n) (fun i => t'.P i + dn t' (n + t.W i)) (fun i => many t' (n + t.W i)) xs (c * s.1, s.2) =
          (c * (updL (t.can n) (fun i => t.P i + dn t (n + t.W i)) (fun i => many t (n + t.W i)) xs s).1, (updL (t.can n) (fun i => t.P i + dn t (n + t.W i)) (fun i => many t (n + t.W i)) xs s).2) := by
        intro xs
        induction xs with
        | nil => intro s _; rfl
        | cons i xs ihx =>
          intro s hx
          unfold updL at ihx ⊢
          rw [List.foldl_cons, List.foldl_cons]
          dsimp only at ihx ⊢
          have hw := h.w i (hx i List.mem_cons_self)
          have e1 := ih _ (by omega) (n + t.W i) rfl
          have e2 : dn t' (n + t.W i) = c * dn t (n + t.W i) := congrArg Prod.fst e1
          have e3 : many t' (n + t.W i) = many t (n + t.W i) := by
            show (bk t' (n + t.W i)).2 = _
            rw [e1]
          rw [← ihx _ fun j hj => hx j (List.mem_cons_of_mem _ hj)]
          congr 1
          by_cases hci : t.can n i = true
          · rw [if_pos hci, if_pos hci, hP, e2, e3, ← Int.mul_add]
            generalize t.P i + dn t (n + t.W i) = v
            unfold upd
            dsimp only
            have l1 : c * s.1 < c * v ↔ s.1 < v := ⟨fun q => Int.lt_of_mul_lt_mul_left q (by omega), fun q => Int.mul_lt_mul_of_pos_left q (by omega)⟩
            have l2 : c * v = c * s.1 ↔ v = s.1 := ⟨fun q => Int.eq_of_mul_eq_mul_left (by omega) q, fun q => by rw [q]⟩
            by_cases q1 : s.1 < v
            · rw [if_pos q1, if_pos (l1.2 q1)]
            · rw [if_neg q1, if_neg (fun q => q1 (l1.1 q))]
              by_cases q2 : v = s.1
              · rw [if_pos q2, if_pos (l2.2 q2)]
              · rw [if_neg q2, if_neg (fun q => q2 (l2.1 q))]
          · rw [if_neg hci, if_neg hci]
      have := key (List.range t.K) (dn t (n + 1), many t (n + 1)) fun i hi => List.mem_range.1 hi
      rw [← e0] at this
      exact this
    · rw [bk_end t' (by omega), dn_end t (by omega), many_end t (by omega), Int.mul_zero]
end Go.Dag
