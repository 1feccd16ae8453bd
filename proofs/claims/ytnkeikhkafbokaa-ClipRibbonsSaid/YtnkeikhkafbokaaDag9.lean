import Derived.Test.YtnkeikhkafbokaaDag8
/-! The mathematics of layer 2: cuts and prices as lists of numbers, what makes them valid; cuts by numbers; what best cuts part. No marks besides the import's. -/
namespace Go.Dag

/-! ## Cuts -/
def sk (ks : List KindD) (s : Int × Int) : KindD := kd ks s.2.toNat
def namedB (r : RibD) (ks : List KindD) (s : Int × Int) : Bool := decide (0 ≤ s.1) && decide (s.1 ≤ r.len) && (decide (0 ≤ s.2) && decide (s.2 ≤ (ks.length : Int) - 1))
def canS (r : RibD) (ks : List KindD) (s : Int × Int) : Bool := canB r (sk ks s) s.1.toNat
def orderB (ks : List KindD) : Int → List (Int × Int) → Bool
  | _, [] => true
  | e, s :: g => decide (e ≤ s.1) && orderB ks (s.1 + (sk ks s).w) g
def cutsSum (ks : List KindD) (g : List (Int × Int)) : Int := isum g fun s => (sk ks s).p
def cutsErr0 (r : RibD) (ks : List KindD) (g : List (Int × Int)) : Int :=
  if r.len < g.length then 6 else if g.all (namedB r ks) = false then 3 else if g.all (canS r ks) = false then 18 else if orderB ks 0 g = false then 16 else 0
def cutsErr (r : RibD) (ks : List KindD) (g : List (Int × Int)) : Int := if bothErr r ks ≠ 0 then bothErr r ks else cutsErr0 r ks g
def cutsV (r : RibD) (ks : List KindD) (g : List (Int × Int)) : Int := if cutsErr r ks g = 0 then cutsSum ks g else 0
def natP (s : Int × Int) : Nat × Nat := (s.1.toNat, s.2.toNat)
def intP (s : Nat × Nat) : Int × Int := ((s.1 : Int), (s.2 : Int))
theorem natP_intP (s : Nat × Nat) : natP (intP s) = s := by simp [natP, intP]
theorem map_nat_int (g : List (Nat × Nat)) : (g.map intP).map natP = g := by
  rw [List.map_map]
  conv => rhs; rw [← List.map_id g]
  exact List.map_congr_left fun s _ => natP_intP s
theorem sk_intP (ks : List KindD) (s : Nat × Nat) : sk ks (intP s) = kd ks s.2 := by simp [sk, intP]
theorem cutsErr_zero {r : RibD} {ks : List KindD} {g : List (Int × Int)} (h : cutsErr r ks g = 0) :
    RibOk r ∧ KindsOk ks ∧ (g.length : Int) ≤ r.len ∧ g.all (namedB r ks) = true ∧ g.all (canS r ks) = true ∧ orderB ks 0 g = true := by
  unfold cutsErr at h
  by_cases hb : bothErr r ks = 0
  · rw [if_neg (by simpa using hb)] at h
    unfold cutsErr0 at h
    obtain ⟨h1, h2⟩ := bothErr_zero hb
    by_cases c1 : r.len < g.length
    · rw [if_pos c1] at h; omega
    rw [if_neg c1] at h
    by_cases c2 : g.all (namedB r ks) = false
    · rw [if_pos c2] at h; omega
    rw [if_neg c2] at h
    by_cases c3 : g.all (canS r ks) = false
    · rw [if_pos c3] at h; omega
    rw [if_neg c3] at h
    by_cases c4 : orderB ks 0 g = false
    · rw [if_pos c4] at h; omega
    exact ⟨h1, h2, by omega, by simpa using c2, by simpa using c3, by simpa using c4⟩
  · rw [if_pos hb] at h
    exact absurd h hb
theorem order_cuts {r : RibD} {ks : List KindD} (hk : KindsOk ks) : ∀ {g : List (Int × Int)} {e : Int}, 0 ≤ e → g.all (namedB r ks) = true → g.all (canS r ks) = true → orderB ks e g = true → IsCuts (tabOf r ks) e.toNat (g.map natP)
  | [], _, _, _, _, _ => trivial
  | s :: g, e, he, hn, hc, ho => by
    simp only [List.all_cons, Bool.and_eq_true] at hn hc
    simp only [orderB, Bool.and_eq_true, decide_eq_true_eq] at ho
    have h1 := hn.1
    simp only [namedB, Bool.and_eq_true, decide_eq_true_eq] at h1
    have hw := kd_w hk s.2.toNat
    refine ⟨show e.toNat ≤ s.1.toNat by omega, show s.2.toNat < ks.length by omega, hc.1, ?_⟩
    have := order_cuts hk (e := s.1 + (sk ks s).w) (by unfold sk; omega) hn.2 hc.2 ho.2
    have e2 : (s.1 + (sk ks s).w).toNat = s.1.toNat + (tabOf r ks).W s.2.toNat := by simp only [tabOf, sk]; omega
    rwa [e2] at this
theorem cutsSum_wth (r : RibD) (ks : List KindD) (g : List (Int × Int)) : cutsSum ks g = wth (tabOf r ks) (g.map natP) := by
  unfold cutsSum wth isum
  rw [List.map_map]
  rfl
theorem cuts_ok {r : RibD} {ks : List KindD} {g : List (Int × Int)} (h : cutsErr r ks g = 0) : IsCuts (tabOf r ks) 0 (g.map natP) ∧ wth (tabOf r ks) (g.map natP) = cutsV r ks g := by
  obtain ⟨h1, h2, h3, h4, h5, h6⟩ := cutsErr_zero h
  refine ⟨order_cuts h2 (Int.le_refl _) h4 h5 h6, ?_⟩
  rw [cutsV, if_pos h, cutsSum_wth r]
theorem cuts_len {t : Tab} (h : t.Ok) : ∀ {g : List (Nat × Nat)} {n : Nat}, n ≤ t.L → IsCuts t n g → n + g.length ≤ t.L
  | [], n, hn, _ => by simpa using hn
  | (a, i) :: g, n, hn, hc => by
    obtain ⟨h1, h2, h3, h4⟩ := hc
    have hw := h.w i h2
    have hf := h.fit a i h2 h3
    have := cuts_len h hf h4
    simp only [List.length_cons]
    omega
theorem cuts_all {r : RibD} {ks : List KindD} (h0 : 0 ≤ r.len) (hk : KindsOk ks) : ∀ {g : List (Nat × Nat)} {n : Nat}, IsCuts (tabOf r ks) n g → (g.map intP).all (namedB r ks) = true ∧ (g.map intP).all (canS r ks) = true ∧ orderB ks n (g.map intP) = true
  | [], _, _ => ⟨rfl, rfl, rfl⟩
  | (a, i) :: g, n, hc => by
    obtain ⟨h1, h2, h3, h4⟩ := hc
    have hf := (tabOf_ok h0 hk).fit a i h2 h3
    have hw := kd_w hk i
    obtain ⟨i1, i2, i3⟩ := cuts_all h0 hk h4
    have e : ((a + (tabOf r ks).W i : Nat) : Int) = (a : Int) + (kd ks i).w := by simp only [tabOf]; omega
    rw [e] at i3
    refine ⟨?_, ?_, ?_⟩
    · simp only [List.map_cons, List.all_cons, i1, Bool.and_true, namedB, intP, Bool.and_eq_true, decide_eq_true_eq]
      simp only [tabOf] at h2 hf
      omega
    · simp only [List.map_cons, List.all_cons, i2, Bool.and_true]
      unfold canS
      rw [sk_intP]
      exact h3
    · simp only [List.map_cons, orderB, sk_intP, Bool.and_eq_true, decide_eq_true_eq]
      exact ⟨by simp only [intP]; omega, i3⟩
theorem cuts_of {r : RibD} {ks : List KindD} (hr : RibOk r) (hk : KindsOk ks) {g : List (Nat × Nat)} (hc : IsCuts (tabOf r ks) 0 g) : cutsErr r ks (g.map intP) = 0 ∧ cutsV r ks (g.map intP) = wth (tabOf r ks) g := by
  have h0 : 0 ≤ r.len := by have := hr.l1; omega
  obtain ⟨h1, h2, h3⟩ := cuts_all h0 hk hc
  have hl := cuts_len (tabOf_ok h0 hk) (Nat.zero_le _) hc
  have hl' : (tabOf r ks).L = r.len.toNat := rfl
  have e : cutsErr r ks (g.map intP) = 0 := by
    unfold cutsErr cutsErr0
    rw [if_neg (by rw [bothErr_of hr hk]; simp), if_neg (by rw [List.length_map]; omega), if_neg (by rw [h1]; simp), if_neg (by rw [h2]; simp), if_neg (by rw [show (0 : Int) = ((0 : Nat) : Int) from rfl, h3]; simp)]
  refine ⟨e, ?_⟩
  rw [cutsV, if_pos e, cutsSum_wth r, map_nat_int]

/-! ## Prices -/
def priceF (l : List Int) (u : Nat) : Int := l.getD u 0
def covB (t : Tab) (l : List Int) : Bool := (List.range t.L).all fun a => (List.range t.K).all fun i => !t.can a i || decide (t.P i ≤ psum (priceF l) a (t.W i))
def okPrices (l : List Int) : Bool := l.all fun x => decide (0 ≤ x) && decide (x ≤ 24000)
def pricesErr0 (r : RibD) (ks : List KindD) (l : List Int) : Int :=
  if (l.length : Int) ≠ r.len then 15 else if okPrices l = false then 3 else if covB (tabOf r ks) l = false then 14 else 0
def pricesErr (r : RibD) (ks : List KindD) (l : List Int) : Int := if bothErr r ks ≠ 0 then bothErr r ks else pricesErr0 r ks l
def pricesV (r : RibD) (ks : List KindD) (l : List Int) : Int := if pricesErr r ks l = 0 then psum (priceF l) 0 l.length else 0
theorem covB_iff {t : Tab} (h : t.Ok) (l : List Int) : covB t l = true ↔ ∀ a i, i < t.K → t.can a i = true → t.P i ≤ psum (priceF l) a (t.W i) := by
  unfold covB
  simp only [List.all_eq_true, List.mem_range, Bool.or_eq_true, Bool.not_eq_true', decide_eq_true_eq]
  constructor
  · intro hh a i hi hc
    have hf := h.fit a i hi hc
    have hw := h.w i hi
    rcases hh a (by omega) i hi with h1 | h1
    · rw [hc] at h1; cases h1
    · exact h1
  · intro hh a _ i hi
    cases hc : t.can a i with
    | false => exact .inl rfl
    | true => exact .inr (hh a i hi hc)
theorem okPrices_get {l : List Int} (h : okPrices l = true) (u : Nat) : 0 ≤ priceF l u ∧ priceF l u ≤ 24000 := by
  unfold priceF
  rw [List.getD_eq_getElem?_getD]
  by_cases hu : u < l.length
  · rw [List.getElem?_eq_getElem hu]
    have := List.all_eq_true.1 h _ (List.getElem_mem hu)
    simpa using this
  · rw [List.getElem?_eq_none (by omega)]
    exact ⟨Int.le_refl _, by simp⟩
theorem pricesErr_zero {r : RibD} {ks : List KindD} {l : List Int} (h : pricesErr r ks l = 0) : RibOk r ∧ KindsOk ks ∧ (l.length : Int) = r.len ∧ okPrices l = true ∧ covB (tabOf r ks) l = true := by
  unfold pricesErr at h
  by_cases hb : bothErr r ks = 0
  · rw [if_neg (by simpa using hb)] at h
    unfold pricesErr0 at h
    obtain ⟨h1, h2⟩ := bothErr_zero hb
    by_cases c1 : (l.length : Int) ≠ r.len
    · rw [if_pos c1] at h; omega
    rw [if_neg c1] at h
    by_cases c2 : okPrices l = false
    · rw [if_pos c2] at h; omega
    rw [if_neg c2] at h
    by_cases c3 : covB (tabOf r ks) l = false
    · rw [if_pos c3] at h; omega
    exact ⟨h1, h2, by omega, by simpa using c2, by simpa using c3⟩
  · rw [if_pos hb] at h
    exact absurd h hb
/-- Prices that prove: no cuts are worth more. -/
theorem prices_prove {r : RibD} {ks : List KindD} {l : List Int} (h : pricesErr r ks l = 0) : dn (tabOf r ks) 0 ≤ pricesV r ks l := by
  obtain ⟨h1, h2, h3, h4, h5⟩ := pricesErr_zero h
  have h0 : 0 ≤ r.len := by have := h1.l1; omega
  have hok := tabOf_ok h0 h2
  have hb := first_best hok (tabOf r ks).L 0 (by omega)
  have := cover_le hok (l := priceF l) (fun u _ => (okPrices_get h4 u).1) ((covB_iff hok l).1 h5) (Nat.zero_le _) hb.1
  rw [hb.2] at this
  rw [pricesV, if_pos h]
  have e : (tabOf r ks).L - 0 = l.length := by simp only [tabOf]; omega
  rwa [e] at this
def pricesL (t : Tab) : List Int := (List.range t.L).map (priceV t)
theorem priceF_pricesL (t : Tab) {u : Nat} (hu : u < t.L) : priceF (pricesL t) u = priceV t u := by
  unfold priceF pricesL
  rw [List.getD_eq_getElem?_getD, List.getElem?_map, List.getElem?_range hu]
  rfl
theorem psum_pricesL (t : Tab) {a n : Nat} (h : a + n ≤ t.L) : psum (priceF (pricesL t)) a n = psum (priceV t) a n := by
  unfold psum
  refine isum_same fun u hu => ?_
  have := List.mem_range.1 hu
  exact priceF_pricesL t (by omega)
theorem up_le {t : Tab} (h : t.Ok) : ∀ {a b : Nat}, a ≤ b → up t a ≤ up t b := by
  intro a b hab
  obtain ⟨d, rfl⟩ : ∃ d, b = a + d := ⟨b - a, by omega⟩
  clear hab
  induction d with
  | zero => exact Int.le_refl _
  | succ d ih => have := up_waste h (a + d); rw [← Nat.add_assoc]; omega
theorem prices_good {r : RibD} {ks : List KindD} (hr : RibOk r) (hk : KindsOk ks) : pricesErr r ks (pricesL (tabOf r ks)) = 0 ∧ pricesV r ks (pricesL (tabOf r ks)) = dn (tabOf r ks) 0 := by
  have h1 := hr.l1
  have hok := tabOf_ok (r := r) (by omega) hk
  have hl : (pricesL (tabOf r ks)).length = (tabOf r ks).L := by simp [pricesL]
  have hL : (tabOf r ks).L = r.len.toNat := rfl
  have hdn := tabOf_dn (r := r) (by omega) hr.l2 hk 0
  have e : pricesErr r ks (pricesL (tabOf r ks)) = 0 := by
    unfold pricesErr pricesErr0
    rw [if_neg (by rw [bothErr_of hr hk]; simp), if_neg (by rw [hl, hL]; omega), if_neg ?_, if_neg ?_]
    · rw [(covB_iff hok _).2]
      · simp
      · intro a i hi hc
        have hf := hok.fit a i hi hc
        rw [psum_pricesL _ hf]
        exact price_cover hok a i hi hc
    · have : okPrices (pricesL (tabOf r ks)) = true := by
        unfold okPrices pricesL
        rw [List.all_eq_true]
        intro x hx
        obtain ⟨u, hu, rfl⟩ := List.mem_map.1 hx
        have hu' := List.mem_range.1 hu
        have p1 := price_nonneg hok u
        have p2 : priceV (tabOf r ks) u ≤ 24000 := by
          unfold priceV
          have := up_nonneg hok u
          have := up_le hok (show u + 1 ≤ (tabOf r ks).L by omega)
          rw [up_all hok] at this
          omega
        simp [p1, p2]
      rw [this]; simp
  refine ⟨e, ?_⟩
  rw [pricesV, if_pos e, hl, psum_pricesL _ (by omega), price_all hok]

/-! ## Cuts by numbers -/
def givenF (t : Tab) : List Int → Nat → List (Nat × Nat)
  | [], _ => []
  | b :: by_, n =>
    if t.L ≤ n + b.toNat / 8 % 3 then []
    else if t.can (n + b.toNat / 8 % 3) (b.toNat % t.K) = true then (n + b.toNat / 8 % 3, b.toNat % t.K) :: givenF t by_ (n + b.toNat / 8 % 3 + t.W (b.toNat % t.K))
    else givenF t by_ (n + b.toNat / 8 % 3)
theorem given_cuts {t : Tab} (hK : 0 < t.K) : ∀ (l : List Int) (n : Nat), IsCuts t n (givenF t l n)
  | [], _ => trivial
  | b :: l, n => by
    rw [givenF]
    split
    · trivial
    · split
      · rename_i h1 h2
        exact ⟨Nat.le_add_right _ _, Nat.mod_lt _ hK, h2, given_cuts hK l _⟩
      · exact (given_cuts hK l _).later fun a i g' e => by
          have := given_cuts hK l (n + b.toNat / 8 % 3)
          rw [e] at this
          exact Nat.le_trans (Nat.le_add_right _ _) this.1

/-! ## What best cuts part -/
def partsB (ks : List KindD) (g : List (Int × Int)) (m : Int) : Bool := g.all fun s => !(decide (s.1 < m) && decide (m < s.1 + (sk ks s).w))
theorem best_all {t : Tab} (h : t.Ok) : ∀ {g : List (Nat × Nat)} {n : Nat}, n ≤ t.L → On t n → IsBest t n g → ∀ s ∈ g, Best t s.1 s.2
  | [], _, _, _, _, s, hs => by cases hs
  | (a, i) :: g, n, hn, ho, hb, s, hs => by
    obtain ⟨h1, h2, h3, h4, h5, h6, h7⟩ := hb.cons h
    have hoa : On t a := by
      have := (on_waste h (a - n) n (by omega) ho (by rw [show n + (a - n) = a by omega]; exact h3)).1
      rwa [show n + (a - n) = a by omega] at this
    have hba : Best t a i := (best_iff h hoa h4 h5).2 h6
    rcases List.mem_cons.1 hs with rfl | hs
    · exact hba
    · exact best_all h (h.fit a i h4 h5) hba.2.2.2 h7 s hs
theorem best_parts {t : Tab} (h : t.Ok) {m : Nat} (hm : m ≤ t.L) : ∀ {g : List (Nat × Nat)} {n : Nat}, n ≤ m → On t n → IsBest t n g → (∀ s ∈ g, ¬ (s.1 < m ∧ m < s.1 + t.W s.2)) → On t m
  | [], n, hn, ho, hb, _ => by
    have h0 := (hb.nil h).1
    have h1 := dn_mono h (n := n) m hn
    have h2 := dn_nonneg h _ m rfl
    have := (on_waste h (m - n) n (by omega) ho (by rw [show n + (m - n) = m by omega]; omega)).1
    rwa [show n + (m - n) = m by omega] at this
  | (a, i) :: g, n, hn, ho, hb, hp => by
    obtain ⟨h1, h2, h3, h4, h5, h6, h7⟩ := hb.cons h
    by_cases hma : m ≤ a
    · have m1 := dn_mono h (n := n) m hn
      have m2 := dn_mono h (n := m) a hma
      have := (on_waste h (m - n) n (by omega) ho (by rw [show n + (m - n) = m by omega]; omega)).1
      rwa [show n + (m - n) = m by omega] at this
    · have hoa : On t a := by
        have := (on_waste h (a - n) n (by omega) ho (by rw [show n + (a - n) = a by omega]; exact h3)).1
        rwa [show n + (a - n) = a by omega] at this
      have hba : Best t a i := (best_iff h hoa h4 h5).2 h6
      have := hp (a, i) List.mem_cons_self
      simp only at this
      exact best_parts h hm (by omega) hba.2.2.2 h7 fun s hs => hp s (List.mem_cons_of_mem _ hs)
def crossB (t : Tab) (m : Nat) : Bool := (List.range m).any fun a => (List.range t.K).any fun i => t.can a i && decide (m < a + t.W i) && decide (up t a + t.P i = up t (a + t.W i)) && decide (On t (a + t.W i))
theorem crossB_iff (t : Tab) (m : Nat) : crossB t m = true ↔ ∃ a i, Best t a i ∧ a < m ∧ m < a + t.W i := by
  unfold crossB Best
  simp only [List.any_eq_true, List.mem_range, Bool.and_eq_true, decide_eq_true_eq]
  constructor
  · rintro ⟨a, ha, i, hi, ⟨⟨h1, h2⟩, h3⟩, h4⟩
    exact ⟨a, i, ⟨hi, h1, h3, h4⟩, ha, h2⟩
  · rintro ⟨a, i, ⟨hi, h1, h3, h4⟩, ha, h2⟩
    exact ⟨a, ha, i, hi, ⟨⟨h1, h2⟩, h3⟩, h4⟩
/-- When a place is parted: 0 never, 1 sometimes, 2 always. -/
def partV (t : Tab) (m : Nat) : Int := if On t m then (if crossB t m = true then 1 else 2) else 0
theorem partV_ends {t : Tab} (h : t.Ok) {m : Nat} (hm : m = 0 ∨ m = t.L) : partV t m = 2 := by
  unfold partV
  have ho : On t m := by
    rcases hm with rfl | rfl
    · exact on_zero t
    · exact on_end h
  rw [if_pos ho, if_neg]
  intro hc
  obtain ⟨a, i, hb, h1, h2⟩ := (crossB_iff t m).1 hc
  have := h.fit a i hb.1 hb.2.1
  omega
/-- What the definition compares: the worth and the numbers of both parts. -/
theorem partV_ref {t : Tab} (h : t.Ok) {m : Nat} (hm : m ≤ t.L) :
    partV t m = if dn (pre t m) 0 + dn (suf t m) 0 < dn t 0 then 0 else if many (pre t m) 0 * many (suf t m) 0 < many t 0 then 1 else 2 := by
  obtain ⟨h1, h2, h3⟩ := parted_spec h hm
  unfold partV
  by_cases ho : On t m
  · rw [if_pos ho, if_neg (fun hh => h1.1 hh ho)]
    by_cases hc : crossB t m = true
    · rw [if_pos hc, if_pos ((h3 ho).1.2 ((crossB_iff t m).1 hc))]
    · rw [if_neg hc, if_neg (fun hh => hc ((crossB_iff t m).2 ((h3 ho).1.1 hh)))]
  · rw [if_neg ho, if_pos (h1.2 ho)]
end Go.Dag
