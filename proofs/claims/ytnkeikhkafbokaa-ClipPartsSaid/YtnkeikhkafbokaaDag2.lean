import Derived.Test.YtnkeikhkafbokaaDag
/-! The mathematics of layer 2: a place that is parted: the ribbon before it and the one behind it, and the best cuts with a sheet that lies across. No marks besides the import's. -/
namespace Go.Dag

/-- The table of the ribbon up to a place. -/
def pre (t : Tab) (m : Nat) : Tab := { t with L := m, can := fun a i => t.can a i && decide (a + t.W i ≤ m) }
/-- The table of the ribbon from a place on. -/
def suf (t : Tab) (m : Nat) : Tab := { t with L := t.L - m, can := fun a i => t.can (a + m) i }
theorem pre_can {t : Tab} {m a i : Nat} : (pre t m).can a i = true ↔ t.can a i = true ∧ a + t.W i ≤ m := by simp [pre]
theorem pre_ok {t : Tab} (h : t.Ok) (m : Nat) : (pre t m).Ok := ⟨h.w, h.p, fun _ _ _ hc => (pre_can.1 hc).2⟩
theorem suf_ok {t : Tab} (h : t.Ok) (m : Nat) : (suf t m).Ok := ⟨h.w, h.p, fun a i hi hc => by
  have := h.fit (a + m) i hi hc
  simp only [suf]
  omega⟩
theorem up_pre {t : Tab} (h : t.Ok) (m : Nat) : ∀ n, n ≤ m → up (pre t m) n = up t n := by
  intro n
  induction n using Nat.strongRecOn with
  | _ n ih =>
    intro hn
    match n, hn, ih with
    | 0, _, _ => rfl
    | n + 1, hn, ih =>
      rw [up_step (pre_ok h m) n, up_step h n, ih n (by omega) (by omega)]
      unfold maxL
      refine foldl_same _ _ _ _ fun s i hi => ?_
      have hw := h.w i (List.mem_range.1 hi)
      by_cases hl : t.W i ≤ n + 1
      · have e : canTo (pre t m) (n + 1) i = canTo t (n + 1) i := by
          unfold canTo pre
          simp only
          rw [show n + 1 - t.W i + t.W i = n + 1 by omega, decide_eq_true hn, Bool.and_true]
        dsimp only
        rw [e, show (pre t m).W i = t.W i from rfl, show (pre t m).P i = t.P i from rfl, ih (n + 1 - t.W i) (by omega) (by omega)]
      · have e1 : canTo (pre t m) (n + 1) i = false := by
          unfold canTo
          rw [show (pre t m).W i = t.W i from rfl, decide_eq_false hl, Bool.false_and]
        have e2 : canTo t (n + 1) i = false := by
          unfold canTo
          rw [decide_eq_false hl, Bool.false_and]
        rw [e1, e2]
        rfl
theorem bk_suf {t : Tab} (h : t.Ok) {m : Nat} (hm : m ≤ t.L) : ∀ (d n : Nat), t.L - (n + m) = d → bk (suf t m) n = bk t (n + m) := by
  intro d
  induction d using Nat.strongRecOn with
  | _ d ih =>
    intro n hd
    by_cases hn : n + m < t.L
    · have hn2 : n < (suf t m).L := by simp only [suf]; omega
      rw [bk_step (suf_ok h m) hn2, bk_step h hn, ih _ (by omega) (n + 1) rfl, show n + 1 + m = n + m + 1 by omega]
      unfold updL
      refine foldl_same _ _ _ _ fun s i hi => ?_
      have hw := h.w i (List.mem_range.1 hi)
      have e := ih _ (by omega) (n + t.W i) rfl
      rw [show n + t.W i + m = n + m + t.W i by omega] at e
      unfold dn many
      dsimp only
      rw [show (suf t m).W i = t.W i from rfl, show (suf t m).P i = t.P i from rfl, e]
      rfl
    · rw [bk_end t (by omega), bk_end (suf t m) (by simp only [suf]; omega)]
theorem dn_suf {t : Tab} (h : t.Ok) {m : Nat} (hm : m ≤ t.L) : dn (suf t m) 0 = dn t m ∧ many (suf t m) 0 = many t m := by
  have e := bk_suf h hm _ 0 rfl
  rw [Nat.zero_add] at e
  unfold dn many
  rw [e]
  exact ⟨rfl, rfl⟩
theorem dn_pre {t : Tab} (h : t.Ok) (m : Nat) : dn (pre t m) 0 = up t m := by
  have := up_all (pre_ok h m)
  rw [show (pre t m).L = m from rfl, up_pre h m m (Nat.le_refl _)] at this
  exact this.symm
theorem dn_pre_le {t : Tab} (h : t.Ok) {m : Nat} (hm : m ≤ t.L) : ∀ (d n : Nat), m - n = d → n ≤ m → dn (pre t m) n + dn t m ≤ dn t n := by
  intro d
  induction d using Nat.strongRecOn with
  | _ d ih =>
    intro n hd hn
    by_cases hl : n < m
    · rcases dn_reach (pre_ok h m) (n := n) hl with e | ⟨i, hi, hc, e⟩
      · have := ih _ (by omega) (n + 1) rfl (by omega)
        have := dn_waste h (n := n) (by omega)
        omega
      · obtain ⟨hc1, hc2⟩ := pre_can.1 hc
        have hw := h.w i hi
        have := ih _ (by omega) (n + t.W i) rfl hc2
        have := dn_sheet h (n := n) (by omega) hi hc1
        rw [show (pre t m).W i = t.W i from rfl, show (pre t m).P i = t.P i from rfl] at e
        omega
    · obtain rfl : n = m := by omega
      rw [dn_end (pre t n) (n := n) (Nat.le_refl _)]; omega
/-- How many best cuts from a place on pass another one. -/
def thru (t : Tab) (m n : Nat) : Int := if dn (pre t m) n + dn t m = dn t n then many (pre t m) n * many t m else 0
theorem thru_nonneg {t : Tab} (h : t.Ok) (m n : Nat) : 0 ≤ thru t m n := by
  unfold thru
  split
  · have h1 := many_pos (pre_ok h m) _ n rfl
    have h2 := many_pos h _ m rfl
    exact Int.mul_nonneg (by omega) (by omega)
  · omega
theorem thru_step {t : Tab} (h : t.Ok) {m : Nat} (hm : m ≤ t.L) {n : Nat} (hn : n < m) :
    thru t m n = (if dn t (n + 1) = dn t n then thru t m (n + 1) else 0) + isum (List.range t.K) fun i => if t.can n i = true ∧ t.P i + dn t (n + t.W i) = dn t n then (if n + t.W i ≤ m then thru t m (n + t.W i) else 0) else 0 := by
  have hp := pre_ok h m
  have hnL : n < t.L := by omega
  have l1 := dn_pre_le h hm _ n rfl (by omega)
  have l2 := dn_pre_le h hm _ (n + 1) rfl (by omega)
  have w1 := dn_waste hp (n := n) hn
  have w2 := dn_waste h hnL
  by_cases c : dn (pre t m) n + dn t m = dn t n
  · have e0 : thru t m n = many (pre t m) n * many t m := if_pos c
    rw [e0, many_step hp (n := n) hn, Int.add_mul, isum_mul]
    congr 1
    · by_cases c1 : dn (pre t m) (n + 1) = dn (pre t m) n
      · rw [if_pos c1, if_pos (by omega : dn t (n + 1) = dn t n), thru, if_pos (by omega)]
      · rw [if_neg c1, Int.zero_mul]
        by_cases c2 : dn t (n + 1) = dn t n
        · rw [if_pos c2, thru, if_neg (by omega)]
        · rw [if_neg c2]
    · refine isum_same fun i hi => ?_
      have hi' := List.mem_range.1 hi
      have hw := h.w i hi'
      rw [show (pre t m).W i = t.W i from rfl, show (pre t m).P i = t.P i from rfl]
      by_cases hc : t.can n i = true
      · by_cases hl : n + t.W i ≤ m
        · have l3 := dn_pre_le h hm _ (n + t.W i) rfl hl
          have s1 := dn_sheet hp (n := n) (i := i) hn hi' (pre_can.2 ⟨hc, hl⟩)
          have s2 := dn_sheet h hnL hi' hc
          rw [show (pre t m).W i = t.W i from rfl, show (pre t m).P i = t.P i from rfl] at s1
          by_cases c1 : t.P i + dn (pre t m) (n + t.W i) = dn (pre t m) n
          · rw [if_pos ⟨pre_can.2 ⟨hc, hl⟩, c1⟩, if_pos ⟨hc, by omega⟩, if_pos hl, thru, if_pos (by omega)]
          · rw [if_neg (fun c2 => c1 c2.2), Int.zero_mul]
            by_cases c2 : t.P i + dn t (n + t.W i) = dn t n
            · rw [if_pos ⟨hc, c2⟩, if_pos hl, thru, if_neg (by omega)]
            · rw [if_neg (fun c3 => c2 c3.2)]
        · rw [if_neg (fun c2 => hl (pre_can.1 c2.1).2), Int.zero_mul]
          by_cases c2 : t.P i + dn t (n + t.W i) = dn t n
          · rw [if_pos ⟨hc, c2⟩, if_neg hl]
          · rw [if_neg (fun c3 => c2 c3.2)]
      · rw [if_neg (fun c2 => hc (pre_can.1 c2.1).1), Int.zero_mul, if_neg (fun c2 => hc c2.1)]
  · have e0 : thru t m n = 0 := if_neg c
    rw [e0, isum_zero fun i hi => ?_]
    · by_cases c2 : dn t (n + 1) = dn t n
      · rw [if_pos c2, thru, if_neg (by omega)]; rfl
      · rw [if_neg c2]; rfl
    · have hi' := List.mem_range.1 hi
      by_cases c2 : t.can n i = true ∧ t.P i + dn t (n + t.W i) = dn t n
      · rw [if_pos c2]
        by_cases hl : n + t.W i ≤ m
        · have s1 := dn_sheet hp (n := n) (i := i) hn hi' (pre_can.2 ⟨c2.1, hl⟩)
          rw [show (pre t m).W i = t.W i from rfl, show (pre t m).P i = t.P i from rfl] at s1
          rw [if_pos hl, thru, if_neg (by omega)]
        · rw [if_neg hl]
      · rw [if_neg c2]
/-- Best cuts from a place on can have a sheet across another one. -/
inductive Cr (t : Tab) (m : Nat) : Nat → Prop where
  | here {n i : Nat} : n < m → i < t.K → t.can n i = true → m < n + t.W i → t.P i + dn t (n + t.W i) = dn t n → Cr t m n
  | waste {n : Nat} : n < m → dn t (n + 1) = dn t n → Cr t m (n + 1) → Cr t m n
  | sheet {n i : Nat} : n < m → i < t.K → t.can n i = true → n + t.W i ≤ m → t.P i + dn t (n + t.W i) = dn t n → Cr t m (n + t.W i) → Cr t m n
theorem Cr.lt {t : Tab} {m n : Nat} (h : Cr t m n) : n < m := by cases h <;> assumption
theorem split_spec {t : Tab} (h : t.Ok) {m : Nat} (hm : m ≤ t.L) : ∀ (d n : Nat), m - n = d → n ≤ m → thru t m n ≤ many t n ∧ (thru t m n < many t n ↔ Cr t m n) := by
  intro d
  induction d using Nat.strongRecOn with
  | _ d ih =>
    intro n hd hn
    by_cases hl : n < m
    · have hnL : n < t.L := by omega
      have i1 := ih _ (by omega) (n + 1) rfl (by omega)
      have i2 : ∀ i, i < t.K → n + t.W i ≤ m → thru t m (n + t.W i) ≤ many t (n + t.W i) ∧ (thru t m (n + t.W i) < many t (n + t.W i) ↔ Cr t m (n + t.W i)) := fun i hi hw2 => by
        have := h.w i hi
        exact ih _ (by omega) (n + t.W i) rfl hw2
      have hd1 : isum (List.range t.K) (fun i => if t.can n i = true ∧ t.P i + dn t (n + t.W i) = dn t n then many t (n + t.W i) else 0) =
          isum (List.range t.K) (fun i => if t.can n i = true ∧ t.P i + dn t (n + t.W i) = dn t n then (if n + t.W i ≤ m then thru t m (n + t.W i) else 0) else 0) +
          isum (List.range t.K) (fun i => if t.can n i = true ∧ t.P i + dn t (n + t.W i) = dn t n then (if n + t.W i ≤ m then many t (n + t.W i) - thru t m (n + t.W i) else many t (n + t.W i)) else 0) := by
        rw [← isum_add]
        refine isum_same fun i _ => ?_
        split
        · split <;> omega
        · omega
      rw [many_step h hnL, thru_step h hm hl, hd1]
      have g0 : ∀ i ∈ List.range t.K, 0 ≤ (if t.can n i = true ∧ t.P i + dn t (n + t.W i) = dn t n then (if n + t.W i ≤ m then many t (n + t.W i) - thru t m (n + t.W i) else many t (n + t.W i)) else 0) := fun i hi => by
        split
        · split
          · rename_i hw2
            have := (i2 i (List.mem_range.1 hi) hw2).1
            omega
          · have := many_pos h _ (n + t.W i) rfl
            omega
        · omega
      have gp := isum_nonneg g0
      have gl := fun i (hi : i ∈ List.range t.K) => isum_le g0 hi
      have gq := isum_pos g0
      generalize (isum (List.range t.K) fun i => if t.can n i = true ∧ t.P i + dn t (n + t.W i) = dn t n then (if n + t.W i ≤ m then many t (n + t.W i) - thru t m (n + t.W i) else many t (n + t.W i)) else 0) = D at *
      generalize (isum (List.range t.K) fun i => if t.can n i = true ∧ t.P i + dn t (n + t.W i) = dn t n then (if n + t.W i ≤ m then thru t m (n + t.W i) else 0) else 0) = T at *
      have e1 : (if dn t (n + 1) = dn t n then thru t m (n + 1) else 0) ≤ (if dn t (n + 1) = dn t n then many t (n + 1) else 0) := by
        split
        · exact i1.1
        · omega
      refine ⟨by omega, fun hlt => ?_, fun hc => ?_⟩
      · by_cases c : dn t (n + 1) = dn t n ∧ thru t m (n + 1) < many t (n + 1)
        · exact .waste hl c.1 (i1.2.1 c.2)
        · have hD : 0 < D := by
            by_cases c1 : dn t (n + 1) = dn t n
            · rw [if_pos c1, if_pos c1] at hlt
              have : ¬ thru t m (n + 1) < many t (n + 1) := fun c2 => c ⟨c1, c2⟩
              omega
            · rw [if_neg c1, if_neg c1] at hlt
              omega
          obtain ⟨i, hi, hp⟩ := gq hD
          have hi' := List.mem_range.1 hi
          by_cases c1 : t.can n i = true ∧ t.P i + dn t (n + t.W i) = dn t n
          · rw [if_pos c1] at hp
            by_cases c2 : n + t.W i ≤ m
            · rw [if_pos c2] at hp
              exact .sheet hl hi' c1.1 c2 c1.2 ((i2 i hi' c2).2.1 (by omega))
            · exact .here hl hi' c1.1 (by omega) c1.2
          · rw [if_neg c1] at hp; omega
      · rcases hc with ⟨hx, hi, hc, hlt, e⟩ | ⟨hx, e, hc⟩ | ⟨hx, hi, hc, hle, e, hr⟩
        · rename_i i
          have := gl i (List.mem_range.2 hi)
          rw [if_pos ⟨hc, e⟩, if_neg (by omega)] at this
          have := many_pos h _ (n + t.W i) rfl
          omega
        · have := i1.2.2 hc
          rw [if_pos e, if_pos e]
          omega
        · rename_i i
          have := gl i (List.mem_range.2 hi)
          rw [if_pos ⟨hc, e⟩, if_pos hle] at this
          have := (i2 i hi hle).2.2 hr
          omega
    · obtain rfl : n = m := by omega
      have e : thru t n n = many t n := by
        rw [thru, dn_end (pre t n) (n := n) (Nat.le_refl _), if_pos (by omega), many_end (pre t n) (n := n) (Nat.le_refl _), Int.one_mul]
      rw [e]
      exact ⟨Int.le_refl _, fun hlt => by omega, fun hc => absurd hc.lt hl⟩
theorem cr_best {t : Tab} (h : t.Ok) {m n : Nat} (hm : m ≤ t.L) (hc : Cr t m n) (ho : On t n) : ∃ a i, Best t a i ∧ a < m ∧ m < a + t.W i := by
  induction hc with
  | here h1 h2 h3 h4 h5 => exact ⟨_, _, (best_iff h ho h2 h3).2 h5, h1, h4⟩
  | waste h1 h2 _ ih => exact ih ((waste_iff h (by omega)).2 ⟨ho, h2⟩).2
  | sheet h1 h2 h3 h4 h5 _ ih => exact ih ((sheet_iff h h2 h3).2 ⟨ho, h5⟩).2
theorem best_cr {t : Tab} (h : t.Ok) {m : Nat} (hm : m ≤ t.L) : ∀ (n : Nat), On t n → Cr t m n → Cr t m 0 := by
  intro n
  induction n using Nat.strongRecOn with
  | _ n ih =>
    intro ho hc
    match n, ho, hc, ih with
    | 0, _, hc, _ => exact hc
    | n + 1, ho, hc, ih =>
      have hl := hc.lt
      rcases up_reach h n with e | ⟨a, i, hi, ha, ea, e⟩
      · obtain ⟨o1, e1⟩ := (waste_iff h (n := n) (by omega)).1 ⟨e.symm, ho⟩
        exact ih n (by omega) o1 (.waste (by omega) e1 hc)
      · have hw := h.w i hi
        rw [← ea] at ho hc e
        obtain ⟨o1, e1⟩ := (sheet_iff h hi ha).1 ⟨e, ho⟩
        exact ih a (by omega) o1 (.sheet (by omega) hi ha (by omega) e1 hc)
/-- A place within: what its parts are worth, and how many best cuts they have. -/
theorem parted_spec {t : Tab} (h : t.Ok) {m : Nat} (hm : m ≤ t.L) :
    (dn (pre t m) 0 + dn (suf t m) 0 < dn t 0 ↔ ¬ On t m) ∧ dn (pre t m) 0 + dn (suf t m) 0 ≤ dn t 0 ∧
    (On t m → (many (pre t m) 0 * many (suf t m) 0 < many t 0 ↔ ∃ a i, Best t a i ∧ a < m ∧ m < a + t.W i) ∧ many (pre t m) 0 * many (suf t m) 0 ≤ many t 0) := by
  rw [dn_pre h m, (dn_suf h hm).1, (dn_suf h hm).2]
  have hb := both_le h m hm
  refine ⟨by unfold On; omega, hb, fun ho => ?_⟩
  have hs := split_spec h hm _ 0 rfl (Nat.zero_le _)
  have e : thru t m 0 = many (pre t m) 0 * many t m := by
    rw [thru, if_pos]
    rw [dn_pre h m]
    exact ho
  rw [e] at hs
  refine ⟨hs.2.trans ⟨fun hc => cr_best h hm hc (on_zero t), fun ⟨a, i, hbst, h1, h2⟩ => ?_⟩, hs.1⟩
  obtain ⟨o1, e1⟩ := best_on h hbst
  exact best_cr h hm a o1 (.here h1 hbst.1 hbst.2.1 h2 e1)
end Go.Dag
