import Derived.Test.YtnkeikhkafbokaaDag2
/-! The mathematics of layer 2: cuts as lists of sheets; the first best ones; two of them are two ways. No marks besides the import's. -/
namespace Go.Dag

/-- Cuts from a place on: sheets that can be cut, one behind the other. -/
def IsCuts (t : Tab) : Nat → List (Nat × Nat) → Prop
  | _, [] => True
  | n, (a, i) :: g => n ≤ a ∧ i < t.K ∧ t.can a i = true ∧ IsCuts t (a + t.W i) g
def wth (t : Tab) (g : List (Nat × Nat)) : Int := isum g fun s => t.P s.2
theorem wth_cons (t : Tab) (s : Nat × Nat) (g : List (Nat × Nat)) : wth t (s :: g) = t.P s.2 + wth t g := isum_cons _ _ _
theorem dn_mono {t : Tab} (h : t.Ok) {n : Nat} : ∀ (a : Nat), n ≤ a → dn t a ≤ dn t n := by
  intro a ha
  obtain ⟨e, rfl⟩ : ∃ e, a = n + e := ⟨a - n, by omega⟩
  clear ha
  induction e with
  | zero => exact Int.le_refl _
  | succ e ih =>
    by_cases hl : n + e < t.L
    · have := dn_waste h hl
      rw [← Nat.add_assoc]
      omega
    · rw [dn_end t (n := n + (e + 1)) (by omega)]
      rw [dn_end t (n := n + e) (by omega)] at ih
      exact ih
theorem IsCuts.le {t : Tab} (h : t.Ok) : ∀ {g : List (Nat × Nat)} {n : Nat}, IsCuts t n g → wth t g ≤ dn t n
  | [], n, _ => by simp only [wth, isum, List.map_nil, List.sum_nil]; exact dn_nonneg h _ n rfl
  | (a, i) :: g, n, hc => by
    obtain ⟨h1, h2, h3, h4⟩ := hc
    have hw := h.w i h2
    have hf := h.fit a i h2 h3
    have h5 := IsCuts.le h h4
    have h6 := dn_sheet h (n := a) (by omega) h2 h3
    have h7 := dn_mono h a h1
    rw [wth_cons]
    simp only
    omega
theorem IsCuts.later {t : Tab} {g : List (Nat × Nat)} {n m : Nat} (hc : IsCuts t n g) (h : ∀ a i g', g = (a, i) :: g' → m ≤ a) : IsCuts t m g := by
  match g, hc with
  | [], _ => trivial
  | (a, i) :: g', hc => exact ⟨h a i g' rfl, hc.2⟩
/-- Best cuts from a place on. -/
def IsBest (t : Tab) (n : Nat) (g : List (Nat × Nat)) : Prop := IsCuts t n g ∧ wth t g = dn t n
theorem IsBest.cons {t : Tab} (h : t.Ok) {n a i : Nat} {g : List (Nat × Nat)} (hb : IsBest t n ((a, i) :: g)) :
    n ≤ a ∧ a < t.L ∧ dn t a = dn t n ∧ i < t.K ∧ t.can a i = true ∧ t.P i + dn t (a + t.W i) = dn t a ∧ IsBest t (a + t.W i) g := by
  obtain ⟨⟨h1, h2, h3, h4⟩, h5⟩ := hb
  have hw := h.w i h2
  have hf := h.fit a i h2 h3
  have h6 := IsCuts.le h h4
  have h7 := dn_sheet h (n := a) (by omega) h2 h3
  have h8 := dn_mono h a h1
  rw [wth_cons] at h5
  simp only at h5
  exact ⟨h1, by omega, by omega, h2, h3, by omega, h4, by omega⟩
theorem IsBest.nil {t : Tab} (h : t.Ok) {n : Nat} (hb : IsBest t n []) : dn t n = 0 ∧ ∀ a i, n ≤ a → i < t.K → t.can a i = false := by
  have h0 : dn t n = 0 := by
    have := hb.2
    simp only [wth, isum, List.map_nil, List.sum_nil] at this
    exact this.symm
  refine ⟨h0, fun a i ha hi => ?_⟩
  rcases hc : t.can a i with _ | _
  · rfl
  · have hw := h.w i hi
    have hf := h.fit a i hi hc
    have h7 := dn_sheet h (n := a) (by omega) hi hc
    have h8 := dn_mono h a ha
    have h9 := dn_nonneg h _ (a + t.W i) rfl
    have hp := h.p i hi
    omega
theorem IsBest.waste {t : Tab} (h : t.Ok) {n : Nat} {g : List (Nat × Nat)} (hn : n < t.L) (hb : IsBest t n g) (hg : ∀ a i g', g = (a, i) :: g' → n + 1 ≤ a) : dn t (n + 1) = dn t n ∧ IsBest t (n + 1) g := by
  have h1 := hb.1.later hg
  have h2 := IsCuts.le h h1
  have h3 := dn_waste h hn
  have h4 := hb.2
  exact ⟨by omega, h1, by omega⟩
theorem isum_two {α : Type} [DecidableEq α] {xs : List α} {f : α → Int} (h : ∀ x ∈ xs, 0 ≤ f x) {x y : α} (hx : x ∈ xs) (hy : y ∈ xs) (hne : x ≠ y) : f x + f y ≤ isum xs f := by
  induction xs with
  | nil => cases hx
  | cons z xs ih =>
    rw [isum_cons]
    have h1 := h z List.mem_cons_self
    have h2 : ∀ z ∈ xs, 0 ≤ f z := fun z hz => h z (List.mem_cons_of_mem _ hz)
    rcases List.mem_cons.1 hx with ex | hx1
    · rcases List.mem_cons.1 hy with ey | hy1
      · exact absurd (ex.trans ey.symm) hne
      · have := isum_le h2 hy1
        rw [ex]
        omega
    · rcases List.mem_cons.1 hy with ey | hy1
      · have := isum_le h2 hx1
        rw [ey]
        omega
      · have := ih h2 hx1 hy1
        omega
/-- Two best cuts from a place on: there are at least two ways. -/
theorem two_ways {t : Tab} (h : t.Ok) : ∀ (d n : Nat), t.L - n = d → ∀ {g g' : List (Nat × Nat)}, IsBest t n g → IsBest t n g' → g ≠ g' → 2 ≤ many t n := by
  intro d
  induction d using Nat.strongRecOn with
  | _ d ih =>
    intro n hd g g' hb hb' hne
    have n0 : ∀ i ∈ List.range t.K, 0 ≤ (if t.can n i = true ∧ t.P i + dn t (n + t.W i) = dn t n then many t (n + t.W i) else 0) := fun i _ => by
      split
      · have := many_pos h _ (n + t.W i) rfl
        omega
      · omega
    have key : ∀ {g : List (Nat × Nat)}, IsBest t n g → (∃ i g1, g = (n, i) :: g1) ∨ ∀ a i g1, g = (a, i) :: g1 → n + 1 ≤ a := fun {g} hb => by
      match g, hb with
      | [], _ => exact .inr fun a i g1 e => by cases e
      | (a, i) :: g1, hb =>
        by_cases e : a = n
        · subst e; exact .inl ⟨i, g1, rfl⟩
        · have := (hb.cons h).1
          exact .inr fun a' i' g1' e' => by cases e'; omega
    by_cases hn : n < t.L
    · have hm := many_step h hn
      have z0 := isum_nonneg n0
      have z1 := fun i (hi : i ∈ List.range t.K) => isum_le n0 hi
      have p1 := many_pos h _ (n + 1) rfl
      rcases key hb with ⟨i, g1, rfl⟩ | k1 <;> rcases key hb' with ⟨j, g2, rfl⟩ | k2
      · obtain ⟨_, _, _, hi, hc, e1, b1⟩ := hb.cons h
        obtain ⟨_, _, _, hj, hc', e2, b2⟩ := hb'.cons h
        have hw := h.w i hi
        have q0 : 0 ≤ (if dn t (n + 1) = dn t n then many t (n + 1) else 0) := by split <;> omega
        by_cases eij : i = j
        · subst eij
          have := ih _ (by omega) (n + t.W i) rfl b1 b2 (fun e => hne (by rw [e]))
          have q1 := z1 i (List.mem_range.2 hi)
          rw [if_pos ⟨hc, e1⟩] at q1
          omega
        · have q1 := many_pos h _ (n + t.W i) rfl
          have q2 := many_pos h _ (n + t.W j) rfl
          have q3 := isum_two n0 (List.mem_range.2 hi) (List.mem_range.2 hj) eij
          rw [if_pos ⟨hc, e1⟩, if_pos ⟨hc', e2⟩] at q3
          omega
      · obtain ⟨_, _, _, hi, hc, e1, b1⟩ := hb.cons h
        obtain ⟨e2, b2⟩ := hb'.waste h hn k2
        have q1 := z1 i (List.mem_range.2 hi)
        have q2 := many_pos h _ (n + t.W i) rfl
        rw [if_pos ⟨hc, e1⟩] at q1
        rw [if_pos e2] at hm
        omega
      · obtain ⟨_, _, _, hi, hc, e1, b1⟩ := hb'.cons h
        obtain ⟨e2, b2⟩ := hb.waste h hn k1
        have q1 := z1 j (List.mem_range.2 hi)
        have q2 := many_pos h _ (n + t.W j) rfl
        rw [if_pos ⟨hc, e1⟩] at q1
        rw [if_pos e2] at hm
        omega
      · obtain ⟨e1, b1⟩ := hb.waste h hn k1
        obtain ⟨e2, b2⟩ := hb'.waste h hn k2
        have := ih _ (by omega) (n + 1) rfl b1 b2 hne
        rw [if_pos e1] at hm
        omega
    · match g, g', hb, hb', hne with
      | [], [], _, _, hne => exact absurd rfl hne
      | (a, i) :: g1, _, hb, _, _ => have := hb.cons h; omega
      | [], (a, i) :: g1, _, hb', _ => have := hb'.cons h; omega
/-- The first best cuts: the least kind of a sheet that best cuts can have, as soon as they can have one. -/
def firstF (t : Tab) : Nat → Nat → List (Nat × Nat)
  | 0, _ => []
  | f + 1, n => if n < t.L then
      match (List.range t.K).find? fun i => t.can n i && decide (t.P i + dn t (n + t.W i) = dn t n) with
      | some i => (n, i) :: firstF t f (n + t.W i)
      | none => firstF t f (n + 1)
    else []
theorem first_best {t : Tab} (h : t.Ok) : ∀ (f n : Nat), t.L - n ≤ f → IsBest t n (firstF t f n)
  | 0, n, hf => ⟨trivial, by rw [dn_end t (by omega)]; rfl⟩
  | f + 1, n, hf => by
    rw [firstF]
    by_cases hn : n < t.L
    · rw [if_pos hn]
      rcases hq : (List.range t.K).find? fun i => t.can n i && decide (t.P i + dn t (n + t.W i) = dn t n) with _ | i
      · simp only
        have hb := first_best h f (n + 1) (by omega)
        have hno := List.find?_eq_none.1 hq
        have e : dn t n = dn t (n + 1) := by
          rcases dn_reach h hn with e | ⟨i, hi, hc, e⟩
          · exact e
          · have := hno i (List.mem_range.2 hi)
            simp only [hc, e, decide_true, Bool.and_true, not_true_eq_false] at this
        refine ⟨hb.1.later fun a i g' eg => ?_, by rw [hb.2, e]⟩
        have h1 := hb.1
        rw [eg] at h1
        exact Nat.le_of_succ_le h1.1
      · simp only
        have hi := List.mem_range.1 (List.mem_of_find?_eq_some hq)
        have hp := List.find?_some hq
        simp only [Bool.and_eq_true, decide_eq_true_eq] at hp
        have hw := h.w i hi
        have hb := first_best h f (n + t.W i) (by omega)
        exact ⟨⟨Nat.le_refl _, hi, hp.1, hb.1⟩, by rw [wth_cons, hb.2]; exact hp.2⟩
    · rw [if_neg hn]
      exact ⟨trivial, by rw [dn_end t (by omega)]; rfl⟩
end Go.Dag
