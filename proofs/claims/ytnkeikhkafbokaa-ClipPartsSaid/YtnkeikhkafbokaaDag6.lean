import Derived.Test.YtnkeikhkafbokaaDag5
/-! The mathematics of layer 2: all best cuts as a list, and the ribbon seen from its other end. No marks besides the import's. -/
namespace Go.Dag

/-! ## All best cuts -/
def bestsF (t : Tab) : Nat → Nat → List (List (Nat × Nat))
  | 0, _ => [[]]
  | f + 1, n => if n < t.L then (if dn t (n + 1) = dn t n then bestsF t f (n + 1) else []) ++
      (List.range t.K).flatMap fun i => if t.can n i = true ∧ t.P i + dn t (n + t.W i) = dn t n then (bestsF t f (n + t.W i)).map fun g => (n, i) :: g else []
    else [[]]
theorem flat_len {α : Type} (xs : List Nat) (f : Nat → List α) : ((xs.flatMap f).length : Int) = isum xs fun i => ((f i).length : Int) := by
  induction xs with
  | nil => rfl
  | cons x xs ih => rw [List.flatMap_cons, List.length_append, isum_cons, Int.natCast_add, ih]
theorem bests_len {t : Tab} (h : t.Ok) : ∀ (f n : Nat), t.L - n ≤ f → ((bestsF t f n).length : Int) = many t n
  | 0, n, hf => by rw [many_end t (by omega)]; rfl
  | f + 1, n, hf => by
    rw [bestsF]
    by_cases hn : n < t.L
    · rw [if_pos hn, List.length_append, Int.natCast_add, flat_len, many_step h hn]
      congr 1
      · by_cases c : dn t (n + 1) = dn t n
        · rw [if_pos c, if_pos c, bests_len h f (n + 1) (by omega)]
        · rw [if_neg c, if_neg c]; rfl
      · refine isum_same fun i hi => ?_
        have hw := h.w i (List.mem_range.1 hi)
        by_cases c : t.can n i = true ∧ t.P i + dn t (n + t.W i) = dn t n
        · rw [if_pos c, if_pos c, List.length_map, bests_len h f (n + t.W i) (by omega)]
        · rw [if_neg c, if_neg c]; rfl
    · rw [if_neg hn, many_end t (by omega)]; rfl
theorem bests_mem {t : Tab} (h : t.Ok) : ∀ (f n : Nat), t.L - n ≤ f → ∀ (g : List (Nat × Nat)), g ∈ bestsF t f n ↔ IsBest t n g
  | 0, n, hf, g => by
    rw [bestsF, List.mem_singleton]
    constructor
    · rintro rfl
      exact ⟨trivial, by rw [dn_end t (by omega)]; rfl⟩
    · intro hb
      match g, hb with
      | [], _ => rfl
      | (a, i) :: g, hb => have := hb.cons h; omega
  | f + 1, n, hf, g => by
    rw [bestsF]
    by_cases hn : n < t.L
    · rw [if_pos hn, List.mem_append, List.mem_flatMap]
      constructor
      · rintro (h1 | ⟨i, hi, h1⟩)
        · by_cases c : dn t (n + 1) = dn t n
          · rw [if_pos c] at h1
            have hb := (bests_mem h f (n + 1) (by omega) g).1 h1
            refine ⟨hb.1.later fun a i g' eg => ?_, by rw [hb.2, c]⟩
            have h2 := hb.1
            rw [eg] at h2
            exact Nat.le_of_succ_le h2.1
          · rw [if_neg c] at h1; cases h1
        · have hi' := List.mem_range.1 hi
          have hw := h.w i hi'
          by_cases c : t.can n i = true ∧ t.P i + dn t (n + t.W i) = dn t n
          · rw [if_pos c] at h1
            obtain ⟨g', hg', rfl⟩ := List.mem_map.1 h1
            have hb := (bests_mem h f (n + t.W i) (by omega) g').1 hg'
            exact ⟨⟨Nat.le_refl _, hi', c.1, hb.1⟩, by rw [wth_cons, hb.2]; exact c.2⟩
          · rw [if_neg c] at h1; cases h1
      · intro hb
        by_cases k : ∃ i g', g = (n, i) :: g'
        · obtain ⟨i, g', rfl⟩ := k
          obtain ⟨_, _, _, h4, h5, h6, h7⟩ := hb.cons h
          have hw := h.w i h4
          refine .inr ⟨i, List.mem_range.2 h4, ?_⟩
          rw [if_pos ⟨h5, h6⟩]
          exact List.mem_map.2 ⟨g', (bests_mem h f (n + t.W i) (by omega) g').2 h7, rfl⟩
        · obtain ⟨e, hb'⟩ := hb.waste h hn fun a i g' eg => by
            subst eg
            have h1 := (hb.cons h).1
            have h2 : a ≠ n := fun e => k ⟨i, g', by rw [e]⟩
            omega
          refine .inl ?_
          rw [if_pos e]
          exact (bests_mem h f (n + 1) (by omega) g).2 hb'
    · rw [if_neg hn, List.mem_singleton]
      constructor
      · rintro rfl
        exact ⟨trivial, by rw [dn_end t (by omega)]; rfl⟩
      · intro hb
        match g, hb with
        | [], _ => rfl
        | (a, i) :: g, hb => have := hb.cons h; omega
theorem bests_nodup {t : Tab} (h : t.Ok) : ∀ (f n : Nat), t.L - n ≤ f → (bestsF t f n).Nodup
  | 0, n, hf => by simp [bestsF]
  | f + 1, n, hf => by
    rw [bestsF]
    by_cases hn : n < t.L
    · rw [if_pos hn, List.nodup_append]
      refine ⟨?_, ?_, fun g hg g' hg' e => ?_⟩
      · split
        · exact bests_nodup h f (n + 1) (by omega)
        · exact List.nodup_nil
      · unfold List.Nodup
        rw [List.pairwise_flatMap]
        constructor
        · intro i hi
          have hw := h.w i (List.mem_range.1 hi)
          split
          · have := bests_nodup h f (n + t.W i) (by omega)
            unfold List.Nodup at this
            rw [List.pairwise_map]
            exact this.imp fun hne e => hne (List.cons.inj e).2
          · exact List.Pairwise.nil
        · refine (List.nodup_range (n := t.K)).imp fun {i j} hne g hg g' hg' e => ?_
          split at hg
          · split at hg'
            · obtain ⟨g1, _, rfl⟩ := List.mem_map.1 hg
              obtain ⟨g2, _, rfl⟩ := List.mem_map.1 hg'
              exact hne (congrArg Prod.snd (List.cons.inj e).1)
            · cases hg'
          · cases hg
      · subst e
        obtain ⟨i, hi, hg'⟩ := List.mem_flatMap.1 hg'
        split at hg'
        · obtain ⟨g1, _, rfl⟩ := List.mem_map.1 hg'
          split at hg
          · have := (bests_mem h f (n + 1) (by omega) _).1 hg
            have := this.1.1
            omega
          · cases hg
        · cases hg'
    · rw [if_neg hn]; simp

/-! ## The ribbon seen from its other end -/
def rev (t : Tab) : Tab := { t with can := fun a i => decide (a + t.W i ≤ t.L) && t.can (t.L - a - t.W i) i }
theorem rev_can {t : Tab} {a i : Nat} : (rev t).can a i = true ↔ a + t.W i ≤ t.L ∧ t.can (t.L - a - t.W i) i = true := by simp [rev]
theorem rev_ok {t : Tab} (h : t.Ok) : (rev t).Ok := ⟨h.w, h.p, fun _ _ _ hc => (rev_can.1 hc).1⟩
/-- Cuts between two places. -/
def Seg (t : Tab) : Nat → Nat → List (Nat × Nat) → Prop
  | n, m, [] => n ≤ m
  | n, m, (a, i) :: g => n ≤ a ∧ i < t.K ∧ t.can a i = true ∧ Seg t (a + t.W i) m g
theorem seg_of {t : Tab} (h : t.Ok) : ∀ {g : List (Nat × Nat)} {n : Nat}, n ≤ t.L → IsCuts t n g → Seg t n t.L g
  | [], _, hn, _ => hn
  | (a, i) :: _, _, _, hc => ⟨hc.1, hc.2.1, hc.2.2.1, seg_of h (h.fit a i hc.2.1 hc.2.2.1) hc.2.2.2⟩
theorem Seg.cuts {t : Tab} : ∀ {g : List (Nat × Nat)} {n m : Nat}, Seg t n m g → IsCuts t n g
  | [], _, _, _ => trivial
  | (_, _) :: _, _, _, hc => ⟨hc.1, hc.2.1, hc.2.2.1, Seg.cuts hc.2.2.2⟩
theorem Seg.le {t : Tab} : ∀ {g : List (Nat × Nat)} {n m : Nat}, Seg t n m g → n ≤ m
  | [], _, _, hc => hc
  | (a, i) :: _, n, m, hc => by have := Seg.le hc.2.2.2; have := hc.1; omega
theorem Seg.append {t : Tab} : ∀ {g g' : List (Nat × Nat)} {n m m' k : Nat}, Seg t n m g → m ≤ m' → Seg t m' k g' → Seg t n k (g ++ g')
  | [], [], _, _, _, _, h1, h2, h3 => by have := Seg.le h3; have : _ ≤ _ := h1; exact Nat.le_trans h1 (Nat.le_trans h2 h3)
  | [], (a, i) :: g', n, m, m', k, h1, h2, h3 => ⟨Nat.le_trans h1 (Nat.le_trans h2 h3.1), h3.2⟩
  | (a, i) :: g, g', _, _, _, _, h1, h2, h3 => ⟨h1.1, h1.2.1, h1.2.2.1, Seg.append h1.2.2.2 h2 h3⟩
def rv (t : Tab) (g : List (Nat × Nat)) : List (Nat × Nat) := (g.map fun s => (t.L - s.1 - t.W s.2, s.2)).reverse
theorem rv_cons (t : Tab) (s : Nat × Nat) (g : List (Nat × Nat)) : rv t (s :: g) = rv t g ++ [(t.L - s.1 - t.W s.2, s.2)] := by simp [rv]
theorem seg_rev {t : Tab} (h : t.Ok) : ∀ {g : List (Nat × Nat)} {n m : Nat}, m ≤ t.L → Seg t n m g → Seg (rev t) (t.L - m) (t.L - n) (rv t g)
  | [], n, m, _, hc => by
    have hc : n ≤ m := hc
    show t.L - m ≤ t.L - n
    omega
  | (a, i) :: g, n, m, hm, hc => by
    obtain ⟨h1, h2, h3, h4⟩ := hc
    have hf := h.fit a i h2 h3
    rw [rv_cons]
    dsimp only
    refine (seg_rev h hm h4).append (m' := t.L - a - t.W i) (by omega) ⟨Nat.le_refl _, h2, rev_can.2 ⟨by omega, ?_⟩, ?_⟩
    · rw [show t.L - (t.L - a - t.W i) - t.W i = a by omega]
      exact h3
    · show t.L - a - t.W i + t.W i ≤ t.L - n
      omega
theorem isum_append {α : Type} (xs ys : List α) (f : α → Int) : isum (xs ++ ys) f = isum xs f + isum ys f := by simp [isum]
theorem wth_rv (t : Tab) (g : List (Nat × Nat)) : wth (rev t) (rv t g) = wth t g := by
  induction g with
  | nil => rfl
  | cons s g ih =>
    rw [rv_cons, wth_cons, wth, isum_append, ← wth, ih, isum_cons]
    simp only [isum, List.map_nil, List.sum_nil, rev]
    omega
theorem rv_rv {t : Tab} (h : t.Ok) : ∀ {g : List (Nat × Nat)} {n : Nat}, IsCuts t n g → rv t (rv t g) = g
  | [], _, _ => rfl
  | (a, i) :: g, n, hc => by
    obtain ⟨h1, h2, h3, h4⟩ := hc
    have hf := h.fit a i h2 h3
    have := rv_rv h h4
    rw [rv_cons]
    unfold rv at this ⊢
    rw [List.map_append, List.reverse_append, this]
    simp only [List.map_cons, List.map_nil, List.reverse_cons, List.reverse_nil, List.nil_append, List.singleton_append]
    rw [show t.L - (t.L - a - t.W i) - t.W i = a by omega]
theorem rev_cuts {t : Tab} (h : t.Ok) {g : List (Nat × Nat)} (hc : IsCuts t 0 g) : IsCuts (rev t) 0 (rv t g) := by
  have := seg_rev h (Nat.le_refl _) (seg_of h (Nat.zero_le _) hc)
  rw [Nat.sub_self] at this
  exact this.cuts
theorem cuts_rev {t : Tab} (h : t.Ok) : ∀ {g : List (Nat × Nat)} {n : Nat}, IsCuts (rev (rev t)) n g → IsCuts t n g
  | [], _, _ => trivial
  | (a, i) :: g, n, hc => by
    obtain ⟨h1, h2, h3, h4⟩ := hc
    obtain ⟨h5, h6⟩ := rev_can.1 h3
    obtain ⟨h7, h8⟩ := rev_can.1 h6
    have h5 : a + t.W i ≤ t.L := h5
    have h8 : t.can (t.L - (t.L - a - t.W i) - t.W i) i = true := h8
    rw [show t.L - (t.L - a - t.W i) - t.W i = a by omega] at h8
    exact ⟨h1, h2, h8, cuts_rev h h4⟩
theorem rev_worth {t : Tab} (h : t.Ok) : dn (rev t) 0 = dn t 0 := by
  have f1 := first_best h t.L 0 (Nat.le_refl _)
  have f2 := first_best (rev_ok h) t.L 0 (Nat.le_refl _)
  have l1 := (rev_cuts h f1.1).le (rev_ok h)
  have l2 := (cuts_rev h (rev_cuts (rev_ok h) f2.1)).le h
  rw [wth_rv, f1.2] at l1
  have e : wth t (rv (rev t) (firstF (rev t) t.L 0)) = wth (rev t) (firstF (rev t) t.L 0) := wth_rv (rev t) _
  rw [e, f2.2] at l2
  omega
theorem nodup_le {α : Type} [DecidableEq α] : ∀ {xs ys : List α}, xs.Nodup → (∀ x ∈ xs, x ∈ ys) → xs.length ≤ ys.length
  | [], _, _, _ => Nat.zero_le _
  | x :: xs, ys, h1, h2 => by
    have hx := h2 x List.mem_cons_self
    obtain ⟨h3, h4⟩ := List.nodup_cons.1 h1
    have := nodup_le (ys := ys.erase x) h4 fun y hy => (List.mem_erase_of_ne (fun (e : y = x) => h3 (e ▸ hy))).2 (h2 y (List.mem_cons_of_mem _ hy))
    have e := List.length_erase_of_mem hx
    have := List.length_pos_of_mem hx
    rw [List.length_cons]
    omega
theorem rev_many_le {t : Tab} (h : t.Ok) : many t 0 ≤ many (rev t) 0 := by
  have b1 := bests_len h t.L 0 (Nat.le_refl _)
  have b2 := bests_len (rev_ok h) t.L 0 (Nat.le_refl _)
  rw [← b1, ← b2]
  have hn : ((bestsF t t.L 0).map (rv t)).Nodup := by
    unfold List.Nodup
    rw [List.pairwise_map]
    have := bests_nodup h t.L 0 (Nat.le_refl _)
    unfold List.Nodup at this
    refine this.imp_of_mem fun {g g'} hg hg' hne e => hne ?_
    have m1 := (bests_mem h t.L 0 (Nat.le_refl _) g).1 hg
    have m2 := (bests_mem h t.L 0 (Nat.le_refl _) g').1 hg'
    rw [← rv_rv h m1.1, ← rv_rv h m2.1, e]
  have := nodup_le hn (ys := bestsF (rev t) t.L 0) fun x hx => by
    obtain ⟨g, hg, rfl⟩ := List.mem_map.1 hx
    have m1 := (bests_mem h t.L 0 (Nat.le_refl _) g).1 hg
    exact (bests_mem (rev_ok h) t.L 0 (Nat.le_refl _) _).2 ⟨rev_cuts h m1.1, by rw [wth_rv, m1.2, rev_worth h]⟩
  rw [List.length_map] at this
  omega
end Go.Dag
