import Derived.Test.YtnkeikhkafbokaaDag6
import Derived.Test.YtnkeikhkafbokaaDag3
/-! The mathematics of layer 2: the ribbon from its other end, its places and sheets; tables that are the same; joined ribbons, and faults. No marks besides the import's. -/
namespace Go.Dag

theorem bk_same {t t' : Tab} (h : t.Ok) (h' : t'.Ok) (hL : t'.L = t.L) (hK : t'.K = t.K) (hW : ∀ i, i < t.K → t'.W i = t.W i) (hP : ∀ i, i < t.K → t'.P i = t.P i) (hc : ∀ a i, i < t.K → t'.can a i = t.can a i) :
    ∀ (d n : Nat), t.L - n = d → bk t' n = bk t n := by
  intro d
  induction d using Nat.strongRecOn with
  | _ d ih =>
    intro n hd
    by_cases hn : n < t.L
    · rw [bk_step h' (by omega), bk_step h hn, hK, ih _ (by omega) (n + 1) rfl]
      unfold updL
      refine foldl_same _ _ _ _ fun s i hi => ?_
      have hi' := List.mem_range.1 hi
      have hw := h.w i hi'
      dsimp only
      unfold dn many
      rw [hc n i hi', hW i hi', hP i hi', ih _ (by omega) (n + t.W i) rfl]
    · rw [bk_end t' (by omega), bk_end t (by omega)]
theorem rev_rev {t : Tab} (h : t.Ok) (n : Nat) : bk (rev (rev t)) n = bk t n := by
  refine bk_same h (rev_ok (rev_ok h)) rfl rfl (fun _ _ => rfl) (fun _ _ => rfl) (fun a i hi => ?_) _ n rfl
  rw [Bool.eq_iff_iff, rev_can, rev_can]
  have eW : (rev t).W i = t.W i := rfl
  have eL : (rev t).L = t.L := rfl
  rw [eW, eL]
  constructor
  · rintro ⟨h1, h2, h3⟩
    rw [show t.L - (t.L - a - t.W i) - t.W i = a by omega] at h3
    exact h3
  · intro hc
    have hf := h.fit a i hi hc
    refine ⟨hf, by omega, ?_⟩
    rw [show t.L - (t.L - a - t.W i) - t.W i = a by omega]
    exact hc
theorem rev_many {t : Tab} (h : t.Ok) : many (rev t) 0 = many t 0 := by
  have h1 := rev_many_le h
  have h2 := rev_many_le (rev_ok h)
  have e : many (rev (rev t)) 0 = many t 0 := congrArg Prod.snd (rev_rev h 0)
  omega
theorem up_rev {t : Tab} (h : t.Ok) : ∀ n, n ≤ t.L → up (rev t) n = dn t (t.L - n) := by
  intro n
  induction n using Nat.strongRecOn with
  | _ n ih =>
    intro hn
    match n, hn, ih with
    | 0, _, _ => rw [up_zero, dn_end t (by omega)]
    | n + 1, hn, ih =>
      have hr := rev_ok h
      have i0 := ih n (by omega) (by omega)
      have w0 := up_waste hr n
      have d0 := dn_waste h (n := t.L - (n + 1)) (by omega)
      rw [show t.L - (n + 1) + 1 = t.L - n by omega] at d0
      have le1 : up (rev t) (n + 1) ≤ dn t (t.L - (n + 1)) := by
        rcases up_reach hr n with e | ⟨a, i, hi, hc, ea, e⟩
        · omega
        · have hw := h.w i hi
          have ea : a + t.W i = n + 1 := ea
          have e : up (rev t) a + t.P i = up (rev t) (n + 1) := e
          obtain ⟨h1, h2⟩ := rev_can.1 hc
          have ia := ih a (by omega) (by omega)
          rw [show t.L - a - t.W i = t.L - (n + 1) by omega] at h2
          have := dn_sheet h (n := t.L - (n + 1)) (by omega) hi h2
          rw [show t.L - (n + 1) + t.W i = t.L - a by omega] at this
          omega
      have ge1 : dn t (t.L - (n + 1)) ≤ up (rev t) (n + 1) := by
        rcases dn_reach h (n := t.L - (n + 1)) (by omega) with e | ⟨i, hi, hc, e⟩
        · rw [show t.L - (n + 1) + 1 = t.L - n by omega] at e
          omega
        · have hw := h.w i hi
          have hf := h.fit _ i hi hc
          have ia := ih (n + 1 - t.W i) (by omega) (by omega)
          rw [show t.L - (n + 1 - t.W i) = t.L - (n + 1) + t.W i by omega] at ia
          have hc' : (rev t).can (n + 1 - t.W i) i = true := rev_can.2 ⟨by omega, by
            rw [show t.L - (n + 1 - t.W i) - t.W i = t.L - (n + 1) by omega]; exact hc⟩
          have := up_sheet hr (a := n + 1 - t.W i) (i := i) hi hc'
          rw [show n + 1 - t.W i + (rev t).W i = n + 1 by show n + 1 - t.W i + t.W i = n + 1; omega] at this
          have this : up (rev t) (n + 1 - t.W i) + t.P i ≤ up (rev t) (n + 1) := this
          omega
      omega
theorem dn_rev {t : Tab} (h : t.Ok) {n : Nat} (hn : n ≤ t.L) : dn (rev t) n = up t (t.L - n) := by
  have h1 := up_rev (rev_ok h) (t.L - n) (by show t.L - n ≤ t.L; omega)
  have e1 : (rev t).L = t.L := rfl
  rw [e1, show t.L - (t.L - n) = n by omega] at h1
  rw [← h1]
  -- up of the table turned twice is up of the table
  have key : ∀ m, up (rev (rev t)) m = up t m := by
    intro m
    induction m using Nat.strongRecOn with
    | _ m ih =>
      match m, ih with
      | 0, _ => rfl
      | m + 1, ih =>
        rw [up_step (rev_ok (rev_ok h)) m, up_step h m, ih m (by omega)]
        unfold maxL
        refine foldl_same _ _ _ _ fun s i hi => ?_
        have hi' := List.mem_range.1 hi
        have hw := h.w i hi'
        dsimp only
        have eW : (rev (rev t)).W i = t.W i := rfl
        have eP : (rev (rev t)).P i = t.P i := rfl
        have ec : canTo (rev (rev t)) (m + 1) i = canTo t (m + 1) i := by
          unfold canTo
          rw [eW, Bool.eq_iff_iff]
          simp only [Bool.and_eq_true, decide_eq_true_eq]
          refine and_congr_right fun hle => ?_
          rw [rev_can, rev_can]
          have eW2 : (rev t).W i = t.W i := rfl
          rw [eW2, e1]
          constructor
          · rintro ⟨h1, h2, h3⟩
            rw [show t.L - (t.L - (m + 1 - t.W i) - t.W i) - t.W i = m + 1 - t.W i by omega] at h3
            exact h3
          · intro hc
            have hf := h.fit _ i hi' hc
            refine ⟨hf, by omega, ?_⟩
            rw [show t.L - (t.L - (m + 1 - t.W i) - t.W i) - t.W i = m + 1 - t.W i by omega]
            exact hc
        rw [ec, eW, eP, ih (m + 1 - t.W i) (by omega)]
  exact key _
theorem on_rev {t : Tab} (h : t.Ok) {n : Nat} (hn : n ≤ t.L) : On (rev t) n ↔ On t (t.L - n) := by
  unfold On
  rw [up_rev h n hn, dn_rev h hn, rev_worth h]
  omega
theorem best_rev {t : Tab} (h : t.Ok) {a i : Nat} (hb : Best t a i) : a + t.W i ≤ t.L ∧ Best (rev t) (t.L - a - t.W i) i := by
  obtain ⟨h1, h2, h3, h4⟩ := hb
  have hf := h.fit a i h1 h2
  have hw := h.w i h1
  obtain ⟨o1, e1⟩ := (sheet_iff h h1 h2).1 ⟨h3, h4⟩
  have hc : (rev t).can (t.L - a - t.W i) i = true := rev_can.2 ⟨by omega, by
    rw [show t.L - (t.L - a - t.W i) - t.W i = a by omega]; exact h2⟩
  have eW : t.L - a - t.W i + (rev t).W i = t.L - a := by show t.L - a - t.W i + t.W i = t.L - a; omega
  refine ⟨hf, h1, hc, ?_, ?_⟩
  · rw [eW, up_rev h _ (by omega), up_rev h _ (by omega), show t.L - (t.L - a - t.W i) = a + t.W i by omega, show t.L - (t.L - a) = a by omega]
    show dn t (a + t.W i) + t.P i = dn t a
    omega
  · rw [eW, on_rev h (by omega), show t.L - (t.L - a) = a by omega]
    exact o1

/-! ## Ribbons with the same faults; more faults; joined ribbons -/
theorem nf_same {r r' : RibD} {x y n : Nat} (h : ∀ u, u < n → isF r' ((y + u : Nat) : Int) = isF r ((x + u : Nat) : Int)) : nf r' y n = nf r x n := by
  unfold nf
  refine isum_same fun u hu => ?_
  rw [h u (List.mem_range.1 hu)]
theorem nf_mono {r r' : RibD} {x n : Nat} (h : ∀ u : Int, isF r u = true → isF r' u = true) : nf r x n ≤ nf r' x n := by
  unfold nf
  generalize List.range n = us
  induction us with
  | nil => exact Int.le_refl _
  | cons u us ih =>
    rw [isum_cons, isum_cons]
    have : (if isF r ((x + u : Nat) : Int) = true then (1 : Int) else 0) ≤ if isF r' ((x + u : Nat) : Int) = true then 1 else 0 := by
      by_cases c : isF r ((x + u : Nat) : Int) = true
      · rw [if_pos c, if_pos (h _ c)]; omega
      · rw [if_neg c]; split <;> omega
    omega
/-- With more faults best cuts are worth no more. -/
theorem fewer_faults {r r' : RibD} {ks : List KindD} (h0 : 0 ≤ r.len) (hk : KindsOk ks) (hl : r'.len = r.len) (h : ∀ u : Int, isF r u = true → isF r' u = true) (n : Nat) : dn (tabOf r' ks) n ≤ dn (tabOf r ks) n := by
  refine dn_more (t := tabOf r' ks) (t' := tabOf r ks) (tabOf_ok (by omega) hk) (tabOf_ok h0 hk) (by simp only [tabOf]; rw [hl]) (fun a i hi hc => ⟨i, hi, ?_, rfl, Int.le_refl _⟩) _ n rfl
  have hc : canB r' (kd ks i) a = true := hc
  show canB r (kd ks i) a = true
  unfold canB at hc ⊢
  simp only [Bool.and_eq_true, decide_eq_true_eq] at hc ⊢
  have := nf_mono (x := a) (n := (kd ks i).w.toNat) h
  omega
theorem tab_same {r r' : RibD} {ks : List KindD} (hk : KindsOk ks) (hl : r'.len = r.len) (h : ∀ u : Int, 0 ≤ u → u < r.len → isF r' u = isF r u) : tabOf r' ks = tabOf r ks := by
  unfold tabOf
  rw [hl]
  congr 1
  funext a i
  have hw := kd_w hk i
  rw [Bool.eq_iff_iff]
  simp only [canB, Bool.and_eq_true, decide_eq_true_eq]
  rw [hl]
  refine and_congr_right fun hle => ?_
  rw [nf_same (r := r) (x := a) fun u hu => h _ (by omega) (by omega)]
end Go.Dag
