import Derived.Test.YtnkeikhkafbokaaRf
namespace Go.Proofs.Ytnkeikhkafbokaa
open Go.RowKit Go.Dag Go.Sort Go.Shelf
attribute [local go_sem] Oper.semAt_some

/-! ## Whether cuts part a place -/
def partsN (ks : List KindD) (G : List (Nat × Nat)) (m : Nat) : Bool := G.all fun s => !(decide (s.1 < m) && decide (m < s.1 + (kd ks s.2).w.toNat))
set_option maxRecDepth 100000 in
set_option maxHeartbeats 8000000 in
theorem parts_any (kv cv : Value) (ks : List KindD) (G : List (Nat × Nat)) (m : Nat) (w : World) (hk : KindsAt w kv ks) (hc : PairsAt w cv (G.map intP)) (hks : KindsOk ks) (hG : ∀ s ∈ G, s.1 ≤ 24 ∧ s.2 < ks.length) (hl : G.length ≤ 1000) :
    Calls Try.prog 44 #[kv, cv, .int .i64 (m : Int)] w fun e w' => e = .returned (.bool (partsN ks G m)) ∧ Below w.heap.size w w' := by
  obtain ⟨gl, hgl⟩ : ∃ gl, G.map intP = gl := ⟨_, rfl⟩
  rw [hgl] at hc
  have HLG := Lib.hid (show gl.length = G.length by rw [← hgl, List.length_map])
  have HGG := Lib.hid hgl.symm
  obtain ⟨ca, cc, rfl⟩ := hc.slice
  obtain ⟨ka, kcap, rfl⟩ := hk.slice
  have HC := Lib.hid hc
  have HK := Lib.hid hk
  have HKO := Lib.hid hks
  have HGB := Lib.hid hG
  have hgl1 : gl.length ≤ 1000 := by have := HLG.out; omega
  clear hgl hc hk hks hG
  go_enter Try.func44, Try.ntmps44
  go_wp2
  go_loopw [7] (fun s wr => ∃ k : Nat, k ≤ gl.length ∧ s = .int .i64 k ∧ partsN ks (G.take k) m = true ∧ Below w.heap.size w wr) (fun s _ => gl.length - (intOf s).toNat)
  case atStart => exact ⟨0, Nat.zero_le _, rfl, rfl, Below.refl _ _⟩
  case round =>
    obtain ⟨k, hk, rfl, hp, hB⟩ := hrel
    have HP := Lib.hid hp
    have HBW := Lib.hid hB
    clear hp hB
    by_cases hlt : k < gl.length
    · have hkg : k < G.length := by have := HLG.out; omega
      have ex : gl[k] = intP G[k] := by simp only [HGG.out, List.getElem_map]
      obtain ⟨pb, poff, rfl, x1, x2⟩ := HC.out.at.2 k hlt
      rw [ex] at x1 x2
      obtain ⟨hgb1, hgb2⟩ := HGB.out _ (List.getElem_mem hkg)
      have htk := List.take_succ_eq_append_getElem hkg
      have hnk : partsN ks (G.take (k + 1)) m = (partsN ks (G.take k) m && !(decide (G[k].1 < m) && decide (m < G[k].1 + (kd ks G[k].2).w.toNat))) := by
        unfold partsN
        rw [htk, List.all_append]
        simp only [List.all_cons, List.all_nil, Bool.and_true]
      rw [HP.out, Bool.true_and] at hnk
      have hall : partsN ks G m = true → partsN ks (G.take (k + 1)) m = true := by
        intro h
        unfold partsN at h ⊢
        rw [List.all_eq_true] at h ⊢
        exact fun x hx => h x (List.mem_of_mem_take hx)
      obtain ⟨gp, hgp⟩ : ∃ p, G[k] = p := ⟨_, rfl⟩
      rw [hgp] at x1 x2 hgb1 hgb2 hnk
      obtain ⟨a, i⟩ := gp
      simp only [intP] at x1 x2 hgb1 hgb2 hnk
      have hkd := kd_get hgb2
      have hko := kd_ok HKO.out hgb2
      rw [hkd] at hko hnk
      obtain ⟨Wn, hWn⟩ : ∃ Wn : Nat, ks[i].w = (Wn : Int) := ⟨ks[i].w.toNat, by have := hko.w1; omega⟩
      have hW24 : Wn ≤ 24 := by have := hko.w2; omega
      obtain ⟨kb, koff, hka, cw, cp, cm⟩ := HK.out.get i hgb2
      rw [hWn] at cw hnk
      subst hka
      rw [Int.toNat_natCast] at hnk
      have g1 := fun d os => cell_regrown (cellB x1 HBW.out) d os
      have g2 := fun d os => cell_regrown (cellB x2 HBW.out) d os
      have g3 := fun d os => cell_regrown (cellB cw HBW.out) d os
      have ww : IntKind.i64.wrap ((a : Int) + (Wn : Int)) = (a : Int) + (Wn : Int) := IntWalk.i64_in _ (by omega)
      have HNK := Lib.hid hnk
      have HALL := Lib.hid hall
      clear x1 x2 cw cp cm hkd hko hWn hnk hall htk hgp ex
      by_cases p1 : a < m
      case neg =>
        have d1 : decide ((a : Int) < (m : Int)) = false := by simp; omega
        have d2 : decide (a < m) = false := by simp; omega
        have HR1 := Lib.hid (show partsN ks (G.take (k + 1)) m = true by rw [HNK.out, d2]; rfl)
        go_wp2_with fail
        refine wp_region_quiet_below (by kernel_rfl) (by kernel_rfl) ?_
        have hun : undef = Value.tuple #[] := rfl
        repeat (
          with_reducible refine wpQuiet_step (fun K hK => ?_)
          go_simp
          first
            | (with_reducible refine hK _ ?_; clear hK K)
            | (apply Exists.intro; refine ⟨fun _ => ?_, hK _ ?_⟩; (fail); clear hK K))
        rw [← hun]
        refine wpQuiet_nil ?_
        intro _ hw'
        obtain ⟨⟨dq, osq⟩, hw''⟩ := hw'
        subst hw''
        have HBW2 := Lib.hid (bC HBW.out (below_regrown wr dq osq))
        clear g1 g2 g3 hun
        generalize grow (redrawn wr dq) osq = w3 at *
        go_wp2
        rename_i wr8
        go_roundw
        case rel => exact ⟨k + 1, by omega, by go_num, HR1.out, HBW2.out⟩
        case measure => simp [intOf]; omega
      have d1 : decide ((a : Int) < (m : Int)) = true := by simp; omega
      have d2 : decide (a < m) = true := by simp; omega
      by_cases p2 : m < a + Wn
      · have e1 : decide ((a : Int) + (Wn : Int) > (m : Int)) = true := by simp; omega
        have e2 : decide ((m : Int) < (a : Int) + (Wn : Int)) = true := by simp; omega
        have e3 : decide (m < a + Wn) = true := by simp; omega
        have HF := Lib.hid (show false = partsN ks G m by
          cases hq : partsN ks G m with
          | false => rfl
          | true =>
            have h1 := HALL.out hq
            rw [HNK.out, d2, e3] at h1
            exact h1)
        go_wp2_with fail
        refine wp_region_quiet_below (by kernel_rfl) (by kernel_rfl) ?_
        repeat (quiet_step (fail))
        refine wpQuiet_nil ?_
        intro _ hw'
        obtain ⟨⟨dq, osq⟩, hw''⟩ := hw'
        subst hw''
        have HBW2 := Lib.hid (bC HBW.out (below_regrown wr dq osq))
        clear g1 g2 g3
        generalize grow (redrawn wr dq) osq = w3 at *
        go_wp2
        go_ret
        exact ⟨ret_bool HF.out, HBW2.out⟩
      · have e1 : decide ((a : Int) + (Wn : Int) > (m : Int)) = false := by simp; omega
        have e2 : decide ((m : Int) < (a : Int) + (Wn : Int)) = false := by simp; omega
        have e3 : decide (m < a + Wn) = false := by simp; omega
        have HR1 := Lib.hid (show partsN ks (G.take (k + 1)) m = true by rw [HNK.out, d2, e3]; rfl)
        go_wp2_with fail
        refine wp_region_quiet_below (by kernel_rfl) (by kernel_rfl) ?_
        repeat (quiet_step (fail))
        refine wpQuiet_nil ?_
        intro _ hw'
        obtain ⟨⟨dq, osq⟩, hw''⟩ := hw'
        subst hw''
        have HBW2 := Lib.hid (bC HBW.out (below_regrown wr dq osq))
        clear g1 g2 g3
        generalize grow (redrawn wr dq) osq = w3 at *
        go_wp2
        rename_i wr8
        go_roundw
        case rel => exact ⟨k + 1, by omega, by go_num, HR1.out, HBW2.out⟩
        case measure => simp [intOf]; omega
    · obtain rfl : k = gl.length := by omega
      have HT := Lib.hid (show true = partsN ks G m by
        have h := HP.out
        rw [List.take_of_length_le (by have := HLG.out; omega)] at h
        exact h.symm)
      have dk : decide ((gl.length : Int) < (gl.length : Int)) = false := by simp
      go_wp2
      go_ret
      exact ⟨ret_bool HT.out, HBW.out⟩
/-! ## What is told of a place that is parted -/
theorem cuts_mem {r : RibD} {ks : List KindD} (hr : RibOk r) (hks : KindsOk ks) {g : List (Nat × Nat)} (hc : IsCuts (tabOf r ks) 0 g) : ∀ s ∈ g, s.1 ≤ 24 ∧ s.2 < ks.length := by
  have h0 : 0 ≤ r.len := by have := hr.l1; omega
  have h := (cuts_all h0 hks hc).1
  rw [List.all_eq_true] at h
  intro s hs
  have h2 := h (intP s) (List.mem_map_of_mem hs)
  unfold namedB intP at h2
  simp only [Bool.and_eq_true, decide_eq_true_eq] at h2
  obtain ⟨⟨_, h3⟩, _, h4⟩ := h2
  have := hr.l2
  exact ⟨by omega, by omega⟩
theorem parts_best {r : RibD} {ks : List KindD} (hr : RibOk r) (hks : KindsOk ks) {m : Nat} (hm : m ≤ (tabOf r ks).L) {g : List (Nat × Nat)} (hb : IsBest (tabOf r ks) 0 g) :
    (partV (tabOf r ks) m = 0 → partsN ks g m = false) ∧ (partV (tabOf r ks) m = 2 → partsN ks g m = true) := by
  have ht := tabOf_ok (r := r) (ks := ks) (by have := hr.l1; omega) hks
  have hW : ∀ i, (tabOf r ks).W i = (kd ks i).w.toNat := fun _ => rfl
  constructor
  · intro hp
    have hno : ¬ On (tabOf r ks) m := by
      intro ho
      unfold partV at hp
      rw [if_pos ho] at hp
      split at hp <;> omega
    cases hq : partsN ks g m with
    | false => rfl
    | true =>
      refine absurd (best_parts ht hm (Nat.zero_le _) (on_zero _) hb fun s hs hx => ?_) hno
      unfold partsN at hq
      have h := List.all_eq_true.1 hq s hs
      rw [hW] at hx
      simp [hx.1, hx.2] at h
  · intro hp
    unfold partV at hp
    by_cases ho : On (tabOf r ks) m
    · rw [if_pos ho] at hp
      by_cases hc : crossB (tabOf r ks) m = true
      · rw [if_pos hc] at hp; omega
      · unfold partsN
        rw [List.all_eq_true]
        intro s hs
        have hB := best_all ht (Nat.zero_le _) (on_zero _) hb s hs
        by_cases h1 : s.1 < m
        · by_cases h2 : m < s.1 + (kd ks s.2).w.toNat
          · exact absurd ((crossB_iff _ _).2 ⟨s.1, s.2, hB, h1, by rw [hW]; exact h2⟩) hc
          · simp [h2]
        · simp [h1]
    · rw [if_neg ho] at hp; omega
theorem parted_facts {r : RibD} {ks : List KindD} (hr : RibOk r) (hks : KindsOk ks) {m : Nat} (h1 : 1 ≤ m) (h2 : (m : Int) < r.len) :
    RibOk (piece r 0 m) ∧ RibOk (piece r m r.len) ∧ partedErr r m = 0 ∧ partedV r ks m = partV (tabOf r ks) m ∧
    0 ≤ dn (tabOf (piece r 0 m) ks) 0 ∧ 0 ≤ dn (tabOf (piece r m r.len) ks) 0 ∧ dn (tabOf (piece r 0 m) ks) 0 + dn (tabOf (piece r m r.len) ks) 0 ≤ dn (tabOf r ks) 0 ∧ dn (tabOf r ks) 0 ≤ 24000 ∧
    1 ≤ many (tabOf (piece r 0 m) ks) 0 ∧ 1 ≤ many (tabOf (piece r m r.len) ks) 0 ∧ 1 ≤ many (tabOf r ks) 0 ∧ many (tabOf r ks) 0 ≤ 4738381338321616896 ∧
    ((partV (tabOf r ks) m = 0 ∧ dn (tabOf (piece r 0 m) ks) 0 + dn (tabOf (piece r m r.len) ks) 0 ≠ dn (tabOf r ks) 0) ∨
     (partV (tabOf r ks) m = 1 ∧ dn (tabOf (piece r 0 m) ks) 0 + dn (tabOf (piece r m r.len) ks) 0 = dn (tabOf r ks) 0 ∧ many (tabOf (piece r 0 m) ks) 0 * many (tabOf (piece r m r.len) ks) 0 < many (tabOf r ks) 0) ∨
     (partV (tabOf r ks) m = 2 ∧ dn (tabOf (piece r 0 m) ks) 0 + dn (tabOf (piece r m r.len) ks) 0 = dn (tabOf r ks) 0 ∧ many (tabOf (piece r 0 m) ks) 0 * many (tabOf (piece r m r.len) ks) 0 = many (tabOf r ks) 0)) := by
  have h0 : 0 ≤ r.len := by omega
  have ht := tabOf_ok (r := r) (ks := ks) h0 hks
  have hL : (tabOf r ks).L = r.len.toNat := rfl
  have hm : m ≤ (tabOf r ks).L := by omega
  have hr2 := hr.l2
  have hK : (tabOf r ks).K ≤ 6 := hks.1.2
  obtain ⟨q1, q2, q3⟩ := parted_spec ht hm
  have hpr := partV_ref ht hm
  have hm1 := many_le ht hK _ 0 rfl
  have hm2 : (6 : Int) ^ ((tabOf r ks).L - 0) ≤ 6 ^ 24 := by
    have : (tabOf r ks).L - 0 ≤ 24 := by omega
    exact_mod_cast Nat.pow_le_pow_right (by omega) this
  have b1 := (tabOf_dn h0 hr2 hks 0)
  rw [tab_pre hks (by omega), tab_suf hks (by omega)]
  refine ⟨piece_ok hr (by omega) (by omega) (by omega), piece_ok hr (by omega) (by omega) (by omega), by unfold partedErr; rw [if_neg (by omega)], by unfold partedV; rw [if_neg (by omega), Int.toNat_natCast],
    dn_nonneg (pre_ok ht m) _ 0 rfl, dn_nonneg (suf_ok ht m) _ 0 rfl, q2, b1.2, many_pos (pre_ok ht m) _ 0 rfl, many_pos (suf_ok ht m) _ 0 rfl, many_pos ht _ 0 rfl, by
      have : (6 : Int) ^ 24 = 4738381338321616896 := by decide
      omega, ?_⟩
  rw [hpr]
  by_cases c1 : dn (pre (tabOf r ks) m) 0 + dn (suf (tabOf r ks) m) 0 < dn (tabOf r ks) 0
  · exact Or.inl ⟨by rw [if_pos c1], by omega⟩
  · have ho : On (tabOf r ks) m := Decidable.byContradiction fun h => c1 (q1.2 h)
    have q4 := (q3 ho).2
    rw [if_neg c1]
    by_cases c2 : many (pre (tabOf r ks) m) 0 * many (suf (tabOf r ks) m) 0 < many (tabOf r ks) 0
    · exact Or.inr (Or.inl ⟨by rw [if_pos c2], by omega, c2⟩)
    · exact Or.inr (Or.inr ⟨by rw [if_neg c2], by omega, by omega⟩)
theorem rem_nat (wn q i : Nat) (h : wn ≤ 255) (hi : wn % q = i) : (wrap64 (wn : Int)).tmod (q : Int) = (i : Int) := by
  rw [IntWalk.wrap64_in _ (by omega), Int.tmod_eq_emod_of_nonneg (by omega), ← hi]
  simp
theorem place_nat (wn q i m : Nat) (h : wn ≤ 255) (hi : wn % q = i) (hm : 1 + i = m) (hi2 : i ≤ 24) : wrap64 (1 + (wrap64 (wn : Int)).tmod (q : Int)) = (m : Int) := by
  rw [rem_nat wn q i h hi, IntWalk.wrap64_in _ (by omega)]
  omega
theorem quo_facts {Na Nb Nn : Int} (h1 : 1 ≤ Na) (h2 : 1 ≤ Nb) (h3 : 1 ≤ Nn) (h : Na * Nb ≤ Nn) : Nn.tdiv Nb ≤ Nn ∧ 0 ≤ Nn.tdiv Nb ∧ Na ≤ Nn.tdiv Nb ∧ Nn.tdiv Nb = Nn / Nb ∧ 0 ≤ Na * Nb := by
  have e : Nn.tdiv Nb = Nn / Nb := Int.tdiv_eq_ediv_of_nonneg (by omega)
  rw [e]
  exact ⟨Int.ediv_le_self _ (by omega), Int.ediv_nonneg (by omega) (by omega), (Int.le_ediv_iff_mul_le (by omega)).2 h, rfl, Int.mul_nonneg (by omega) (by omega)⟩
set_option maxRecDepth 100000 in
set_option maxHeartbeats 16000000 in
theorem ClipParted_any (v kv : Value) (bv : Value) (wn : Int) (l : List Int) (r : RibD) (ks : List KindD) (w : World) (hv : RibAt w v r) (hk : KindsAt w kv ks) (hwn : 0 ≤ wn ∧ wn ≤ 255) (hbv : U8At w bv l) (hl8 : ∀ x ∈ l, 0 ≤ x ∧ x ≤ 255) :
    Calls Try.prog 10 #[v, kv, .int .u8 wn, bv] w fun e w' => e = .returned (.bool true) ∧ Below w.heap.size w w' := by
  obtain ⟨wn, rfl⟩ : ∃ n : Nat, wn = (n : Int) := ⟨wn.toNat, by omega⟩
  obtain ⟨sv, rfl, hi⟩ := hv
  obtain ⟨sa, cap, rfl⟩ := hi.slice
  obtain ⟨ka, kcap, rfl⟩ := hk.slice
  obtain ⟨ba, bcap, rfl⟩ := hbv.slice
  have hB0 := below1 w (.cells #[.int .i64 r.len, .slice sa r.fs.length cap] 24)
  have HB := Lib.hid hB0
  have B0 := Lib.hid (Blk.new w (.cells #[.int .i64 r.len, .slice sa r.fs.length cap] 24))
  have HV := Lib.hid (show RibAt _ (.agg #[.int .i64 r.len, .slice sa r.fs.length cap]) r from ⟨_, rfl, hi.below hB0⟩)
  have HK := Lib.hid (hk.below hB0)
  have HBV := Lib.hid (hbv.below hB0)
  have HL8 := Lib.hid hl8
  clear hi hk hB0 hbv hl8
  by_cases hok : RibOk r ∧ KindsOk ks
  case neg =>
    have HN := Lib.hid hok
    clear hok
    go_enter Try.func10, Try.ntmps10
    go_wp2_with fail
    generalize w.alloc (.cells #[.int .i64 r.len, .slice sa r.fs.length cap] 24) = W0 at *
    refine (fine_no (.agg #[.int .i64 r.len, .slice sa r.fs.length cap]) (.slice ka ks.length kcap) r ks _ HV.out HK.out HN.out).mono ?_
    rintro e v1 ⟨rfl, hb⟩
    replace HV := Lib.hid (HV.out.below hb)
    replace HK := Lib.hid (HK.out.below hb)
    replace HBV := Lib.hid (HBV.out.below hb)
    replace B0 := Lib.hid (B0.out.below hb)
    replace HB := Lib.hid (bC HB.out hb)
    clear hb
    have B0c0 := B0.out.cell 0
    have B0c1 := B0.out.cell 1
    simp at B0c0 B0c1
    go_wp2_with fail
    clear B0c0 B0c1
    refine (Works_any _).mono ?_
    rintro e v2 ⟨rfl, hb⟩
    replace HV := Lib.hid (HV.out.below hb)
    replace HK := Lib.hid (HK.out.below hb)
    replace HBV := Lib.hid (HBV.out.below hb)
    replace B0 := Lib.hid (B0.out.below hb)
    replace HB := Lib.hid (bC HB.out hb)
    clear hb
    go_wp2
    go_ret
    exact ⟨rfl, HB.out⟩
  have HR := Lib.hid hok
  have hfc := hok.1.count
  have hk6 := hok.2.1.2
  have hL24 := hok.1.l2
  have hL1 := hok.1.l1
  clear hok
  by_cases q0 : r.len < 2
  · have t1 : decide (r.len < 2) = true := by simpa using q0
    go_enter Try.func10, Try.ntmps10
    go_wp2_with fail
    generalize w.alloc (.cells #[.int .i64 r.len, .slice sa r.fs.length cap] 24) = W0 at *
    refine (fine_yes (.agg #[.int .i64 r.len, .slice sa r.fs.length cap]) (.slice ka ks.length kcap) r ks _ HV.out HK.out HR.out.1 HR.out.2).mono ?_
    rintro e v1 ⟨rfl, hb⟩
    replace HV := Lib.hid (HV.out.below hb)
    replace HK := Lib.hid (HK.out.below hb)
    replace HBV := Lib.hid (HBV.out.below hb)
    replace B0 := Lib.hid (B0.out.below hb)
    replace HB := Lib.hid (bC HB.out hb)
    clear hb
    have B0c0 := B0.out.cell 0
    have B0c1 := B0.out.cell 1
    simp at B0c0 B0c1
    go_wp2_with fail
    clear B0c0 B0c1
    refine (Works_any _).mono ?_
    rintro e v2 ⟨rfl, hb⟩
    replace HV := Lib.hid (HV.out.below hb)
    replace HK := Lib.hid (HK.out.below hb)
    replace HBV := Lib.hid (HBV.out.below hb)
    replace B0 := Lib.hid (B0.out.below hb)
    replace HB := Lib.hid (bC HB.out hb)
    clear hb
    go_wp2
    go_ret
    exact ⟨rfl, HB.out⟩
  have t1 : decide (r.len < 2) = false := by simpa using q0
  by_cases q1 : 60 < l.length
  · have d1 : decide ((l.length : Int) > 60) = true := by simp; omega
    have d2 : decide ((60 : Int) < (l.length : Int)) = true := by simp; omega
    clear q1
    go_enter Try.func10, Try.ntmps10
    go_wp2_with fail
    generalize w.alloc (.cells #[.int .i64 r.len, .slice sa r.fs.length cap] 24) = W0 at *
    refine (fine_yes (.agg #[.int .i64 r.len, .slice sa r.fs.length cap]) (.slice ka ks.length kcap) r ks _ HV.out HK.out HR.out.1 HR.out.2).mono ?_
    rintro e v1 ⟨rfl, hb⟩
    replace HV := Lib.hid (HV.out.below hb)
    replace HK := Lib.hid (HK.out.below hb)
    replace HBV := Lib.hid (HBV.out.below hb)
    replace B0 := Lib.hid (B0.out.below hb)
    replace HB := Lib.hid (bC HB.out hb)
    clear hb
    have B0c0 := B0.out.cell 0
    have B0c1 := B0.out.cell 1
    simp at B0c0 B0c1
    go_wp2_with fail
    clear B0c0 B0c1
    refine (Works_any _).mono ?_
    rintro e v2 ⟨rfl, hb⟩
    replace HV := Lib.hid (HV.out.below hb)
    replace HK := Lib.hid (HK.out.below hb)
    replace HBV := Lib.hid (HBV.out.below hb)
    replace B0 := Lib.hid (B0.out.below hb)
    replace HB := Lib.hid (bC HB.out hb)
    clear hb
    go_wp2
    go_ret
    exact ⟨rfl, HB.out⟩
  have d1 : decide ((l.length : Int) > 60) = false := by simp; omega
  have d2 : decide ((60 : Int) < (l.length : Int)) = false := by simp; omega
  obtain ⟨G1, G2, G3, G4, G5⟩ := given_facts HR.out.1 HR.out.2 l
  obtain ⟨q, hq⟩ : ∃ q : Nat, r.len - 1 = (q : Int) := ⟨(r.len - 1).toNat, by omega⟩
  obtain ⟨i, hi⟩ : ∃ i, wn % q = i := ⟨_, rfl⟩
  have hiq : i < q := by rw [← hi]; exact Nat.mod_lt _ (by omega)
  obtain ⟨m, hm⟩ : ∃ m, 1 + i = m := ⟨_, rfl⟩
  have e0 : IntKind.i64.wrap (r.len - 1) = (q : Int) := by rw [IntWalk.i64_in _ (by omega)]; exact hq
  have E2 := Lib.hid (place_nat wn q i m (by omega) hi hm (by omega))
  have hm1 : 1 ≤ m := by omega
  have hm2 : (m : Int) < r.len := by omega
  have hq1 : 1 ≤ q := by omega
  have hq23 : q ≤ 23 := by omega
  have hmL : m ≤ (tabOf r ks).L := by show m ≤ r.len.toNat; omega
  obtain ⟨P1, P2, P3, P4, P5, P6, P7, P8, P9, P10, P11, P12, P13⟩ := parted_facts HR.out.1 HR.out.2 hm1 hm2
  have hTok := tabOf_ok (r := r) (ks := ks) (by omega) HR.out.2
  have hfb := first_best hTok (tabOf r ks).L 0 (by omega)
  have hPC := parts_best HR.out.1 HR.out.2 hmL hfb
  have hPG : wth (tabOf r ks) (givenF (tabOf r ks) l 0) = dn (tabOf r ks) 0 → _ := fun h => parts_best HR.out.1 HR.out.2 hmL ⟨G5, h⟩
  have HMC := Lib.hid (cuts_mem HR.out.1 HR.out.2 hfb.1)
  have HMG := Lib.hid (cuts_mem HR.out.1 HR.out.2 G5)
  have hlC : (firstF (tabOf r ks) (tabOf r ks).L 0).length ≤ 1000 := by
    have := firstL_len HR.out.1 HR.out.2
    unfold firstL at this
    rw [List.length_map] at this
    omega
  have hlG : (givenF (tabOf r ks) l 0).length ≤ 1000 := by
    have := G4
    unfold intPs at this
    rw [List.length_map] at this
    omega
  obtain ⟨gl, hgl⟩ : ∃ gl, intPs (givenF (tabOf r ks) l 0) = gl := ⟨_, rfl⟩
  obtain ⟨cl, hcl⟩ : ∃ cl, firstL (tabOf r ks) = cl := ⟨_, rfl⟩
  obtain ⟨A, hA⟩ : ∃ A, wth (tabOf r ks) (givenF (tabOf r ks) l 0) = A := ⟨_, rfl⟩
  obtain ⟨D, hD⟩ : ∃ D, dn (tabOf r ks) 0 = D := ⟨_, rfl⟩
  obtain ⟨Da, hDa⟩ : ∃ D, dn (tabOf (piece r 0 m) ks) 0 = D := ⟨_, rfl⟩
  obtain ⟨Db, hDb⟩ : ∃ D, dn (tabOf (piece r m r.len) ks) 0 = D := ⟨_, rfl⟩
  obtain ⟨Nn, hN⟩ : ∃ D, many (tabOf r ks) 0 = D := ⟨_, rfl⟩
  obtain ⟨Na, hNa⟩ : ∃ D, many (tabOf (piece r 0 m) ks) 0 = D := ⟨_, rfl⟩
  obtain ⟨Nb, hNb⟩ : ∃ D, many (tabOf (piece r m r.len) ks) 0 = D := ⟨_, rfl⟩
  obtain ⟨p, hp⟩ : ∃ p, partV (tabOf r ks) m = p := ⟨_, rfl⟩
  obtain ⟨C, hC⟩ : ∃ C, firstF (tabOf r ks) (tabOf r ks).L 0 = C := ⟨_, rfl⟩
  obtain ⟨G, hG⟩ : ∃ G, givenF (tabOf r ks) l 0 = G := ⟨_, rfl⟩
  rw [hA] at G2 G3 hPG
  rw [hgl] at G1 G2 G4
  rw [hD] at G3 hPG
  rw [hD, hDa, hDb, hN, hNa, hNb, hp] at P13
  rw [hDa] at P5
  rw [hDb] at P6
  rw [hD, hDa, hDb] at P7
  rw [hD] at P8
  rw [hNa] at P9
  rw [hNb] at P10
  rw [hN] at P11 P12
  rw [hp] at P4 hPC hPG
  rw [hC] at hPC HMC hlC
  rw [hG] at hPG HMG hlG
  have HcC := Lib.hid (show C.map intP = cl by rw [← hcl, ← hC]; rfl)
  have HgG := Lib.hid (show G.map intP = gl by rw [← hgl, ← hG]; rfl)
  have HD := Lib.hid hD
  have HDa := Lib.hid hDa
  have HDb := Lib.hid hDb
  have HN := Lib.hid hN
  have HNa := Lib.hid hNa
  have HNb := Lib.hid hNb
  have HP3 := Lib.hid P3
  have HP4 := Lib.hid P4
  have HO1 := Lib.hid P1
  have HO2 := Lib.hid P2
  have HG1 := Lib.hid G1
  have HG2 := Lib.hid G2
  have HGL := Lib.hid hgl
  have HCL := Lib.hid hcl
  have HPC := Lib.hid hPC
  have HPG := Lib.hid hPG
  have HLc := Lib.hid hlC
  have HLg := Lib.hid hlG
  have hl60 : l.length ≤ 60 := by omega
  have ww1 : IntKind.i64.wrap (Da + Db) = Da + Db := IntWalk.i64_in _ (by omega)
  have s1 : decide (Da + Db > D) = false := by simp; omega
  have s2 : decide (D < Da + Db) = false := by simp; omega
  have HFS := Lib.hid (show ∀ f ∈ r.fs, 0 ≤ f ∧ f ≤ 100 from fun f hf => by
    have h := isF_in HR.out.1 (u := f) (by unfold isF; simpa using hf)
    omega)
  obtain ⟨L, hLL⟩ : ∃ L : Nat, r.len = (L : Int) := ⟨r.len.toNat, by omega⟩
  have hmL2 : m ≤ L := by omega
  have hL100 : L ≤ 100 := by omega
  have HLL := Lib.hid hLL
  clear hgl hcl hA hD hDa hDb hN hNa hNb hp hC hG G1 G2 G5 P1 P2 P3 P4 q0 q1 hq hi hm hTok hfb hPC hPG hlC hlG hwn hLL hmL
  rcases P13 with ⟨rfl, hne⟩ | ⟨rfl, heq, hlt⟩ | ⟨rfl, heq, hxy⟩
  · have z1 : (Da + Db == D) = false := by rw [beq_eq_false_iff_ne]; exact hne
    clear hne
    by_cases he : A = D
    · subst he
      have HOW := Lib.hid (HPC.out.1 rfl)
      have HGI := Lib.hid ((HPG.out rfl).1 rfl)
      clear G3
      go_enter Try.func10, Try.ntmps10
      go_wp2_with fail
      generalize w.alloc (.cells #[.int .i64 r.len, .slice sa r.fs.length cap] 24) = W0 at *
      refine (fine_yes (.agg #[.int .i64 r.len, .slice sa r.fs.length cap]) (.slice ka ks.length kcap) r ks _ HV.out HK.out HR.out.1 HR.out.2).mono ?_
      rintro e v1 ⟨rfl, hb⟩
      replace HV := Lib.hid (HV.out.below hb)
      replace HK := Lib.hid (HK.out.below hb)
      replace HBV := Lib.hid (HBV.out.below hb)
      replace B0 := Lib.hid (B0.out.below hb)
      replace HB := Lib.hid (bC HB.out hb)
      clear hb
      have B0c0 := B0.out.cell 0
      have B0c1 := B0.out.cell 1
      simp at B0c0 B0c1
      go_wp2_with fail
      clear B0c0 B0c1
      rw [E2.out]
      refine (best_any (.agg #[.int .i64 r.len, .slice sa r.fs.length cap]) (.slice ka ks.length kcap) r ks _ HV.out HK.out HR.out.1 HR.out.2).mono ?_
      rintro e v2 ⟨vb, rfl, hp, hb⟩
      replace HV := Lib.hid (HV.out.below hb)
      replace HK := Lib.hid (HK.out.below hb)
      replace HBV := Lib.hid (HBV.out.below hb)
      replace B0 := Lib.hid (B0.out.below hb)
      replace HB := Lib.hid (bC HB.out hb)
      clear hb
      rw [HCL.out] at hp
      obtain ⟨ya, yc, rfl⟩ := hp.slice
      have HY := Lib.hid hp
      clear hp
      rw [HD.out]
      have B0c0 := B0.out.cell 0
      have B0c1 := B0.out.cell 1
      simp at B0c0 B0c1
      go_wp2_with fail
      clear B0c0 B0c1
      refine (Piece_any (.agg #[.int .i64 r.len, .slice sa r.fs.length cap]) r 0 m _ HV.out (by omega) (Nat.zero_le _) (by omega) HFS.out).mono ?_
      rintro e v3 ⟨vq, rfl, hw, hb⟩
      replace HV := Lib.hid (HV.out.below hb)
      replace HK := Lib.hid (HK.out.below hb)
      replace HBV := Lib.hid (HBV.out.below hb)
      replace HY := Lib.hid (HY.out.below hb)
      replace B0 := Lib.hid (B0.out.below hb)
      replace HB := Lib.hid (bC HB.out hb)
      clear hb
      have HQ := Lib.hid hw
      clear hw
      have B0c0 := B0.out.cell 0
      have B0c1 := B0.out.cell 1
      simp at B0c0 B0c1
      go_wp2_with fail
      clear B0c0 B0c1
      refine (best_any vq (.slice ka ks.length kcap) (piece r 0 m) ks _ HQ.out HK.out HO1.out HR.out.2).mono ?_
      rintro e v4 ⟨vc, rfl, -, hb⟩
      replace HV := Lib.hid (HV.out.below hb)
      replace HK := Lib.hid (HK.out.below hb)
      replace HBV := Lib.hid (HBV.out.below hb)
      replace HY := Lib.hid (HY.out.below hb)
      replace HQ := Lib.hid (HQ.out.below hb)
      replace B0 := Lib.hid (B0.out.below hb)
      replace HB := Lib.hid (bC HB.out hb)
      clear hb
      clear HQ
      rw [HDa.out]
      have B0c0 := B0.out.cell 0
      have B0c1 := B0.out.cell 1
      simp at B0c0 B0c1
      go_wp2_with fail
      clear B0c0 B0c1
      have hPB := Piece_any (.agg #[.int .i64 r.len, .slice sa r.fs.length cap]) r m L _ HV.out (by omega) hmL2 hL100 HFS.out
      rw [← HLL.out] at hPB
      refine hPB.mono ?_
      clear hPB
      rintro e v5 ⟨vq, rfl, hw, hb⟩
      replace HV := Lib.hid (HV.out.below hb)
      replace HK := Lib.hid (HK.out.below hb)
      replace HBV := Lib.hid (HBV.out.below hb)
      replace HY := Lib.hid (HY.out.below hb)
      replace B0 := Lib.hid (B0.out.below hb)
      replace HB := Lib.hid (bC HB.out hb)
      clear hb
      have HQ := Lib.hid hw
      clear hw
      have B0c0 := B0.out.cell 0
      have B0c1 := B0.out.cell 1
      simp at B0c0 B0c1
      go_wp2_with fail
      clear B0c0 B0c1
      refine (best_any vq (.slice ka ks.length kcap) (piece r m r.len) ks _ HQ.out HK.out HO2.out HR.out.2).mono ?_
      rintro e v6 ⟨vd, rfl, -, hb⟩
      replace HV := Lib.hid (HV.out.below hb)
      replace HK := Lib.hid (HK.out.below hb)
      replace HBV := Lib.hid (HBV.out.below hb)
      replace HY := Lib.hid (HY.out.below hb)
      replace HQ := Lib.hid (HQ.out.below hb)
      replace B0 := Lib.hid (B0.out.below hb)
      replace HB := Lib.hid (bC HB.out hb)
      clear hb
      clear HQ
      rw [HDb.out]
      have B0c0 := B0.out.cell 0
      have B0c1 := B0.out.cell 1
      simp at B0c0 B0c1
      go_wp2_with fail
      clear B0c0 B0c1
      refine (count_any (.agg #[.int .i64 r.len, .slice sa r.fs.length cap]) (.slice ka ks.length kcap) r ks _ HV.out HK.out HR.out.1 HR.out.2).mono ?_
      rintro e v7 ⟨rfl, hb⟩
      replace HV := Lib.hid (HV.out.below hb)
      replace HK := Lib.hid (HK.out.below hb)
      replace HBV := Lib.hid (HBV.out.below hb)
      replace HY := Lib.hid (HY.out.below hb)
      replace B0 := Lib.hid (B0.out.below hb)
      replace HB := Lib.hid (bC HB.out hb)
      clear hb
      rw [HN.out]
      have B0c0 := B0.out.cell 0
      have B0c1 := B0.out.cell 1
      simp at B0c0 B0c1
      go_wp2_with fail
      clear B0c0 B0c1
      refine (Piece_any (.agg #[.int .i64 r.len, .slice sa r.fs.length cap]) r 0 m _ HV.out (by omega) (Nat.zero_le _) (by omega) HFS.out).mono ?_
      rintro e v8 ⟨vq, rfl, hw, hb⟩
      replace HV := Lib.hid (HV.out.below hb)
      replace HK := Lib.hid (HK.out.below hb)
      replace HBV := Lib.hid (HBV.out.below hb)
      replace HY := Lib.hid (HY.out.below hb)
      replace B0 := Lib.hid (B0.out.below hb)
      replace HB := Lib.hid (bC HB.out hb)
      clear hb
      have HQ := Lib.hid hw
      clear hw
      have B0c0 := B0.out.cell 0
      have B0c1 := B0.out.cell 1
      simp at B0c0 B0c1
      go_wp2_with fail
      clear B0c0 B0c1
      refine (count_any vq (.slice ka ks.length kcap) (piece r 0 m) ks _ HQ.out HK.out HO1.out HR.out.2).mono ?_
      rintro e v9 ⟨rfl, hb⟩
      replace HV := Lib.hid (HV.out.below hb)
      replace HK := Lib.hid (HK.out.below hb)
      replace HBV := Lib.hid (HBV.out.below hb)
      replace HY := Lib.hid (HY.out.below hb)
      replace HQ := Lib.hid (HQ.out.below hb)
      replace B0 := Lib.hid (B0.out.below hb)
      replace HB := Lib.hid (bC HB.out hb)
      clear hb
      clear HQ
      rw [HNa.out]
      have B0c0 := B0.out.cell 0
      have B0c1 := B0.out.cell 1
      simp at B0c0 B0c1
      go_wp2_with fail
      clear B0c0 B0c1
      have hPB := Piece_any (.agg #[.int .i64 r.len, .slice sa r.fs.length cap]) r m L _ HV.out (by omega) hmL2 hL100 HFS.out
      rw [← HLL.out] at hPB
      refine hPB.mono ?_
      clear hPB
      rintro e v10 ⟨vq, rfl, hw, hb⟩
      replace HV := Lib.hid (HV.out.below hb)
      replace HK := Lib.hid (HK.out.below hb)
      replace HBV := Lib.hid (HBV.out.below hb)
      replace HY := Lib.hid (HY.out.below hb)
      replace B0 := Lib.hid (B0.out.below hb)
      replace HB := Lib.hid (bC HB.out hb)
      clear hb
      have HQ := Lib.hid hw
      clear hw
      have B0c0 := B0.out.cell 0
      have B0c1 := B0.out.cell 1
      simp at B0c0 B0c1
      go_wp2_with fail
      clear B0c0 B0c1
      refine (count_any vq (.slice ka ks.length kcap) (piece r m r.len) ks _ HQ.out HK.out HO2.out HR.out.2).mono ?_
      rintro e v11 ⟨rfl, hb⟩
      replace HV := Lib.hid (HV.out.below hb)
      replace HK := Lib.hid (HK.out.below hb)
      replace HBV := Lib.hid (HBV.out.below hb)
      replace HY := Lib.hid (HY.out.below hb)
      replace HQ := Lib.hid (HQ.out.below hb)
      replace B0 := Lib.hid (B0.out.below hb)
      replace HB := Lib.hid (bC HB.out hb)
      clear hb
      clear HQ
      rw [HNb.out]
      have B0c0 := B0.out.cell 0
      have B0c1 := B0.out.cell 1
      simp at B0c0 B0c1
      go_wp2_with fail
      clear B0c0 B0c1
      refine (Parted_ok (.agg #[.int .i64 r.len, .slice sa r.fs.length cap]) (.slice ka ks.length kcap) r ks (m : Int) _ HV.out HK.out HR.out.1 HR.out.2).mono ?_
      rintro e v12 ⟨rfl, hb⟩
      replace HV := Lib.hid (HV.out.below hb)
      replace HK := Lib.hid (HK.out.below hb)
      replace HBV := Lib.hid (HBV.out.below hb)
      replace HY := Lib.hid (HY.out.below hb)
      replace B0 := Lib.hid (B0.out.below hb)
      replace HB := Lib.hid (bC HB.out hb)
      clear hb
      rw [HP3.out, HP4.out]
      have B0c0 := B0.out.cell 0
      have B0c1 := B0.out.cell 1
      simp at B0c0 B0c1
      go_wp2_with fail
      clear B0c0 B0c1
      refine (Given_any (.agg #[.int .i64 r.len, .slice sa r.fs.length cap]) (.slice ka ks.length kcap) (.slice ba l.length bcap) r ks l _ HV.out HK.out HBV.out HL8.out hl60 HR.out.1 HR.out.2).mono ?_
      rintro e v13 ⟨vg, rfl, hp, hb⟩
      replace HV := Lib.hid (HV.out.below hb)
      replace HK := Lib.hid (HK.out.below hb)
      replace HBV := Lib.hid (HBV.out.below hb)
      replace HY := Lib.hid (HY.out.below hb)
      replace B0 := Lib.hid (B0.out.below hb)
      replace HB := Lib.hid (bC HB.out hb)
      clear hb
      rw [HGL.out] at hp
      obtain ⟨ga, gc, rfl⟩ := hp.slice
      have HGV := Lib.hid hp
      clear hp
      have B0c0 := B0.out.cell 0
      have B0c1 := B0.out.cell 1
      simp at B0c0 B0c1
      go_wp2_with fail
      clear B0c0 B0c1
      refine (CheckCuts_ok (.agg #[.int .i64 r.len, .slice sa r.fs.length cap]) (.slice ka ks.length kcap) r ks _ gl _ HV.out HK.out HGV.out G4 HR.out.1 HR.out.2).mono ?_
      rintro e v14 ⟨rfl, hb⟩
      replace HV := Lib.hid (HV.out.below hb)
      replace HK := Lib.hid (HK.out.below hb)
      replace HBV := Lib.hid (HBV.out.below hb)
      replace HY := Lib.hid (HY.out.below hb)
      replace HGV := Lib.hid (HGV.out.below hb)
      replace B0 := Lib.hid (B0.out.below hb)
      replace HB := Lib.hid (bC HB.out hb)
      clear hb
      rw [HG1.out, HG2.out]
      have B0c0 := B0.out.cell 0
      have B0c1 := B0.out.cell 1
      simp at B0c0 B0c1
      go_wp2_with fail
      clear B0c0 B0c1
      refine (parts_any (.slice ka ks.length kcap) _ ks C m _ HK.out (by rw [HcC.out]; exact HY.out) HR.out.2 HMC.out HLc.out).mono ?_
      rintro e v15 ⟨rfl, hb⟩
      replace HV := Lib.hid (HV.out.below hb)
      replace HK := Lib.hid (HK.out.below hb)
      replace HBV := Lib.hid (HBV.out.below hb)
      replace HY := Lib.hid (HY.out.below hb)
      replace HGV := Lib.hid (HGV.out.below hb)
      replace B0 := Lib.hid (B0.out.below hb)
      replace HB := Lib.hid (bC HB.out hb)
      clear hb
      rw [HOW.out]
      have B0c0 := B0.out.cell 0
      have B0c1 := B0.out.cell 1
      simp at B0c0 B0c1
      go_wp2_with fail
      clear B0c0 B0c1
      refine (parts_any (.slice ka ks.length kcap) _ ks G m _ HK.out (by rw [HgG.out]; exact HGV.out) HR.out.2 HMG.out HLg.out).mono ?_
      rintro e v16 ⟨rfl, hb⟩
      replace HV := Lib.hid (HV.out.below hb)
      replace HK := Lib.hid (HK.out.below hb)
      replace HBV := Lib.hid (HBV.out.below hb)
      replace HY := Lib.hid (HY.out.below hb)
      replace HGV := Lib.hid (HGV.out.below hb)
      replace B0 := Lib.hid (B0.out.below hb)
      replace HB := Lib.hid (bC HB.out hb)
      clear hb
      rw [HGI.out]
      have B0c0 := B0.out.cell 0
      have B0c1 := B0.out.cell 1
      simp at B0c0 B0c1
      go_wp2_with fail
      clear B0c0 B0c1
      refine (Works_any _).mono ?_
      rintro e v17 ⟨rfl, hb⟩
      replace HV := Lib.hid (HV.out.below hb)
      replace HK := Lib.hid (HK.out.below hb)
      replace HBV := Lib.hid (HBV.out.below hb)
      replace HY := Lib.hid (HY.out.below hb)
      replace HGV := Lib.hid (HGV.out.below hb)
      replace B0 := Lib.hid (B0.out.below hb)
      replace HB := Lib.hid (bC HB.out hb)
      clear hb
      go_wp2
      go_ret
      exact ⟨rfl, HB.out⟩
    · have he' : (A != D) = true := by simpa using he
      have HOW := Lib.hid (HPC.out.1 rfl)
      clear he G3
      go_enter Try.func10, Try.ntmps10
      go_wp2_with fail
      generalize w.alloc (.cells #[.int .i64 r.len, .slice sa r.fs.length cap] 24) = W0 at *
      refine (fine_yes (.agg #[.int .i64 r.len, .slice sa r.fs.length cap]) (.slice ka ks.length kcap) r ks _ HV.out HK.out HR.out.1 HR.out.2).mono ?_
      rintro e v1 ⟨rfl, hb⟩
      replace HV := Lib.hid (HV.out.below hb)
      replace HK := Lib.hid (HK.out.below hb)
      replace HBV := Lib.hid (HBV.out.below hb)
      replace B0 := Lib.hid (B0.out.below hb)
      replace HB := Lib.hid (bC HB.out hb)
      clear hb
      have B0c0 := B0.out.cell 0
      have B0c1 := B0.out.cell 1
      simp at B0c0 B0c1
      go_wp2_with fail
      clear B0c0 B0c1
      rw [E2.out]
      refine (best_any (.agg #[.int .i64 r.len, .slice sa r.fs.length cap]) (.slice ka ks.length kcap) r ks _ HV.out HK.out HR.out.1 HR.out.2).mono ?_
      rintro e v2 ⟨vb, rfl, hp, hb⟩
      replace HV := Lib.hid (HV.out.below hb)
      replace HK := Lib.hid (HK.out.below hb)
      replace HBV := Lib.hid (HBV.out.below hb)
      replace B0 := Lib.hid (B0.out.below hb)
      replace HB := Lib.hid (bC HB.out hb)
      clear hb
      rw [HCL.out] at hp
      obtain ⟨ya, yc, rfl⟩ := hp.slice
      have HY := Lib.hid hp
      clear hp
      rw [HD.out]
      have B0c0 := B0.out.cell 0
      have B0c1 := B0.out.cell 1
      simp at B0c0 B0c1
      go_wp2_with fail
      clear B0c0 B0c1
      refine (Piece_any (.agg #[.int .i64 r.len, .slice sa r.fs.length cap]) r 0 m _ HV.out (by omega) (Nat.zero_le _) (by omega) HFS.out).mono ?_
      rintro e v3 ⟨vq, rfl, hw, hb⟩
      replace HV := Lib.hid (HV.out.below hb)
      replace HK := Lib.hid (HK.out.below hb)
      replace HBV := Lib.hid (HBV.out.below hb)
      replace HY := Lib.hid (HY.out.below hb)
      replace B0 := Lib.hid (B0.out.below hb)
      replace HB := Lib.hid (bC HB.out hb)
      clear hb
      have HQ := Lib.hid hw
      clear hw
      have B0c0 := B0.out.cell 0
      have B0c1 := B0.out.cell 1
      simp at B0c0 B0c1
      go_wp2_with fail
      clear B0c0 B0c1
      refine (best_any vq (.slice ka ks.length kcap) (piece r 0 m) ks _ HQ.out HK.out HO1.out HR.out.2).mono ?_
      rintro e v4 ⟨vc, rfl, -, hb⟩
      replace HV := Lib.hid (HV.out.below hb)
      replace HK := Lib.hid (HK.out.below hb)
      replace HBV := Lib.hid (HBV.out.below hb)
      replace HY := Lib.hid (HY.out.below hb)
      replace HQ := Lib.hid (HQ.out.below hb)
      replace B0 := Lib.hid (B0.out.below hb)
      replace HB := Lib.hid (bC HB.out hb)
      clear hb
      clear HQ
      rw [HDa.out]
      have B0c0 := B0.out.cell 0
      have B0c1 := B0.out.cell 1
      simp at B0c0 B0c1
      go_wp2_with fail
      clear B0c0 B0c1
      have hPB := Piece_any (.agg #[.int .i64 r.len, .slice sa r.fs.length cap]) r m L _ HV.out (by omega) hmL2 hL100 HFS.out
      rw [← HLL.out] at hPB
      refine hPB.mono ?_
      clear hPB
      rintro e v5 ⟨vq, rfl, hw, hb⟩
      replace HV := Lib.hid (HV.out.below hb)
      replace HK := Lib.hid (HK.out.below hb)
      replace HBV := Lib.hid (HBV.out.below hb)
      replace HY := Lib.hid (HY.out.below hb)
      replace B0 := Lib.hid (B0.out.below hb)
      replace HB := Lib.hid (bC HB.out hb)
      clear hb
      have HQ := Lib.hid hw
      clear hw
      have B0c0 := B0.out.cell 0
      have B0c1 := B0.out.cell 1
      simp at B0c0 B0c1
      go_wp2_with fail
      clear B0c0 B0c1
      refine (best_any vq (.slice ka ks.length kcap) (piece r m r.len) ks _ HQ.out HK.out HO2.out HR.out.2).mono ?_
      rintro e v6 ⟨vd, rfl, -, hb⟩
      replace HV := Lib.hid (HV.out.below hb)
      replace HK := Lib.hid (HK.out.below hb)
      replace HBV := Lib.hid (HBV.out.below hb)
      replace HY := Lib.hid (HY.out.below hb)
      replace HQ := Lib.hid (HQ.out.below hb)
      replace B0 := Lib.hid (B0.out.below hb)
      replace HB := Lib.hid (bC HB.out hb)
      clear hb
      clear HQ
      rw [HDb.out]
      have B0c0 := B0.out.cell 0
      have B0c1 := B0.out.cell 1
      simp at B0c0 B0c1
      go_wp2_with fail
      clear B0c0 B0c1
      refine (count_any (.agg #[.int .i64 r.len, .slice sa r.fs.length cap]) (.slice ka ks.length kcap) r ks _ HV.out HK.out HR.out.1 HR.out.2).mono ?_
      rintro e v7 ⟨rfl, hb⟩
      replace HV := Lib.hid (HV.out.below hb)
      replace HK := Lib.hid (HK.out.below hb)
      replace HBV := Lib.hid (HBV.out.below hb)
      replace HY := Lib.hid (HY.out.below hb)
      replace B0 := Lib.hid (B0.out.below hb)
      replace HB := Lib.hid (bC HB.out hb)
      clear hb
      rw [HN.out]
      have B0c0 := B0.out.cell 0
      have B0c1 := B0.out.cell 1
      simp at B0c0 B0c1
      go_wp2_with fail
      clear B0c0 B0c1
      refine (Piece_any (.agg #[.int .i64 r.len, .slice sa r.fs.length cap]) r 0 m _ HV.out (by omega) (Nat.zero_le _) (by omega) HFS.out).mono ?_
      rintro e v8 ⟨vq, rfl, hw, hb⟩
      replace HV := Lib.hid (HV.out.below hb)
      replace HK := Lib.hid (HK.out.below hb)
      replace HBV := Lib.hid (HBV.out.below hb)
      replace HY := Lib.hid (HY.out.below hb)
      replace B0 := Lib.hid (B0.out.below hb)
      replace HB := Lib.hid (bC HB.out hb)
      clear hb
      have HQ := Lib.hid hw
      clear hw
      have B0c0 := B0.out.cell 0
      have B0c1 := B0.out.cell 1
      simp at B0c0 B0c1
      go_wp2_with fail
      clear B0c0 B0c1
      refine (count_any vq (.slice ka ks.length kcap) (piece r 0 m) ks _ HQ.out HK.out HO1.out HR.out.2).mono ?_
      rintro e v9 ⟨rfl, hb⟩
      replace HV := Lib.hid (HV.out.below hb)
      replace HK := Lib.hid (HK.out.below hb)
      replace HBV := Lib.hid (HBV.out.below hb)
      replace HY := Lib.hid (HY.out.below hb)
      replace HQ := Lib.hid (HQ.out.below hb)
      replace B0 := Lib.hid (B0.out.below hb)
      replace HB := Lib.hid (bC HB.out hb)
      clear hb
      clear HQ
      rw [HNa.out]
      have B0c0 := B0.out.cell 0
      have B0c1 := B0.out.cell 1
      simp at B0c0 B0c1
      go_wp2_with fail
      clear B0c0 B0c1
      have hPB := Piece_any (.agg #[.int .i64 r.len, .slice sa r.fs.length cap]) r m L _ HV.out (by omega) hmL2 hL100 HFS.out
      rw [← HLL.out] at hPB
      refine hPB.mono ?_
      clear hPB
      rintro e v10 ⟨vq, rfl, hw, hb⟩
      replace HV := Lib.hid (HV.out.below hb)
      replace HK := Lib.hid (HK.out.below hb)
      replace HBV := Lib.hid (HBV.out.below hb)
      replace HY := Lib.hid (HY.out.below hb)
      replace B0 := Lib.hid (B0.out.below hb)
      replace HB := Lib.hid (bC HB.out hb)
      clear hb
      have HQ := Lib.hid hw
      clear hw
      have B0c0 := B0.out.cell 0
      have B0c1 := B0.out.cell 1
      simp at B0c0 B0c1
      go_wp2_with fail
      clear B0c0 B0c1
      refine (count_any vq (.slice ka ks.length kcap) (piece r m r.len) ks _ HQ.out HK.out HO2.out HR.out.2).mono ?_
      rintro e v11 ⟨rfl, hb⟩
      replace HV := Lib.hid (HV.out.below hb)
      replace HK := Lib.hid (HK.out.below hb)
      replace HBV := Lib.hid (HBV.out.below hb)
      replace HY := Lib.hid (HY.out.below hb)
      replace HQ := Lib.hid (HQ.out.below hb)
      replace B0 := Lib.hid (B0.out.below hb)
      replace HB := Lib.hid (bC HB.out hb)
      clear hb
      clear HQ
      rw [HNb.out]
      have B0c0 := B0.out.cell 0
      have B0c1 := B0.out.cell 1
      simp at B0c0 B0c1
      go_wp2_with fail
      clear B0c0 B0c1
      refine (Parted_ok (.agg #[.int .i64 r.len, .slice sa r.fs.length cap]) (.slice ka ks.length kcap) r ks (m : Int) _ HV.out HK.out HR.out.1 HR.out.2).mono ?_
      rintro e v12 ⟨rfl, hb⟩
      replace HV := Lib.hid (HV.out.below hb)
      replace HK := Lib.hid (HK.out.below hb)
      replace HBV := Lib.hid (HBV.out.below hb)
      replace HY := Lib.hid (HY.out.below hb)
      replace B0 := Lib.hid (B0.out.below hb)
      replace HB := Lib.hid (bC HB.out hb)
      clear hb
      rw [HP3.out, HP4.out]
      have B0c0 := B0.out.cell 0
      have B0c1 := B0.out.cell 1
      simp at B0c0 B0c1
      go_wp2_with fail
      clear B0c0 B0c1
      refine (Given_any (.agg #[.int .i64 r.len, .slice sa r.fs.length cap]) (.slice ka ks.length kcap) (.slice ba l.length bcap) r ks l _ HV.out HK.out HBV.out HL8.out hl60 HR.out.1 HR.out.2).mono ?_
      rintro e v13 ⟨vg, rfl, hp, hb⟩
      replace HV := Lib.hid (HV.out.below hb)
      replace HK := Lib.hid (HK.out.below hb)
      replace HBV := Lib.hid (HBV.out.below hb)
      replace HY := Lib.hid (HY.out.below hb)
      replace B0 := Lib.hid (B0.out.below hb)
      replace HB := Lib.hid (bC HB.out hb)
      clear hb
      rw [HGL.out] at hp
      obtain ⟨ga, gc, rfl⟩ := hp.slice
      have HGV := Lib.hid hp
      clear hp
      have B0c0 := B0.out.cell 0
      have B0c1 := B0.out.cell 1
      simp at B0c0 B0c1
      go_wp2_with fail
      clear B0c0 B0c1
      refine (CheckCuts_ok (.agg #[.int .i64 r.len, .slice sa r.fs.length cap]) (.slice ka ks.length kcap) r ks _ gl _ HV.out HK.out HGV.out G4 HR.out.1 HR.out.2).mono ?_
      rintro e v14 ⟨rfl, hb⟩
      replace HV := Lib.hid (HV.out.below hb)
      replace HK := Lib.hid (HK.out.below hb)
      replace HBV := Lib.hid (HBV.out.below hb)
      replace HY := Lib.hid (HY.out.below hb)
      replace HGV := Lib.hid (HGV.out.below hb)
      replace B0 := Lib.hid (B0.out.below hb)
      replace HB := Lib.hid (bC HB.out hb)
      clear hb
      rw [HG1.out, HG2.out]
      have B0c0 := B0.out.cell 0
      have B0c1 := B0.out.cell 1
      simp at B0c0 B0c1
      go_wp2_with fail
      clear B0c0 B0c1
      refine (parts_any (.slice ka ks.length kcap) _ ks C m _ HK.out (by rw [HcC.out]; exact HY.out) HR.out.2 HMC.out HLc.out).mono ?_
      rintro e v15 ⟨rfl, hb⟩
      replace HV := Lib.hid (HV.out.below hb)
      replace HK := Lib.hid (HK.out.below hb)
      replace HBV := Lib.hid (HBV.out.below hb)
      replace HY := Lib.hid (HY.out.below hb)
      replace HGV := Lib.hid (HGV.out.below hb)
      replace B0 := Lib.hid (B0.out.below hb)
      replace HB := Lib.hid (bC HB.out hb)
      clear hb
      rw [HOW.out]
      have B0c0 := B0.out.cell 0
      have B0c1 := B0.out.cell 1
      simp at B0c0 B0c1
      go_wp2_with fail
      clear B0c0 B0c1
      refine (parts_any (.slice ka ks.length kcap) _ ks G m _ HK.out (by rw [HgG.out]; exact HGV.out) HR.out.2 HMG.out HLg.out).mono ?_
      rintro e v16 ⟨rfl, hb⟩
      replace HV := Lib.hid (HV.out.below hb)
      replace HK := Lib.hid (HK.out.below hb)
      replace HBV := Lib.hid (HBV.out.below hb)
      replace HY := Lib.hid (HY.out.below hb)
      replace HGV := Lib.hid (HGV.out.below hb)
      replace B0 := Lib.hid (B0.out.below hb)
      replace HB := Lib.hid (bC HB.out hb)
      clear hb
      obtain ⟨gb, hgb⟩ : ∃ b, partsN ks G m = b := ⟨_, rfl⟩
      rw [hgb]
      clear hgb
      have B0c0 := B0.out.cell 0
      have B0c1 := B0.out.cell 1
      simp at B0c0 B0c1
      go_wp2_with fail
      clear B0c0 B0c1
      refine (Works_any _).mono ?_
      rintro e v17 ⟨rfl, hb⟩
      replace HV := Lib.hid (HV.out.below hb)
      replace HK := Lib.hid (HK.out.below hb)
      replace HBV := Lib.hid (HBV.out.below hb)
      replace HY := Lib.hid (HY.out.below hb)
      replace HGV := Lib.hid (HGV.out.below hb)
      replace B0 := Lib.hid (B0.out.below hb)
      replace HB := Lib.hid (bC HB.out hb)
      clear hb
      go_wp2
      go_ret
      exact ⟨rfl, HB.out⟩
  · have z1 : (Da + Db == D) = true := by rw [beq_iff_eq]; exact heq
    have y0 : (Nb == 0) = false := by rw [beq_eq_false_iff_ne]; omega
    have y1 : ¬ (Nb = 0) := by omega
    obtain ⟨hl1, hl2, hl3, hte, hmn⟩ := quo_facts P9 P10 P11 (show Na * Nb ≤ Nn by omega)
    have u1 : decide (Na > Nn.tdiv Nb) = false := by simp; omega
    have u2 : decide (Nn.tdiv Nb < Na) = false := by simp; omega
    have u3 : decide (Na > Nn / Nb) = false := by rw [← hte]; exact u1
    have u4 : decide (Nn / Nb < Na) = false := by rw [← hte]; exact u2
    have ww2 : IntKind.i64.wrap (Nn.tdiv Nb) = Nn.tdiv Nb := IntWalk.i64_in _ (by omega)
    obtain ⟨XY, hXY⟩ : ∃ z, Na * Nb = z := ⟨_, rfl⟩
    have ww3 : IntKind.i64.wrap (Na * Nb) = XY := by rw [IntWalk.i64_in _ (by omega)]; exact hXY
    have z2 : (XY == Nn) = false := by rw [beq_eq_false_iff_ne]; omega
    clear heq hlt hl1 hl2 hl3 hte hXY hmn
    by_cases he : A = D
    · subst he
      clear G3
      go_enter Try.func10, Try.ntmps10
      go_wp2_with fail
      generalize w.alloc (.cells #[.int .i64 r.len, .slice sa r.fs.length cap] 24) = W0 at *
      refine (fine_yes (.agg #[.int .i64 r.len, .slice sa r.fs.length cap]) (.slice ka ks.length kcap) r ks _ HV.out HK.out HR.out.1 HR.out.2).mono ?_
      rintro e v1 ⟨rfl, hb⟩
      replace HV := Lib.hid (HV.out.below hb)
      replace HK := Lib.hid (HK.out.below hb)
      replace HBV := Lib.hid (HBV.out.below hb)
      replace B0 := Lib.hid (B0.out.below hb)
      replace HB := Lib.hid (bC HB.out hb)
      clear hb
      have B0c0 := B0.out.cell 0
      have B0c1 := B0.out.cell 1
      simp at B0c0 B0c1
      go_wp2_with fail
      clear B0c0 B0c1
      rw [E2.out]
      refine (best_any (.agg #[.int .i64 r.len, .slice sa r.fs.length cap]) (.slice ka ks.length kcap) r ks _ HV.out HK.out HR.out.1 HR.out.2).mono ?_
      rintro e v2 ⟨vb, rfl, hp, hb⟩
      replace HV := Lib.hid (HV.out.below hb)
      replace HK := Lib.hid (HK.out.below hb)
      replace HBV := Lib.hid (HBV.out.below hb)
      replace B0 := Lib.hid (B0.out.below hb)
      replace HB := Lib.hid (bC HB.out hb)
      clear hb
      rw [HCL.out] at hp
      obtain ⟨ya, yc, rfl⟩ := hp.slice
      have HY := Lib.hid hp
      clear hp
      rw [HD.out]
      have B0c0 := B0.out.cell 0
      have B0c1 := B0.out.cell 1
      simp at B0c0 B0c1
      go_wp2_with fail
      clear B0c0 B0c1
      refine (Piece_any (.agg #[.int .i64 r.len, .slice sa r.fs.length cap]) r 0 m _ HV.out (by omega) (Nat.zero_le _) (by omega) HFS.out).mono ?_
      rintro e v3 ⟨vq, rfl, hw, hb⟩
      replace HV := Lib.hid (HV.out.below hb)
      replace HK := Lib.hid (HK.out.below hb)
      replace HBV := Lib.hid (HBV.out.below hb)
      replace HY := Lib.hid (HY.out.below hb)
      replace B0 := Lib.hid (B0.out.below hb)
      replace HB := Lib.hid (bC HB.out hb)
      clear hb
      have HQ := Lib.hid hw
      clear hw
      have B0c0 := B0.out.cell 0
      have B0c1 := B0.out.cell 1
      simp at B0c0 B0c1
      go_wp2_with fail
      clear B0c0 B0c1
      refine (best_any vq (.slice ka ks.length kcap) (piece r 0 m) ks _ HQ.out HK.out HO1.out HR.out.2).mono ?_
      rintro e v4 ⟨vc, rfl, -, hb⟩
      replace HV := Lib.hid (HV.out.below hb)
      replace HK := Lib.hid (HK.out.below hb)
      replace HBV := Lib.hid (HBV.out.below hb)
      replace HY := Lib.hid (HY.out.below hb)
      replace HQ := Lib.hid (HQ.out.below hb)
      replace B0 := Lib.hid (B0.out.below hb)
      replace HB := Lib.hid (bC HB.out hb)
      clear hb
      clear HQ
      rw [HDa.out]
      have B0c0 := B0.out.cell 0
      have B0c1 := B0.out.cell 1
      simp at B0c0 B0c1
      go_wp2_with fail
      clear B0c0 B0c1
      have hPB := Piece_any (.agg #[.int .i64 r.len, .slice sa r.fs.length cap]) r m L _ HV.out (by omega) hmL2 hL100 HFS.out
      rw [← HLL.out] at hPB
      refine hPB.mono ?_
      clear hPB
      rintro e v5 ⟨vq, rfl, hw, hb⟩
      replace HV := Lib.hid (HV.out.below hb)
      replace HK := Lib.hid (HK.out.below hb)
      replace HBV := Lib.hid (HBV.out.below hb)
      replace HY := Lib.hid (HY.out.below hb)
      replace B0 := Lib.hid (B0.out.below hb)
      replace HB := Lib.hid (bC HB.out hb)
      clear hb
      have HQ := Lib.hid hw
      clear hw
      have B0c0 := B0.out.cell 0
      have B0c1 := B0.out.cell 1
      simp at B0c0 B0c1
      go_wp2_with fail
      clear B0c0 B0c1
      refine (best_any vq (.slice ka ks.length kcap) (piece r m r.len) ks _ HQ.out HK.out HO2.out HR.out.2).mono ?_
      rintro e v6 ⟨vd, rfl, -, hb⟩
      replace HV := Lib.hid (HV.out.below hb)
      replace HK := Lib.hid (HK.out.below hb)
      replace HBV := Lib.hid (HBV.out.below hb)
      replace HY := Lib.hid (HY.out.below hb)
      replace HQ := Lib.hid (HQ.out.below hb)
      replace B0 := Lib.hid (B0.out.below hb)
      replace HB := Lib.hid (bC HB.out hb)
      clear hb
      clear HQ
      rw [HDb.out]
      have B0c0 := B0.out.cell 0
      have B0c1 := B0.out.cell 1
      simp at B0c0 B0c1
      go_wp2_with fail
      clear B0c0 B0c1
      refine (count_any (.agg #[.int .i64 r.len, .slice sa r.fs.length cap]) (.slice ka ks.length kcap) r ks _ HV.out HK.out HR.out.1 HR.out.2).mono ?_
      rintro e v7 ⟨rfl, hb⟩
      replace HV := Lib.hid (HV.out.below hb)
      replace HK := Lib.hid (HK.out.below hb)
      replace HBV := Lib.hid (HBV.out.below hb)
      replace HY := Lib.hid (HY.out.below hb)
      replace B0 := Lib.hid (B0.out.below hb)
      replace HB := Lib.hid (bC HB.out hb)
      clear hb
      rw [HN.out]
      have B0c0 := B0.out.cell 0
      have B0c1 := B0.out.cell 1
      simp at B0c0 B0c1
      go_wp2_with fail
      clear B0c0 B0c1
      refine (Piece_any (.agg #[.int .i64 r.len, .slice sa r.fs.length cap]) r 0 m _ HV.out (by omega) (Nat.zero_le _) (by omega) HFS.out).mono ?_
      rintro e v8 ⟨vq, rfl, hw, hb⟩
      replace HV := Lib.hid (HV.out.below hb)
      replace HK := Lib.hid (HK.out.below hb)
      replace HBV := Lib.hid (HBV.out.below hb)
      replace HY := Lib.hid (HY.out.below hb)
      replace B0 := Lib.hid (B0.out.below hb)
      replace HB := Lib.hid (bC HB.out hb)
      clear hb
      have HQ := Lib.hid hw
      clear hw
      have B0c0 := B0.out.cell 0
      have B0c1 := B0.out.cell 1
      simp at B0c0 B0c1
      go_wp2_with fail
      clear B0c0 B0c1
      refine (count_any vq (.slice ka ks.length kcap) (piece r 0 m) ks _ HQ.out HK.out HO1.out HR.out.2).mono ?_
      rintro e v9 ⟨rfl, hb⟩
      replace HV := Lib.hid (HV.out.below hb)
      replace HK := Lib.hid (HK.out.below hb)
      replace HBV := Lib.hid (HBV.out.below hb)
      replace HY := Lib.hid (HY.out.below hb)
      replace HQ := Lib.hid (HQ.out.below hb)
      replace B0 := Lib.hid (B0.out.below hb)
      replace HB := Lib.hid (bC HB.out hb)
      clear hb
      clear HQ
      rw [HNa.out]
      have B0c0 := B0.out.cell 0
      have B0c1 := B0.out.cell 1
      simp at B0c0 B0c1
      go_wp2_with fail
      clear B0c0 B0c1
      have hPB := Piece_any (.agg #[.int .i64 r.len, .slice sa r.fs.length cap]) r m L _ HV.out (by omega) hmL2 hL100 HFS.out
      rw [← HLL.out] at hPB
      refine hPB.mono ?_
      clear hPB
      rintro e v10 ⟨vq, rfl, hw, hb⟩
      replace HV := Lib.hid (HV.out.below hb)
      replace HK := Lib.hid (HK.out.below hb)
      replace HBV := Lib.hid (HBV.out.below hb)
      replace HY := Lib.hid (HY.out.below hb)
      replace B0 := Lib.hid (B0.out.below hb)
      replace HB := Lib.hid (bC HB.out hb)
      clear hb
      have HQ := Lib.hid hw
      clear hw
      have B0c0 := B0.out.cell 0
      have B0c1 := B0.out.cell 1
      simp at B0c0 B0c1
      go_wp2_with fail
      clear B0c0 B0c1
      refine (count_any vq (.slice ka ks.length kcap) (piece r m r.len) ks _ HQ.out HK.out HO2.out HR.out.2).mono ?_
      rintro e v11 ⟨rfl, hb⟩
      replace HV := Lib.hid (HV.out.below hb)
      replace HK := Lib.hid (HK.out.below hb)
      replace HBV := Lib.hid (HBV.out.below hb)
      replace HY := Lib.hid (HY.out.below hb)
      replace HQ := Lib.hid (HQ.out.below hb)
      replace B0 := Lib.hid (B0.out.below hb)
      replace HB := Lib.hid (bC HB.out hb)
      clear hb
      clear HQ
      rw [HNb.out]
      have B0c0 := B0.out.cell 0
      have B0c1 := B0.out.cell 1
      simp at B0c0 B0c1
      go_wp2_with fail
      clear B0c0 B0c1
      refine (Parted_ok (.agg #[.int .i64 r.len, .slice sa r.fs.length cap]) (.slice ka ks.length kcap) r ks (m : Int) _ HV.out HK.out HR.out.1 HR.out.2).mono ?_
      rintro e v12 ⟨rfl, hb⟩
      replace HV := Lib.hid (HV.out.below hb)
      replace HK := Lib.hid (HK.out.below hb)
      replace HBV := Lib.hid (HBV.out.below hb)
      replace HY := Lib.hid (HY.out.below hb)
      replace B0 := Lib.hid (B0.out.below hb)
      replace HB := Lib.hid (bC HB.out hb)
      clear hb
      rw [HP3.out, HP4.out]
      have B0c0 := B0.out.cell 0
      have B0c1 := B0.out.cell 1
      simp at B0c0 B0c1
      go_wp2_with fail
      clear B0c0 B0c1
      refine (Given_any (.agg #[.int .i64 r.len, .slice sa r.fs.length cap]) (.slice ka ks.length kcap) (.slice ba l.length bcap) r ks l _ HV.out HK.out HBV.out HL8.out hl60 HR.out.1 HR.out.2).mono ?_
      rintro e v13 ⟨vg, rfl, hp, hb⟩
      replace HV := Lib.hid (HV.out.below hb)
      replace HK := Lib.hid (HK.out.below hb)
      replace HBV := Lib.hid (HBV.out.below hb)
      replace HY := Lib.hid (HY.out.below hb)
      replace B0 := Lib.hid (B0.out.below hb)
      replace HB := Lib.hid (bC HB.out hb)
      clear hb
      rw [HGL.out] at hp
      obtain ⟨ga, gc, rfl⟩ := hp.slice
      have HGV := Lib.hid hp
      clear hp
      have B0c0 := B0.out.cell 0
      have B0c1 := B0.out.cell 1
      simp at B0c0 B0c1
      go_wp2_with fail
      clear B0c0 B0c1
      refine (CheckCuts_ok (.agg #[.int .i64 r.len, .slice sa r.fs.length cap]) (.slice ka ks.length kcap) r ks _ gl _ HV.out HK.out HGV.out G4 HR.out.1 HR.out.2).mono ?_
      rintro e v14 ⟨rfl, hb⟩
      replace HV := Lib.hid (HV.out.below hb)
      replace HK := Lib.hid (HK.out.below hb)
      replace HBV := Lib.hid (HBV.out.below hb)
      replace HY := Lib.hid (HY.out.below hb)
      replace HGV := Lib.hid (HGV.out.below hb)
      replace B0 := Lib.hid (B0.out.below hb)
      replace HB := Lib.hid (bC HB.out hb)
      clear hb
      rw [HG1.out, HG2.out]
      have B0c0 := B0.out.cell 0
      have B0c1 := B0.out.cell 1
      simp at B0c0 B0c1
      go_wp2_with fail
      clear B0c0 B0c1
      refine (parts_any (.slice ka ks.length kcap) _ ks C m _ HK.out (by rw [HcC.out]; exact HY.out) HR.out.2 HMC.out HLc.out).mono ?_
      rintro e v15 ⟨rfl, hb⟩
      replace HV := Lib.hid (HV.out.below hb)
      replace HK := Lib.hid (HK.out.below hb)
      replace HBV := Lib.hid (HBV.out.below hb)
      replace HY := Lib.hid (HY.out.below hb)
      replace HGV := Lib.hid (HGV.out.below hb)
      replace B0 := Lib.hid (B0.out.below hb)
      replace HB := Lib.hid (bC HB.out hb)
      clear hb
      obtain ⟨cb, hcb⟩ : ∃ b, partsN ks C m = b := ⟨_, rfl⟩
      rw [hcb]
      clear hcb
      have B0c0 := B0.out.cell 0
      have B0c1 := B0.out.cell 1
      simp at B0c0 B0c1
      go_wp2_with fail
      clear B0c0 B0c1
      refine (parts_any (.slice ka ks.length kcap) _ ks G m _ HK.out (by rw [HgG.out]; exact HGV.out) HR.out.2 HMG.out HLg.out).mono ?_
      rintro e v16 ⟨rfl, hb⟩
      replace HV := Lib.hid (HV.out.below hb)
      replace HK := Lib.hid (HK.out.below hb)
      replace HBV := Lib.hid (HBV.out.below hb)
      replace HY := Lib.hid (HY.out.below hb)
      replace HGV := Lib.hid (HGV.out.below hb)
      replace B0 := Lib.hid (B0.out.below hb)
      replace HB := Lib.hid (bC HB.out hb)
      clear hb
      obtain ⟨gb, hgb⟩ : ∃ b, partsN ks G m = b := ⟨_, rfl⟩
      rw [hgb]
      clear hgb
      have B0c0 := B0.out.cell 0
      have B0c1 := B0.out.cell 1
      simp at B0c0 B0c1
      go_wp2_with fail
      clear B0c0 B0c1
      refine (Works_any _).mono ?_
      rintro e v17 ⟨rfl, hb⟩
      replace HV := Lib.hid (HV.out.below hb)
      replace HK := Lib.hid (HK.out.below hb)
      replace HBV := Lib.hid (HBV.out.below hb)
      replace HY := Lib.hid (HY.out.below hb)
      replace HGV := Lib.hid (HGV.out.below hb)
      replace B0 := Lib.hid (B0.out.below hb)
      replace HB := Lib.hid (bC HB.out hb)
      clear hb
      go_wp2
      go_ret
      exact ⟨rfl, HB.out⟩
    · have he' : (A != D) = true := by simpa using he
      clear he G3
      go_enter Try.func10, Try.ntmps10
      go_wp2_with fail
      generalize w.alloc (.cells #[.int .i64 r.len, .slice sa r.fs.length cap] 24) = W0 at *
      refine (fine_yes (.agg #[.int .i64 r.len, .slice sa r.fs.length cap]) (.slice ka ks.length kcap) r ks _ HV.out HK.out HR.out.1 HR.out.2).mono ?_
      rintro e v1 ⟨rfl, hb⟩
      replace HV := Lib.hid (HV.out.below hb)
      replace HK := Lib.hid (HK.out.below hb)
      replace HBV := Lib.hid (HBV.out.below hb)
      replace B0 := Lib.hid (B0.out.below hb)
      replace HB := Lib.hid (bC HB.out hb)
      clear hb
      have B0c0 := B0.out.cell 0
      have B0c1 := B0.out.cell 1
      simp at B0c0 B0c1
      go_wp2_with fail
      clear B0c0 B0c1
      rw [E2.out]
      refine (best_any (.agg #[.int .i64 r.len, .slice sa r.fs.length cap]) (.slice ka ks.length kcap) r ks _ HV.out HK.out HR.out.1 HR.out.2).mono ?_
      rintro e v2 ⟨vb, rfl, hp, hb⟩
      replace HV := Lib.hid (HV.out.below hb)
      replace HK := Lib.hid (HK.out.below hb)
      replace HBV := Lib.hid (HBV.out.below hb)
      replace B0 := Lib.hid (B0.out.below hb)
      replace HB := Lib.hid (bC HB.out hb)
      clear hb
      rw [HCL.out] at hp
      obtain ⟨ya, yc, rfl⟩ := hp.slice
      have HY := Lib.hid hp
      clear hp
      rw [HD.out]
      have B0c0 := B0.out.cell 0
      have B0c1 := B0.out.cell 1
      simp at B0c0 B0c1
      go_wp2_with fail
      clear B0c0 B0c1
      refine (Piece_any (.agg #[.int .i64 r.len, .slice sa r.fs.length cap]) r 0 m _ HV.out (by omega) (Nat.zero_le _) (by omega) HFS.out).mono ?_
      rintro e v3 ⟨vq, rfl, hw, hb⟩
      replace HV := Lib.hid (HV.out.below hb)
      replace HK := Lib.hid (HK.out.below hb)
      replace HBV := Lib.hid (HBV.out.below hb)
      replace HY := Lib.hid (HY.out.below hb)
      replace B0 := Lib.hid (B0.out.below hb)
      replace HB := Lib.hid (bC HB.out hb)
      clear hb
      have HQ := Lib.hid hw
      clear hw
      have B0c0 := B0.out.cell 0
      have B0c1 := B0.out.cell 1
      simp at B0c0 B0c1
      go_wp2_with fail
      clear B0c0 B0c1
      refine (best_any vq (.slice ka ks.length kcap) (piece r 0 m) ks _ HQ.out HK.out HO1.out HR.out.2).mono ?_
      rintro e v4 ⟨vc, rfl, -, hb⟩
      replace HV := Lib.hid (HV.out.below hb)
      replace HK := Lib.hid (HK.out.below hb)
      replace HBV := Lib.hid (HBV.out.below hb)
      replace HY := Lib.hid (HY.out.below hb)
      replace HQ := Lib.hid (HQ.out.below hb)
      replace B0 := Lib.hid (B0.out.below hb)
      replace HB := Lib.hid (bC HB.out hb)
      clear hb
      clear HQ
      rw [HDa.out]
      have B0c0 := B0.out.cell 0
      have B0c1 := B0.out.cell 1
      simp at B0c0 B0c1
      go_wp2_with fail
      clear B0c0 B0c1
      have hPB := Piece_any (.agg #[.int .i64 r.len, .slice sa r.fs.length cap]) r m L _ HV.out (by omega) hmL2 hL100 HFS.out
      rw [← HLL.out] at hPB
      refine hPB.mono ?_
      clear hPB
      rintro e v5 ⟨vq, rfl, hw, hb⟩
      replace HV := Lib.hid (HV.out.below hb)
      replace HK := Lib.hid (HK.out.below hb)
      replace HBV := Lib.hid (HBV.out.below hb)
      replace HY := Lib.hid (HY.out.below hb)
      replace B0 := Lib.hid (B0.out.below hb)
      replace HB := Lib.hid (bC HB.out hb)
      clear hb
      have HQ := Lib.hid hw
      clear hw
      have B0c0 := B0.out.cell 0
      have B0c1 := B0.out.cell 1
      simp at B0c0 B0c1
      go_wp2_with fail
      clear B0c0 B0c1
      refine (best_any vq (.slice ka ks.length kcap) (piece r m r.len) ks _ HQ.out HK.out HO2.out HR.out.2).mono ?_
      rintro e v6 ⟨vd, rfl, -, hb⟩
      replace HV := Lib.hid (HV.out.below hb)
      replace HK := Lib.hid (HK.out.below hb)
      replace HBV := Lib.hid (HBV.out.below hb)
      replace HY := Lib.hid (HY.out.below hb)
      replace HQ := Lib.hid (HQ.out.below hb)
      replace B0 := Lib.hid (B0.out.below hb)
      replace HB := Lib.hid (bC HB.out hb)
      clear hb
      clear HQ
      rw [HDb.out]
      have B0c0 := B0.out.cell 0
      have B0c1 := B0.out.cell 1
      simp at B0c0 B0c1
      go_wp2_with fail
      clear B0c0 B0c1
      refine (count_any (.agg #[.int .i64 r.len, .slice sa r.fs.length cap]) (.slice ka ks.length kcap) r ks _ HV.out HK.out HR.out.1 HR.out.2).mono ?_
      rintro e v7 ⟨rfl, hb⟩
      replace HV := Lib.hid (HV.out.below hb)
      replace HK := Lib.hid (HK.out.below hb)
      replace HBV := Lib.hid (HBV.out.below hb)
      replace HY := Lib.hid (HY.out.below hb)
      replace B0 := Lib.hid (B0.out.below hb)
      replace HB := Lib.hid (bC HB.out hb)
      clear hb
      rw [HN.out]
      have B0c0 := B0.out.cell 0
      have B0c1 := B0.out.cell 1
      simp at B0c0 B0c1
      go_wp2_with fail
      clear B0c0 B0c1
      refine (Piece_any (.agg #[.int .i64 r.len, .slice sa r.fs.length cap]) r 0 m _ HV.out (by omega) (Nat.zero_le _) (by omega) HFS.out).mono ?_
      rintro e v8 ⟨vq, rfl, hw, hb⟩
      replace HV := Lib.hid (HV.out.below hb)
      replace HK := Lib.hid (HK.out.below hb)
      replace HBV := Lib.hid (HBV.out.below hb)
      replace HY := Lib.hid (HY.out.below hb)
      replace B0 := Lib.hid (B0.out.below hb)
      replace HB := Lib.hid (bC HB.out hb)
      clear hb
      have HQ := Lib.hid hw
      clear hw
      have B0c0 := B0.out.cell 0
      have B0c1 := B0.out.cell 1
      simp at B0c0 B0c1
      go_wp2_with fail
      clear B0c0 B0c1
      refine (count_any vq (.slice ka ks.length kcap) (piece r 0 m) ks _ HQ.out HK.out HO1.out HR.out.2).mono ?_
      rintro e v9 ⟨rfl, hb⟩
      replace HV := Lib.hid (HV.out.below hb)
      replace HK := Lib.hid (HK.out.below hb)
      replace HBV := Lib.hid (HBV.out.below hb)
      replace HY := Lib.hid (HY.out.below hb)
      replace HQ := Lib.hid (HQ.out.below hb)
      replace B0 := Lib.hid (B0.out.below hb)
      replace HB := Lib.hid (bC HB.out hb)
      clear hb
      clear HQ
      rw [HNa.out]
      have B0c0 := B0.out.cell 0
      have B0c1 := B0.out.cell 1
      simp at B0c0 B0c1
      go_wp2_with fail
      clear B0c0 B0c1
      have hPB := Piece_any (.agg #[.int .i64 r.len, .slice sa r.fs.length cap]) r m L _ HV.out (by omega) hmL2 hL100 HFS.out
      rw [← HLL.out] at hPB
      refine hPB.mono ?_
      clear hPB
      rintro e v10 ⟨vq, rfl, hw, hb⟩
      replace HV := Lib.hid (HV.out.below hb)
      replace HK := Lib.hid (HK.out.below hb)
      replace HBV := Lib.hid (HBV.out.below hb)
      replace HY := Lib.hid (HY.out.below hb)
      replace B0 := Lib.hid (B0.out.below hb)
      replace HB := Lib.hid (bC HB.out hb)
      clear hb
      have HQ := Lib.hid hw
      clear hw
      have B0c0 := B0.out.cell 0
      have B0c1 := B0.out.cell 1
      simp at B0c0 B0c1
      go_wp2_with fail
      clear B0c0 B0c1
      refine (count_any vq (.slice ka ks.length kcap) (piece r m r.len) ks _ HQ.out HK.out HO2.out HR.out.2).mono ?_
      rintro e v11 ⟨rfl, hb⟩
      replace HV := Lib.hid (HV.out.below hb)
      replace HK := Lib.hid (HK.out.below hb)
      replace HBV := Lib.hid (HBV.out.below hb)
      replace HY := Lib.hid (HY.out.below hb)
      replace HQ := Lib.hid (HQ.out.below hb)
      replace B0 := Lib.hid (B0.out.below hb)
      replace HB := Lib.hid (bC HB.out hb)
      clear hb
      clear HQ
      rw [HNb.out]
      have B0c0 := B0.out.cell 0
      have B0c1 := B0.out.cell 1
      simp at B0c0 B0c1
      go_wp2_with fail
      clear B0c0 B0c1
      refine (Parted_ok (.agg #[.int .i64 r.len, .slice sa r.fs.length cap]) (.slice ka ks.length kcap) r ks (m : Int) _ HV.out HK.out HR.out.1 HR.out.2).mono ?_
      rintro e v12 ⟨rfl, hb⟩
      replace HV := Lib.hid (HV.out.below hb)
      replace HK := Lib.hid (HK.out.below hb)
      replace HBV := Lib.hid (HBV.out.below hb)
      replace HY := Lib.hid (HY.out.below hb)
      replace B0 := Lib.hid (B0.out.below hb)
      replace HB := Lib.hid (bC HB.out hb)
      clear hb
      rw [HP3.out, HP4.out]
      have B0c0 := B0.out.cell 0
      have B0c1 := B0.out.cell 1
      simp at B0c0 B0c1
      go_wp2_with fail
      clear B0c0 B0c1
      refine (Given_any (.agg #[.int .i64 r.len, .slice sa r.fs.length cap]) (.slice ka ks.length kcap) (.slice ba l.length bcap) r ks l _ HV.out HK.out HBV.out HL8.out hl60 HR.out.1 HR.out.2).mono ?_
      rintro e v13 ⟨vg, rfl, hp, hb⟩
      replace HV := Lib.hid (HV.out.below hb)
      replace HK := Lib.hid (HK.out.below hb)
      replace HBV := Lib.hid (HBV.out.below hb)
      replace HY := Lib.hid (HY.out.below hb)
      replace B0 := Lib.hid (B0.out.below hb)
      replace HB := Lib.hid (bC HB.out hb)
      clear hb
      rw [HGL.out] at hp
      obtain ⟨ga, gc, rfl⟩ := hp.slice
      have HGV := Lib.hid hp
      clear hp
      have B0c0 := B0.out.cell 0
      have B0c1 := B0.out.cell 1
      simp at B0c0 B0c1
      go_wp2_with fail
      clear B0c0 B0c1
      refine (CheckCuts_ok (.agg #[.int .i64 r.len, .slice sa r.fs.length cap]) (.slice ka ks.length kcap) r ks _ gl _ HV.out HK.out HGV.out G4 HR.out.1 HR.out.2).mono ?_
      rintro e v14 ⟨rfl, hb⟩
      replace HV := Lib.hid (HV.out.below hb)
      replace HK := Lib.hid (HK.out.below hb)
      replace HBV := Lib.hid (HBV.out.below hb)
      replace HY := Lib.hid (HY.out.below hb)
      replace HGV := Lib.hid (HGV.out.below hb)
      replace B0 := Lib.hid (B0.out.below hb)
      replace HB := Lib.hid (bC HB.out hb)
      clear hb
      rw [HG1.out, HG2.out]
      have B0c0 := B0.out.cell 0
      have B0c1 := B0.out.cell 1
      simp at B0c0 B0c1
      go_wp2_with fail
      clear B0c0 B0c1
      refine (parts_any (.slice ka ks.length kcap) _ ks C m _ HK.out (by rw [HcC.out]; exact HY.out) HR.out.2 HMC.out HLc.out).mono ?_
      rintro e v15 ⟨rfl, hb⟩
      replace HV := Lib.hid (HV.out.below hb)
      replace HK := Lib.hid (HK.out.below hb)
      replace HBV := Lib.hid (HBV.out.below hb)
      replace HY := Lib.hid (HY.out.below hb)
      replace HGV := Lib.hid (HGV.out.below hb)
      replace B0 := Lib.hid (B0.out.below hb)
      replace HB := Lib.hid (bC HB.out hb)
      clear hb
      obtain ⟨cb, hcb⟩ : ∃ b, partsN ks C m = b := ⟨_, rfl⟩
      rw [hcb]
      clear hcb
      have B0c0 := B0.out.cell 0
      have B0c1 := B0.out.cell 1
      simp at B0c0 B0c1
      go_wp2_with fail
      clear B0c0 B0c1
      refine (parts_any (.slice ka ks.length kcap) _ ks G m _ HK.out (by rw [HgG.out]; exact HGV.out) HR.out.2 HMG.out HLg.out).mono ?_
      rintro e v16 ⟨rfl, hb⟩
      replace HV := Lib.hid (HV.out.below hb)
      replace HK := Lib.hid (HK.out.below hb)
      replace HBV := Lib.hid (HBV.out.below hb)
      replace HY := Lib.hid (HY.out.below hb)
      replace HGV := Lib.hid (HGV.out.below hb)
      replace B0 := Lib.hid (B0.out.below hb)
      replace HB := Lib.hid (bC HB.out hb)
      clear hb
      obtain ⟨gb, hgb⟩ : ∃ b, partsN ks G m = b := ⟨_, rfl⟩
      rw [hgb]
      clear hgb
      have B0c0 := B0.out.cell 0
      have B0c1 := B0.out.cell 1
      simp at B0c0 B0c1
      go_wp2_with fail
      clear B0c0 B0c1
      refine (Works_any _).mono ?_
      rintro e v17 ⟨rfl, hb⟩
      replace HV := Lib.hid (HV.out.below hb)
      replace HK := Lib.hid (HK.out.below hb)
      replace HBV := Lib.hid (HBV.out.below hb)
      replace HY := Lib.hid (HY.out.below hb)
      replace HGV := Lib.hid (HGV.out.below hb)
      replace B0 := Lib.hid (B0.out.below hb)
      replace HB := Lib.hid (bC HB.out hb)
      clear hb
      go_wp2
      go_ret
      exact ⟨rfl, HB.out⟩
  · have z1 : (Da + Db == D) = true := by rw [beq_iff_eq]; exact heq
    have y0 : (Nb == 0) = false := by rw [beq_eq_false_iff_ne]; omega
    have y1 : ¬ (Nb = 0) := by omega
    obtain ⟨hl1, hl2, hl3, hte, hmn⟩ := quo_facts P9 P10 P11 (show Na * Nb ≤ Nn by omega)
    have u1 : decide (Na > Nn.tdiv Nb) = false := by simp; omega
    have u2 : decide (Nn.tdiv Nb < Na) = false := by simp; omega
    have u3 : decide (Na > Nn / Nb) = false := by rw [← hte]; exact u1
    have u4 : decide (Nn / Nb < Na) = false := by rw [← hte]; exact u2
    have ww2 : IntKind.i64.wrap (Nn.tdiv Nb) = Nn.tdiv Nb := IntWalk.i64_in _ (by omega)
    obtain ⟨XY, hXY⟩ : ∃ z, Na * Nb = z := ⟨_, rfl⟩
    have ww3 : IntKind.i64.wrap (Na * Nb) = XY := by rw [IntWalk.i64_in _ (by omega)]; exact hXY
    have z2 : (XY == Nn) = true := by rw [beq_iff_eq]; omega
    clear heq hxy hl1 hl2 hl3 hte hXY hmn
    have HOW := Lib.hid (HPC.out.2 rfl)
    by_cases he : A = D
    · subst he
      have HGI := Lib.hid ((HPG.out rfl).2 rfl)
      clear G3
      go_enter Try.func10, Try.ntmps10
      go_wp2_with fail
      generalize w.alloc (.cells #[.int .i64 r.len, .slice sa r.fs.length cap] 24) = W0 at *
      refine (fine_yes (.agg #[.int .i64 r.len, .slice sa r.fs.length cap]) (.slice ka ks.length kcap) r ks _ HV.out HK.out HR.out.1 HR.out.2).mono ?_
      rintro e v1 ⟨rfl, hb⟩
      replace HV := Lib.hid (HV.out.below hb)
      replace HK := Lib.hid (HK.out.below hb)
      replace HBV := Lib.hid (HBV.out.below hb)
      replace B0 := Lib.hid (B0.out.below hb)
      replace HB := Lib.hid (bC HB.out hb)
      clear hb
      have B0c0 := B0.out.cell 0
      have B0c1 := B0.out.cell 1
      simp at B0c0 B0c1
      go_wp2_with fail
      clear B0c0 B0c1
      rw [E2.out]
      refine (best_any (.agg #[.int .i64 r.len, .slice sa r.fs.length cap]) (.slice ka ks.length kcap) r ks _ HV.out HK.out HR.out.1 HR.out.2).mono ?_
      rintro e v2 ⟨vb, rfl, hp, hb⟩
      replace HV := Lib.hid (HV.out.below hb)
      replace HK := Lib.hid (HK.out.below hb)
      replace HBV := Lib.hid (HBV.out.below hb)
      replace B0 := Lib.hid (B0.out.below hb)
      replace HB := Lib.hid (bC HB.out hb)
      clear hb
      rw [HCL.out] at hp
      obtain ⟨ya, yc, rfl⟩ := hp.slice
      have HY := Lib.hid hp
      clear hp
      rw [HD.out]
      have B0c0 := B0.out.cell 0
      have B0c1 := B0.out.cell 1
      simp at B0c0 B0c1
      go_wp2_with fail
      clear B0c0 B0c1
      refine (Piece_any (.agg #[.int .i64 r.len, .slice sa r.fs.length cap]) r 0 m _ HV.out (by omega) (Nat.zero_le _) (by omega) HFS.out).mono ?_
      rintro e v3 ⟨vq, rfl, hw, hb⟩
      replace HV := Lib.hid (HV.out.below hb)
      replace HK := Lib.hid (HK.out.below hb)
      replace HBV := Lib.hid (HBV.out.below hb)
      replace HY := Lib.hid (HY.out.below hb)
      replace B0 := Lib.hid (B0.out.below hb)
      replace HB := Lib.hid (bC HB.out hb)
      clear hb
      have HQ := Lib.hid hw
      clear hw
      have B0c0 := B0.out.cell 0
      have B0c1 := B0.out.cell 1
      simp at B0c0 B0c1
      go_wp2_with fail
      clear B0c0 B0c1
      refine (best_any vq (.slice ka ks.length kcap) (piece r 0 m) ks _ HQ.out HK.out HO1.out HR.out.2).mono ?_
      rintro e v4 ⟨vc, rfl, -, hb⟩
      replace HV := Lib.hid (HV.out.below hb)
      replace HK := Lib.hid (HK.out.below hb)
      replace HBV := Lib.hid (HBV.out.below hb)
      replace HY := Lib.hid (HY.out.below hb)
      replace HQ := Lib.hid (HQ.out.below hb)
      replace B0 := Lib.hid (B0.out.below hb)
      replace HB := Lib.hid (bC HB.out hb)
      clear hb
      clear HQ
      rw [HDa.out]
      have B0c0 := B0.out.cell 0
      have B0c1 := B0.out.cell 1
      simp at B0c0 B0c1
      go_wp2_with fail
      clear B0c0 B0c1
      have hPB := Piece_any (.agg #[.int .i64 r.len, .slice sa r.fs.length cap]) r m L _ HV.out (by omega) hmL2 hL100 HFS.out
      rw [← HLL.out] at hPB
      refine hPB.mono ?_
      clear hPB
      rintro e v5 ⟨vq, rfl, hw, hb⟩
      replace HV := Lib.hid (HV.out.below hb)
      replace HK := Lib.hid (HK.out.below hb)
      replace HBV := Lib.hid (HBV.out.below hb)
      replace HY := Lib.hid (HY.out.below hb)
      replace B0 := Lib.hid (B0.out.below hb)
      replace HB := Lib.hid (bC HB.out hb)
      clear hb
      have HQ := Lib.hid hw
      clear hw
      have B0c0 := B0.out.cell 0
      have B0c1 := B0.out.cell 1
      simp at B0c0 B0c1
      go_wp2_with fail
      clear B0c0 B0c1
      refine (best_any vq (.slice ka ks.length kcap) (piece r m r.len) ks _ HQ.out HK.out HO2.out HR.out.2).mono ?_
      rintro e v6 ⟨vd, rfl, -, hb⟩
      replace HV := Lib.hid (HV.out.below hb)
      replace HK := Lib.hid (HK.out.below hb)
      replace HBV := Lib.hid (HBV.out.below hb)
      replace HY := Lib.hid (HY.out.below hb)
      replace HQ := Lib.hid (HQ.out.below hb)
      replace B0 := Lib.hid (B0.out.below hb)
      replace HB := Lib.hid (bC HB.out hb)
      clear hb
      clear HQ
      rw [HDb.out]
      have B0c0 := B0.out.cell 0
      have B0c1 := B0.out.cell 1
      simp at B0c0 B0c1
      go_wp2_with fail
      clear B0c0 B0c1
      refine (count_any (.agg #[.int .i64 r.len, .slice sa r.fs.length cap]) (.slice ka ks.length kcap) r ks _ HV.out HK.out HR.out.1 HR.out.2).mono ?_
      rintro e v7 ⟨rfl, hb⟩
      replace HV := Lib.hid (HV.out.below hb)
      replace HK := Lib.hid (HK.out.below hb)
      replace HBV := Lib.hid (HBV.out.below hb)
      replace HY := Lib.hid (HY.out.below hb)
      replace B0 := Lib.hid (B0.out.below hb)
      replace HB := Lib.hid (bC HB.out hb)
      clear hb
      rw [HN.out]
      have B0c0 := B0.out.cell 0
      have B0c1 := B0.out.cell 1
      simp at B0c0 B0c1
      go_wp2_with fail
      clear B0c0 B0c1
      refine (Piece_any (.agg #[.int .i64 r.len, .slice sa r.fs.length cap]) r 0 m _ HV.out (by omega) (Nat.zero_le _) (by omega) HFS.out).mono ?_
      rintro e v8 ⟨vq, rfl, hw, hb⟩
      replace HV := Lib.hid (HV.out.below hb)
      replace HK := Lib.hid (HK.out.below hb)
      replace HBV := Lib.hid (HBV.out.below hb)
      replace HY := Lib.hid (HY.out.below hb)
      replace B0 := Lib.hid (B0.out.below hb)
      replace HB := Lib.hid (bC HB.out hb)
      clear hb
      have HQ := Lib.hid hw
      clear hw
      have B0c0 := B0.out.cell 0
      have B0c1 := B0.out.cell 1
      simp at B0c0 B0c1
      go_wp2_with fail
      clear B0c0 B0c1
      refine (count_any vq (.slice ka ks.length kcap) (piece r 0 m) ks _ HQ.out HK.out HO1.out HR.out.2).mono ?_
      rintro e v9 ⟨rfl, hb⟩
      replace HV := Lib.hid (HV.out.below hb)
      replace HK := Lib.hid (HK.out.below hb)
      replace HBV := Lib.hid (HBV.out.below hb)
      replace HY := Lib.hid (HY.out.below hb)
      replace HQ := Lib.hid (HQ.out.below hb)
      replace B0 := Lib.hid (B0.out.below hb)
      replace HB := Lib.hid (bC HB.out hb)
      clear hb
      clear HQ
      rw [HNa.out]
      have B0c0 := B0.out.cell 0
      have B0c1 := B0.out.cell 1
      simp at B0c0 B0c1
      go_wp2_with fail
      clear B0c0 B0c1
      have hPB := Piece_any (.agg #[.int .i64 r.len, .slice sa r.fs.length cap]) r m L _ HV.out (by omega) hmL2 hL100 HFS.out
      rw [← HLL.out] at hPB
      refine hPB.mono ?_
      clear hPB
      rintro e v10 ⟨vq, rfl, hw, hb⟩
      replace HV := Lib.hid (HV.out.below hb)
      replace HK := Lib.hid (HK.out.below hb)
      replace HBV := Lib.hid (HBV.out.below hb)
      replace HY := Lib.hid (HY.out.below hb)
      replace B0 := Lib.hid (B0.out.below hb)
      replace HB := Lib.hid (bC HB.out hb)
      clear hb
      have HQ := Lib.hid hw
      clear hw
      have B0c0 := B0.out.cell 0
      have B0c1 := B0.out.cell 1
      simp at B0c0 B0c1
      go_wp2_with fail
      clear B0c0 B0c1
      refine (count_any vq (.slice ka ks.length kcap) (piece r m r.len) ks _ HQ.out HK.out HO2.out HR.out.2).mono ?_
      rintro e v11 ⟨rfl, hb⟩
      replace HV := Lib.hid (HV.out.below hb)
      replace HK := Lib.hid (HK.out.below hb)
      replace HBV := Lib.hid (HBV.out.below hb)
      replace HY := Lib.hid (HY.out.below hb)
      replace HQ := Lib.hid (HQ.out.below hb)
      replace B0 := Lib.hid (B0.out.below hb)
      replace HB := Lib.hid (bC HB.out hb)
      clear hb
      clear HQ
      rw [HNb.out]
      have B0c0 := B0.out.cell 0
      have B0c1 := B0.out.cell 1
      simp at B0c0 B0c1
      go_wp2_with fail
      clear B0c0 B0c1
      refine (Parted_ok (.agg #[.int .i64 r.len, .slice sa r.fs.length cap]) (.slice ka ks.length kcap) r ks (m : Int) _ HV.out HK.out HR.out.1 HR.out.2).mono ?_
      rintro e v12 ⟨rfl, hb⟩
      replace HV := Lib.hid (HV.out.below hb)
      replace HK := Lib.hid (HK.out.below hb)
      replace HBV := Lib.hid (HBV.out.below hb)
      replace HY := Lib.hid (HY.out.below hb)
      replace B0 := Lib.hid (B0.out.below hb)
      replace HB := Lib.hid (bC HB.out hb)
      clear hb
      rw [HP3.out, HP4.out]
      have B0c0 := B0.out.cell 0
      have B0c1 := B0.out.cell 1
      simp at B0c0 B0c1
      go_wp2_with fail
      clear B0c0 B0c1
      refine (Given_any (.agg #[.int .i64 r.len, .slice sa r.fs.length cap]) (.slice ka ks.length kcap) (.slice ba l.length bcap) r ks l _ HV.out HK.out HBV.out HL8.out hl60 HR.out.1 HR.out.2).mono ?_
      rintro e v13 ⟨vg, rfl, hp, hb⟩
      replace HV := Lib.hid (HV.out.below hb)
      replace HK := Lib.hid (HK.out.below hb)
      replace HBV := Lib.hid (HBV.out.below hb)
      replace HY := Lib.hid (HY.out.below hb)
      replace B0 := Lib.hid (B0.out.below hb)
      replace HB := Lib.hid (bC HB.out hb)
      clear hb
      rw [HGL.out] at hp
      obtain ⟨ga, gc, rfl⟩ := hp.slice
      have HGV := Lib.hid hp
      clear hp
      have B0c0 := B0.out.cell 0
      have B0c1 := B0.out.cell 1
      simp at B0c0 B0c1
      go_wp2_with fail
      clear B0c0 B0c1
      refine (CheckCuts_ok (.agg #[.int .i64 r.len, .slice sa r.fs.length cap]) (.slice ka ks.length kcap) r ks _ gl _ HV.out HK.out HGV.out G4 HR.out.1 HR.out.2).mono ?_
      rintro e v14 ⟨rfl, hb⟩
      replace HV := Lib.hid (HV.out.below hb)
      replace HK := Lib.hid (HK.out.below hb)
      replace HBV := Lib.hid (HBV.out.below hb)
      replace HY := Lib.hid (HY.out.below hb)
      replace HGV := Lib.hid (HGV.out.below hb)
      replace B0 := Lib.hid (B0.out.below hb)
      replace HB := Lib.hid (bC HB.out hb)
      clear hb
      rw [HG1.out, HG2.out]
      have B0c0 := B0.out.cell 0
      have B0c1 := B0.out.cell 1
      simp at B0c0 B0c1
      go_wp2_with fail
      clear B0c0 B0c1
      refine (parts_any (.slice ka ks.length kcap) _ ks C m _ HK.out (by rw [HcC.out]; exact HY.out) HR.out.2 HMC.out HLc.out).mono ?_
      rintro e v15 ⟨rfl, hb⟩
      replace HV := Lib.hid (HV.out.below hb)
      replace HK := Lib.hid (HK.out.below hb)
      replace HBV := Lib.hid (HBV.out.below hb)
      replace HY := Lib.hid (HY.out.below hb)
      replace HGV := Lib.hid (HGV.out.below hb)
      replace B0 := Lib.hid (B0.out.below hb)
      replace HB := Lib.hid (bC HB.out hb)
      clear hb
      rw [HOW.out]
      have B0c0 := B0.out.cell 0
      have B0c1 := B0.out.cell 1
      simp at B0c0 B0c1
      go_wp2_with fail
      clear B0c0 B0c1
      refine (parts_any (.slice ka ks.length kcap) _ ks G m _ HK.out (by rw [HgG.out]; exact HGV.out) HR.out.2 HMG.out HLg.out).mono ?_
      rintro e v16 ⟨rfl, hb⟩
      replace HV := Lib.hid (HV.out.below hb)
      replace HK := Lib.hid (HK.out.below hb)
      replace HBV := Lib.hid (HBV.out.below hb)
      replace HY := Lib.hid (HY.out.below hb)
      replace HGV := Lib.hid (HGV.out.below hb)
      replace B0 := Lib.hid (B0.out.below hb)
      replace HB := Lib.hid (bC HB.out hb)
      clear hb
      rw [HGI.out]
      have B0c0 := B0.out.cell 0
      have B0c1 := B0.out.cell 1
      simp at B0c0 B0c1
      go_wp2_with fail
      clear B0c0 B0c1
      refine (Works_any _).mono ?_
      rintro e v17 ⟨rfl, hb⟩
      replace HV := Lib.hid (HV.out.below hb)
      replace HK := Lib.hid (HK.out.below hb)
      replace HBV := Lib.hid (HBV.out.below hb)
      replace HY := Lib.hid (HY.out.below hb)
      replace HGV := Lib.hid (HGV.out.below hb)
      replace B0 := Lib.hid (B0.out.below hb)
      replace HB := Lib.hid (bC HB.out hb)
      clear hb
      go_wp2
      go_ret
      exact ⟨rfl, HB.out⟩
    · have he' : (A != D) = true := by simpa using he
      clear he G3
      go_enter Try.func10, Try.ntmps10
      go_wp2_with fail
      generalize w.alloc (.cells #[.int .i64 r.len, .slice sa r.fs.length cap] 24) = W0 at *
      refine (fine_yes (.agg #[.int .i64 r.len, .slice sa r.fs.length cap]) (.slice ka ks.length kcap) r ks _ HV.out HK.out HR.out.1 HR.out.2).mono ?_
      rintro e v1 ⟨rfl, hb⟩
      replace HV := Lib.hid (HV.out.below hb)
      replace HK := Lib.hid (HK.out.below hb)
      replace HBV := Lib.hid (HBV.out.below hb)
      replace B0 := Lib.hid (B0.out.below hb)
      replace HB := Lib.hid (bC HB.out hb)
      clear hb
      have B0c0 := B0.out.cell 0
      have B0c1 := B0.out.cell 1
      simp at B0c0 B0c1
      go_wp2_with fail
      clear B0c0 B0c1
      rw [E2.out]
      refine (best_any (.agg #[.int .i64 r.len, .slice sa r.fs.length cap]) (.slice ka ks.length kcap) r ks _ HV.out HK.out HR.out.1 HR.out.2).mono ?_
      rintro e v2 ⟨vb, rfl, hp, hb⟩
      replace HV := Lib.hid (HV.out.below hb)
      replace HK := Lib.hid (HK.out.below hb)
      replace HBV := Lib.hid (HBV.out.below hb)
      replace B0 := Lib.hid (B0.out.below hb)
      replace HB := Lib.hid (bC HB.out hb)
      clear hb
      rw [HCL.out] at hp
      obtain ⟨ya, yc, rfl⟩ := hp.slice
      have HY := Lib.hid hp
      clear hp
      rw [HD.out]
      have B0c0 := B0.out.cell 0
      have B0c1 := B0.out.cell 1
      simp at B0c0 B0c1
      go_wp2_with fail
      clear B0c0 B0c1
      refine (Piece_any (.agg #[.int .i64 r.len, .slice sa r.fs.length cap]) r 0 m _ HV.out (by omega) (Nat.zero_le _) (by omega) HFS.out).mono ?_
      rintro e v3 ⟨vq, rfl, hw, hb⟩
      replace HV := Lib.hid (HV.out.below hb)
      replace HK := Lib.hid (HK.out.below hb)
      replace HBV := Lib.hid (HBV.out.below hb)
      replace HY := Lib.hid (HY.out.below hb)
      replace B0 := Lib.hid (B0.out.below hb)
      replace HB := Lib.hid (bC HB.out hb)
      clear hb
      have HQ := Lib.hid hw
      clear hw
      have B0c0 := B0.out.cell 0
      have B0c1 := B0.out.cell 1
      simp at B0c0 B0c1
      go_wp2_with fail
      clear B0c0 B0c1
      refine (best_any vq (.slice ka ks.length kcap) (piece r 0 m) ks _ HQ.out HK.out HO1.out HR.out.2).mono ?_
      rintro e v4 ⟨vc, rfl, -, hb⟩
      replace HV := Lib.hid (HV.out.below hb)
      replace HK := Lib.hid (HK.out.below hb)
      replace HBV := Lib.hid (HBV.out.below hb)
      replace HY := Lib.hid (HY.out.below hb)
      replace HQ := Lib.hid (HQ.out.below hb)
      replace B0 := Lib.hid (B0.out.below hb)
      replace HB := Lib.hid (bC HB.out hb)
      clear hb
      clear HQ
      rw [HDa.out]
      have B0c0 := B0.out.cell 0
      have B0c1 := B0.out.cell 1
      simp at B0c0 B0c1
      go_wp2_with fail
      clear B0c0 B0c1
      have hPB := Piece_any (.agg #[.int .i64 r.len, .slice sa r.fs.length cap]) r m L _ HV.out (by omega) hmL2 hL100 HFS.out
      rw [← HLL.out] at hPB
      refine hPB.mono ?_
      clear hPB
      rintro e v5 ⟨vq, rfl, hw, hb⟩
      replace HV := Lib.hid (HV.out.below hb)
      replace HK := Lib.hid (HK.out.below hb)
      replace HBV := Lib.hid (HBV.out.below hb)
      replace HY := Lib.hid (HY.out.below hb)
      replace B0 := Lib.hid (B0.out.below hb)
      replace HB := Lib.hid (bC HB.out hb)
      clear hb
      have HQ := Lib.hid hw
      clear hw
      have B0c0 := B0.out.cell 0
      have B0c1 := B0.out.cell 1
      simp at B0c0 B0c1
      go_wp2_with fail
      clear B0c0 B0c1
      refine (best_any vq (.slice ka ks.length kcap) (piece r m r.len) ks _ HQ.out HK.out HO2.out HR.out.2).mono ?_
      rintro e v6 ⟨vd, rfl, -, hb⟩
      replace HV := Lib.hid (HV.out.below hb)
      replace HK := Lib.hid (HK.out.below hb)
      replace HBV := Lib.hid (HBV.out.below hb)
      replace HY := Lib.hid (HY.out.below hb)
      replace HQ := Lib.hid (HQ.out.below hb)
      replace B0 := Lib.hid (B0.out.below hb)
      replace HB := Lib.hid (bC HB.out hb)
      clear hb
      clear HQ
      rw [HDb.out]
      have B0c0 := B0.out.cell 0
      have B0c1 := B0.out.cell 1
      simp at B0c0 B0c1
      go_wp2_with fail
      clear B0c0 B0c1
      refine (count_any (.agg #[.int .i64 r.len, .slice sa r.fs.length cap]) (.slice ka ks.length kcap) r ks _ HV.out HK.out HR.out.1 HR.out.2).mono ?_
      rintro e v7 ⟨rfl, hb⟩
      replace HV := Lib.hid (HV.out.below hb)
      replace HK := Lib.hid (HK.out.below hb)
      replace HBV := Lib.hid (HBV.out.below hb)
      replace HY := Lib.hid (HY.out.below hb)
      replace B0 := Lib.hid (B0.out.below hb)
      replace HB := Lib.hid (bC HB.out hb)
      clear hb
      rw [HN.out]
      have B0c0 := B0.out.cell 0
      have B0c1 := B0.out.cell 1
      simp at B0c0 B0c1
      go_wp2_with fail
      clear B0c0 B0c1
      refine (Piece_any (.agg #[.int .i64 r.len, .slice sa r.fs.length cap]) r 0 m _ HV.out (by omega) (Nat.zero_le _) (by omega) HFS.out).mono ?_
      rintro e v8 ⟨vq, rfl, hw, hb⟩
      replace HV := Lib.hid (HV.out.below hb)
      replace HK := Lib.hid (HK.out.below hb)
      replace HBV := Lib.hid (HBV.out.below hb)
      replace HY := Lib.hid (HY.out.below hb)
      replace B0 := Lib.hid (B0.out.below hb)
      replace HB := Lib.hid (bC HB.out hb)
      clear hb
      have HQ := Lib.hid hw
      clear hw
      have B0c0 := B0.out.cell 0
      have B0c1 := B0.out.cell 1
      simp at B0c0 B0c1
      go_wp2_with fail
      clear B0c0 B0c1
      refine (count_any vq (.slice ka ks.length kcap) (piece r 0 m) ks _ HQ.out HK.out HO1.out HR.out.2).mono ?_
      rintro e v9 ⟨rfl, hb⟩
      replace HV := Lib.hid (HV.out.below hb)
      replace HK := Lib.hid (HK.out.below hb)
      replace HBV := Lib.hid (HBV.out.below hb)
      replace HY := Lib.hid (HY.out.below hb)
      replace HQ := Lib.hid (HQ.out.below hb)
      replace B0 := Lib.hid (B0.out.below hb)
      replace HB := Lib.hid (bC HB.out hb)
      clear hb
      clear HQ
      rw [HNa.out]
      have B0c0 := B0.out.cell 0
      have B0c1 := B0.out.cell 1
      simp at B0c0 B0c1
      go_wp2_with fail
      clear B0c0 B0c1
      have hPB := Piece_any (.agg #[.int .i64 r.len, .slice sa r.fs.length cap]) r m L _ HV.out (by omega) hmL2 hL100 HFS.out
      rw [← HLL.out] at hPB
      refine hPB.mono ?_
      clear hPB
      rintro e v10 ⟨vq, rfl, hw, hb⟩
      replace HV := Lib.hid (HV.out.below hb)
      replace HK := Lib.hid (HK.out.below hb)
      replace HBV := Lib.hid (HBV.out.below hb)
      replace HY := Lib.hid (HY.out.below hb)
      replace B0 := Lib.hid (B0.out.below hb)
      replace HB := Lib.hid (bC HB.out hb)
      clear hb
      have HQ := Lib.hid hw
      clear hw
      have B0c0 := B0.out.cell 0
      have B0c1 := B0.out.cell 1
      simp at B0c0 B0c1
      go_wp2_with fail
      clear B0c0 B0c1
      refine (count_any vq (.slice ka ks.length kcap) (piece r m r.len) ks _ HQ.out HK.out HO2.out HR.out.2).mono ?_
      rintro e v11 ⟨rfl, hb⟩
      replace HV := Lib.hid (HV.out.below hb)
      replace HK := Lib.hid (HK.out.below hb)
      replace HBV := Lib.hid (HBV.out.below hb)
      replace HY := Lib.hid (HY.out.below hb)
      replace HQ := Lib.hid (HQ.out.below hb)
      replace B0 := Lib.hid (B0.out.below hb)
      replace HB := Lib.hid (bC HB.out hb)
      clear hb
      clear HQ
      rw [HNb.out]
      have B0c0 := B0.out.cell 0
      have B0c1 := B0.out.cell 1
      simp at B0c0 B0c1
      go_wp2_with fail
      clear B0c0 B0c1
      refine (Parted_ok (.agg #[.int .i64 r.len, .slice sa r.fs.length cap]) (.slice ka ks.length kcap) r ks (m : Int) _ HV.out HK.out HR.out.1 HR.out.2).mono ?_
      rintro e v12 ⟨rfl, hb⟩
      replace HV := Lib.hid (HV.out.below hb)
      replace HK := Lib.hid (HK.out.below hb)
      replace HBV := Lib.hid (HBV.out.below hb)
      replace HY := Lib.hid (HY.out.below hb)
      replace B0 := Lib.hid (B0.out.below hb)
      replace HB := Lib.hid (bC HB.out hb)
      clear hb
      rw [HP3.out, HP4.out]
      have B0c0 := B0.out.cell 0
      have B0c1 := B0.out.cell 1
      simp at B0c0 B0c1
      go_wp2_with fail
      clear B0c0 B0c1
      refine (Given_any (.agg #[.int .i64 r.len, .slice sa r.fs.length cap]) (.slice ka ks.length kcap) (.slice ba l.length bcap) r ks l _ HV.out HK.out HBV.out HL8.out hl60 HR.out.1 HR.out.2).mono ?_
      rintro e v13 ⟨vg, rfl, hp, hb⟩
      replace HV := Lib.hid (HV.out.below hb)
      replace HK := Lib.hid (HK.out.below hb)
      replace HBV := Lib.hid (HBV.out.below hb)
      replace HY := Lib.hid (HY.out.below hb)
      replace B0 := Lib.hid (B0.out.below hb)
      replace HB := Lib.hid (bC HB.out hb)
      clear hb
      rw [HGL.out] at hp
      obtain ⟨ga, gc, rfl⟩ := hp.slice
      have HGV := Lib.hid hp
      clear hp
      have B0c0 := B0.out.cell 0
      have B0c1 := B0.out.cell 1
      simp at B0c0 B0c1
      go_wp2_with fail
      clear B0c0 B0c1
      refine (CheckCuts_ok (.agg #[.int .i64 r.len, .slice sa r.fs.length cap]) (.slice ka ks.length kcap) r ks _ gl _ HV.out HK.out HGV.out G4 HR.out.1 HR.out.2).mono ?_
      rintro e v14 ⟨rfl, hb⟩
      replace HV := Lib.hid (HV.out.below hb)
      replace HK := Lib.hid (HK.out.below hb)
      replace HBV := Lib.hid (HBV.out.below hb)
      replace HY := Lib.hid (HY.out.below hb)
      replace HGV := Lib.hid (HGV.out.below hb)
      replace B0 := Lib.hid (B0.out.below hb)
      replace HB := Lib.hid (bC HB.out hb)
      clear hb
      rw [HG1.out, HG2.out]
      have B0c0 := B0.out.cell 0
      have B0c1 := B0.out.cell 1
      simp at B0c0 B0c1
      go_wp2_with fail
      clear B0c0 B0c1
      refine (parts_any (.slice ka ks.length kcap) _ ks C m _ HK.out (by rw [HcC.out]; exact HY.out) HR.out.2 HMC.out HLc.out).mono ?_
      rintro e v15 ⟨rfl, hb⟩
      replace HV := Lib.hid (HV.out.below hb)
      replace HK := Lib.hid (HK.out.below hb)
      replace HBV := Lib.hid (HBV.out.below hb)
      replace HY := Lib.hid (HY.out.below hb)
      replace HGV := Lib.hid (HGV.out.below hb)
      replace B0 := Lib.hid (B0.out.below hb)
      replace HB := Lib.hid (bC HB.out hb)
      clear hb
      rw [HOW.out]
      have B0c0 := B0.out.cell 0
      have B0c1 := B0.out.cell 1
      simp at B0c0 B0c1
      go_wp2_with fail
      clear B0c0 B0c1
      refine (parts_any (.slice ka ks.length kcap) _ ks G m _ HK.out (by rw [HgG.out]; exact HGV.out) HR.out.2 HMG.out HLg.out).mono ?_
      rintro e v16 ⟨rfl, hb⟩
      replace HV := Lib.hid (HV.out.below hb)
      replace HK := Lib.hid (HK.out.below hb)
      replace HBV := Lib.hid (HBV.out.below hb)
      replace HY := Lib.hid (HY.out.below hb)
      replace HGV := Lib.hid (HGV.out.below hb)
      replace B0 := Lib.hid (B0.out.below hb)
      replace HB := Lib.hid (bC HB.out hb)
      clear hb
      obtain ⟨gb, hgb⟩ : ∃ b, partsN ks G m = b := ⟨_, rfl⟩
      rw [hgb]
      clear hgb
      have B0c0 := B0.out.cell 0
      have B0c1 := B0.out.cell 1
      simp at B0c0 B0c1
      go_wp2_with fail
      clear B0c0 B0c1
      refine (Works_any _).mono ?_
      rintro e v17 ⟨rfl, hb⟩
      replace HV := Lib.hid (HV.out.below hb)
      replace HK := Lib.hid (HK.out.below hb)
      replace HBV := Lib.hid (HBV.out.below hb)
      replace HY := Lib.hid (HY.out.below hb)
      replace HGV := Lib.hid (HGV.out.below hb)
      replace B0 := Lib.hid (B0.out.below hb)
      replace HB := Lib.hid (bC HB.out hb)
      clear hb
      go_wp2
      go_ret
      exact ⟨rfl, HB.out⟩
end Go.Proofs.Ytnkeikhkafbokaa
