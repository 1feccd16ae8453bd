import Derived.Test.YtnkeikhkafbokaaQg
import Derived.Test.YtnkeikhkafbokaaQb
namespace Go.Proofs.Ytnkeikhkafbokaa
open Go.RowKit Go.Dag Go.Sort

/-! ## The reference: what unit prices prove -/
section
variable {r : RibD} {ks : List KindD} {l : List Int}
theorem price_tup {c : Int} (h : pricesErr r ks l = c) (hc : c ≠ 0) : Ending.returned (.tuple #[.int .i64 0, .int .i64 c]) = .returned (.tuple #[.int .i64 (pricesV r ks l), .int .i64 (pricesErr r ks l)]) := by
  rw [pricesV, h, if_neg hc]
theorem price_tup0 {c : Int} (h : pricesErr r ks l = 0) (hc : psum (priceF l) 0 l.length = c) : Ending.returned (.tuple #[.int .i64 c, .int .i64 0]) = .returned (.tuple #[.int .i64 (pricesV r ks l), .int .i64 (pricesErr r ks l)]) := by
  rw [pricesV, h, if_pos rfl, hc]
theorem pricesErr_b (h : bothErr r ks ≠ 0) : pricesErr r ks l = bothErr r ks := by unfold pricesErr; rw [if_pos h]
theorem pricesErr_n (h : bothErr r ks = 0) : pricesErr r ks l = pricesErr0 r ks l := by unfold pricesErr; rw [if_neg (by simpa using h)]
theorem pricesErr_15 (h : bothErr r ks = 0) (h1 : (l.length : Int) ≠ r.len) : pricesErr r ks l = 15 := by rw [pricesErr_n h, pricesErr0, if_pos h1]
theorem pricesErr_3 (h : bothErr r ks = 0) (h1 : (l.length : Int) = r.len) (h2 : okPrices l = false) : pricesErr r ks l = 3 := by rw [pricesErr_n h, pricesErr0, if_neg (by simpa using h1), if_pos h2]
theorem pricesErr_14 (h : bothErr r ks = 0) (h1 : (l.length : Int) = r.len) (h2 : okPrices l = true) (h3 : covB (tabOf r ks) l = false) : pricesErr r ks l = 14 := by
  rw [pricesErr_n h, pricesErr0, if_neg (by simpa using h1), if_neg (by rw [h2]; simp), if_pos h3]
theorem pricesErr_00 (h : bothErr r ks = 0) (h1 : (l.length : Int) = r.len) (h2 : okPrices l = true) (h3 : covB (tabOf r ks) l = true) : pricesErr r ks l = 0 := by
  rw [pricesErr_n h, pricesErr0, if_neg (by simpa using h1), if_neg (by rw [h2]; simp), if_neg (by rw [h3]; simp)]
theorem priceF_get {k : Nat} (hk : k < l.length) : priceF l k = l[k] := by
  unfold priceF
  rw [List.getD_eq_getElem?_getD, List.getElem?_eq_getElem hk]
  rfl
theorem okPrices_false {k : Nat} (h : k < l.length) (hx : ¬ (0 ≤ l[k] ∧ l[k] ≤ 24000)) : okPrices l = false := by
  refine all_false h ?_
  rw [Bool.and_eq_false_iff]
  simp only [decide_eq_false_iff_not]
  omega
theorem okPrices_snoc {k : Nat} (h : k < l.length) (ht : okPrices (l.take k) = true) (h1 : 0 ≤ l[k]) (h2 : l[k] ≤ 24000) : okPrices (l.take (k + 1)) = true :=
  all_snoc h ht (by simp [h1, h2])
theorem cov_false {t : Tab} (hok : t.Ok) {a i : Nat} (hi : i < t.K) (hc : t.can a i = true) (h : psum (priceF l) a (t.W i) < t.P i) : covB t l = false := by
  cases e : covB t l with
  | false => rfl
  | true => have := (covB_iff hok l).1 e a i hi hc; omega
theorem psum_bd (h : okPrices l = true) (a : Nat) : ∀ n, 0 ≤ psum (priceF l) a n ∧ psum (priceF l) a n ≤ 24000 * n
  | 0 => by simp [psum, isum]
  | n + 1 => by
    have := psum_bd h a n
    have := okPrices_get h (a + n)
    rw [psum_succ]
    omega
theorem psum_pre {k : Nat} (h : okPrices (l.take k) = true) : 0 ≤ psum (priceF l) 0 k ∧ psum (priceF l) 0 k ≤ 24000 * k := by
  have h1 := psum_bd h 0 k
  have e : psum (priceF (l.take k)) 0 k = psum (priceF l) 0 k := by
    unfold psum
    refine isum_same fun u hu => ?_
    have hu' := List.mem_range.1 hu
    unfold priceF
    rw [List.getD_eq_getElem?_getD, List.getD_eq_getElem?_getD, List.getElem?_take, if_pos (by omega)]
  rwa [e] at h1
end

set_option maxRecDepth 100000 in
set_option maxHeartbeats 4000000 in
theorem rCheckPrices_err (v kv : Value) (r : RibD) (ks : List KindD) (cv : Value) (l : List Int) (w : World) (hv : RibAt w v r) (hk : KindsAt w kv ks) (hcv : IntsAt w cv l) (he : bothErr r ks ≠ 0) (hl : r.fs.length ≤ 1000) (hl2 : ks.length ≤ 1000) :
    Calls Try.prog 32 #[v, kv, cv] w fun e w' => e = .returned (.tuple #[.int .i64 (pricesV r ks l), .int .i64 (pricesErr r ks l)]) ∧ Below w.heap.size w w' := by
  obtain ⟨sv, rfl, hi⟩ := hv
  obtain ⟨sa, cap, rfl⟩ := hi.slice
  obtain ⟨ka, kcap, rfl⟩ := hk.slice
  have hB0 := below1 w (.cells #[.int .i64 r.len, .slice sa r.fs.length cap] 24)
  have b0 := Blk.new w (.cells #[.int .i64 r.len, .slice sa r.fs.length cap] 24)
  have HI := Lib.hid (hi.below hB0)
  have HK := Lib.hid (hk.below hB0)
  obtain ⟨ca, ccap, rfl⟩ := hcv.slice
  clear hcv
  have HT := Lib.hid (price_tup (pricesErr_b (l := l) he) he)
  clear hi hk
  go_enter Try.func32, Try.ntmps32
  go_wp2_with fail
  generalize w.alloc (.cells #[.int .i64 r.len, .slice sa r.fs.length cap] 24) = W0 at *
  have HE : (bothErr r ks != 0) = true := by simp [he]
  clear he
  refine (rboth_any _ _ r ks _ ⟨_, rfl, HI.out⟩ HK.out hl hl2).mono ?_
  rintro e w1 ⟨rfl, hb1⟩
  have b1 := b0.below hb1
  have c0 := b1.cell 0
  have c1 := b1.cell 1
  simp at c0 c1
  have hB1 := bC hB0 hb1
  have HI1 := Lib.hid (HI.out.below hb1)
  have HK1 := Lib.hid (HK.out.below hb1)
  go_wp2_with fail
  refine (rboth_any _ _ r ks _ ⟨_, rfl, HI1.out⟩ HK1.out hl hl2).mono ?_
  rintro e w2 ⟨rfl, hb2⟩
  go_wp2
  go_ret2
  exact ⟨HT.out, bC hB1 hb2⟩

set_option maxRecDepth 100000 in
set_option maxHeartbeats 4000000 in
theorem rCheckPrices_ok (v kv : Value) (r : RibD) (ks : List KindD) (cv : Value) (l : List Int) (w : World) (hv : RibAt w v r) (hk : KindsAt w kv ks) (hcv : IntsAt w cv l) (hg : l.length ≤ 1000) (hr : RibOk r) (hks : KindsOk ks) :
    Calls Try.prog 32 #[v, kv, cv] w fun e w' => e = .returned (.tuple #[.int .i64 (pricesV r ks l), .int .i64 (pricesErr r ks l)]) ∧ Below w.heap.size w w' := by
  obtain ⟨sv, rfl, hi⟩ := hv
  obtain ⟨sa, cap, rfl⟩ := hi.slice
  obtain ⟨ka, kcap, rfl⟩ := hk.slice
  have hB0 := below1 w (.cells #[.int .i64 r.len, .slice sa r.fs.length cap] 24)
  have b0 := Blk.new w (.cells #[.int .i64 r.len, .slice sa r.fs.length cap] 24)
  have HI := Lib.hid (hi.below hB0)
  have HK := Lib.hid (hk.below hB0)
  obtain ⟨ca, ccap, rfl⟩ := hcv.slice
  have HC := Lib.hid (fun k (hk : k < l.length) => (hcv.below hB0).at.2 k hk)
  have HBE := Lib.hid (bothErr_of hr hks)
  have hl1 := hr.l1
  have hl2 := hr.l2
  have HOK := Lib.hid (tabOf_ok (r := r) (ks := ks) (by omega) hks)
  clear hcv
  clear hi hk
  go_enter Try.func32, Try.ntmps32
  go_wp2_with fail
  generalize w.alloc (.cells #[.int .i64 r.len, .slice sa r.fs.length cap] 24) = W0 at *
  have HRK := Lib.hid (And.intro hr hks)
  have hc24 := hr.count
  have hk6 := hks.1
  clear hr hks
  refine (rboth_ok _ _ r ks _ ⟨_, rfl, HI.out⟩ HK.out HRK.out.1 HRK.out.2).mono ?_
  rintro e w1 ⟨rfl, hb1⟩
  have b1 := b0.below hb1
  have c0 := b1.cell 0
  have c1 := b1.cell 1
  simp at c0 c1
  have HB01 := Lib.hid hb1
  have hB1 := bC hB0 hb1
  have HI1 := Lib.hid (HI.out.below hb1)
  have HK1 := Lib.hid (HK.out.below hb1)
  clear hb1
  clear c0 c1
  have c0 := b1.cell 0
  simp at c0
  by_cases q1 : (l.length : Int) = r.len
  case neg =>
    have e1 : ((l.length : Int) != r.len) = true := by simpa using q1
    have HT := Lib.hid (price_tup (pricesErr_15 HBE.out q1) (by decide))
    clear q1
    go_wp2
    go_ret2
    exact ⟨HT.out, hB1⟩
  have e1 : ((l.length : Int) != r.len) = false := by simpa using q1
  have HQ := Lib.hid q1
  have hln : l.length ≤ 24 := by omega
  clear q1
  go_wp2
  clear e1 c0
  -- each number
  go_loop [8, 9] (fun sa s => ∃ k : Nat, k ≤ l.length ∧ s = .int .i64 k ∧ sa = .int .i64 (psum (priceF l) 0 k) ∧ okPrices (l.take k) = true) (fun _ s => l.length - (intOf s).toNat)
  case atStart => exact ⟨0, Nat.zero_le _, rfl, rfl, rfl⟩
  case round =>
    obtain ⟨k, hk, rfl, rfl, hok⟩ := hrel
    have hsm := psum_pre hok
    have HO := Lib.hid hok
    clear hok
    by_cases hlt : k < l.length
    · obtain ⟨cb, coff, rfl, x1⟩ := HC.out k hlt
      have x1 := cellB x1 HB01.out
      have HSS := Lib.hid (show psum (priceF l) 0 (k + 1) = psum (priceF l) 0 k + l[k] by rw [psum_succ, Nat.zero_add, priceF_get hlt])
      have bad := Lib.hid (fun h => price_tup (pricesErr_3 HBE.out HQ.out (okPrices_false hlt h)) (by decide))
      by_cases p1 : l[k] < 0
      · have d1 : decide (l[k] < 0) = true := by simpa using p1
        have HT := Lib.hid (bad.out (by omega))
        go_wp2
        go_ret2
        exact ⟨HT.out, hB1⟩
      have d1 : decide (l[k] < 0) = false := by simpa using p1
      by_cases p2 : 24000 < l[k]
      · have d2 : decide (24000 < l[k]) = true := by simpa using p2
        have HT := Lib.hid (bad.out (by omega))
        go_wp2
        go_ret2
        exact ⟨HT.out, hB1⟩
      have d2 : decide (24000 < l[k]) = false := by simpa using p2
      have HY := Lib.hid (okPrices_snoc hlt HO.out (by omega) (by omega))
      have ww1 : IntKind.i64.wrap (psum (priceF l) 0 k + l[k]) = psum (priceF l) 0 k + l[k] := IntWalk.i64_in _ (by omega)
      clear p1 p2
      go_wp2
      clear ww1 d1 d2
      go_round
      case rel => exact ⟨k + 1, by omega, by go_num, by rw [HSS.out], HY.out⟩
      case measure => simp [intOf]; omega
    · obtain rfl : k = l.length := by omega
      have hall := HO.out
      rw [List.take_length] at hall
      have HN := Lib.hid hall
      obtain ⟨sumv, hsv⟩ : ∃ sumv, psum (priceF l) 0 l.length = sumv := ⟨_, rfl⟩
      have HSV := Lib.hid hsv
      rw [hsv] at hsm ⊢
      clear hall HO hsv
      go_wp2
      go_loopw [10] (fun s wr => ∃ a : Nat, a ≤ l.length ∧ s = .int .i64 a ∧ (∀ a' i, a' < a → i < ks.length → (tabOf r ks).can a' i = true → (tabOf r ks).P i ≤ psum (priceF l) a' ((tabOf r ks).W i)) ∧ Below W0.heap.size W0 wr) (fun s _ => l.length - (intOf s).toNat)
      case atStart => exact ⟨0, Nat.zero_le _, rfl, fun a' i h => absurd h (Nat.not_lt_zero _), HB01.out⟩
      case round =>
        obtain ⟨a, ha, rfl, hcov, hB⟩ := hrel
        have HCV := Lib.hid hcov
        have HBW := Lib.hid hB
        have c0 := (b0.below hB).cell 0
        simp at c0
        rw [← HQ.out] at c0
        clear hcov hB
        by_cases hlt : a < l.length
        · go_wp2_with fail
          clear c0
          go_loopw [11] (fun s wr => ∃ i : Nat, i ≤ ks.length ∧ s = .int .i64 i ∧ (∀ i', i' < i → (tabOf r ks).can a i' = true → (tabOf r ks).P i' ≤ psum (priceF l) a ((tabOf r ks).W i')) ∧ Below W0.heap.size W0 wr) (fun s _ => ks.length - (intOf s).toNat)
          case atStart => exact ⟨0, Nat.zero_le _, rfl, fun i' h => absurd h (Nat.not_lt_zero _), HBW.out⟩
          case round =>
            clear HBW
            obtain ⟨i, hi, rfl, hcov, hB⟩ := hrel
            have HCI := Lib.hid hcov
            have HBW := Lib.hid hB
            have hbb := b0.below hB
            have c0 := hbb.cell 0
            have c1 := hbb.cell 1
            simp at c0 c1
            clear hcov hB hbb
            by_cases hlt2 : i < ks.length
            · have hkd := kd_get hlt2
              have hko := kd_ok HRK.out.2 hlt2
              rw [hkd] at hko
              obtain ⟨Wn, hWn⟩ : ∃ Wn : Nat, ks[i].w = (Wn : Int) := ⟨ks[i].w.toNat, by have := hko.w1; omega⟩
              have hW1 : 1 ≤ Wn := by have := hko.w1; omega
              have hW24 : Wn ≤ 24 := by have := hko.w2; omega
              have hp1 := hko.p1
              have hp2 := hko.p2
              obtain ⟨kb, koff, hka, cw, cp, cm⟩ := HK.out.get i hlt2
              rw [hWn] at cw
              subst hka
              have kw := cellB cw HBW.out
              have kp := cellB cp HBW.out
              have km := cellB cm HBW.out
              have HWt := Lib.hid (show (tabOf r ks).W i = Wn by simp only [tabOf]; rw [hkd, hWn]; rfl)
              have HPt := Lib.hid (show (tabOf r ks).P i = ks[i].p by simp only [tabOf]; rw [hkd])
              have HCt := Lib.hid (show (tabOf r ks).can a i = canB r ks[i] a by simp only [tabOf]; rw [hkd])
              have HWN := Lib.hid hWn
              clear hWn hkd cm
              have g_0 := fun d os => cell_regrown c0 d os
              have g_1 := fun d os => cell_regrown c1 d os
              have g_2 := fun d os => cell_regrown kw d os
              have g_3 := fun d os => cell_regrown kp d os
              have g_4 := fun d os => cell_regrown km d os
              have hcG : ∀ (d : Nat) (os : Array Obj), _ := fun d os => Calls.regrown_of (rCan_any (.agg #[.int .i64 r.len, .slice sa r.fs.length cap]) r ks[i] a (grow (redrawn wr d) os) ⟨_, rfl, (HI.out.below (HBW.out)).below (below_regrown wr d os)⟩ (by omega) (by omega) (by omega) (by have := HWN.out; omega) (by have := HWN.out; omega))
              unfold kV at hcG
              rw [HWN.out] at hcG
              have hcw := cw
              have hcp := cp
              clear cw cp
              by_cases hc : canB r ks[i] a = true
              · rw [hc] at hcG
                go_wp2_with fail
                refine wp_region_quiet_below (by kernel_rfl) (by kernel_rfl) ?_
                repeat (quiet_step ((go_at_call 60; exact hcG _ _)))
                refine wpQuiet_nil ?_
                intro _ hw'
                obtain ⟨⟨dq, osq⟩, hw''⟩ := hw'
                subst hw''
                have HB2 := Lib.hid (bC HBW.out (below_regrown wr dq osq))
                clear g_0 g_1 g_2 g_3 g_4 hcG c0 c1 kw kp km
                generalize grow (redrawn wr dq) osq = w3 at *
                have hfit : a + Wn ≤ l.length := by
                  have h1 := (canB_iff.1 hc).1
                  have h2 := HWN.out
                  have h3 := HQ.out
                  omega
                have kw := cellB hcw HB2.out
                have kp := cellB hcp HB2.out
                have ww1 : IntKind.i64.wrap ((a : Int) + (Wn : Int)) = (a : Int) + (Wn : Int) := IntWalk.i64_in _ (by omega)
                go_wp2_with fail
                go_loop [12, 13] (fun sm s => ∃ d : Nat, d ≤ Wn ∧ s = .int .i64 ((a + d : Nat) : Int) ∧ sm = .int .i64 (psum (priceF l) a d)) (fun _ s => a + Wn - (intOf s).toNat)
                case atStart => exact ⟨0, Nat.zero_le _, rfl, rfl⟩
                case round =>
                  obtain ⟨d, hd, rfl, rfl⟩ := hrel
                  have hsd := psum_bd HN.out a d
                  by_cases hlt3 : d < Wn
                  · have t1 : decide (((a + d : Nat) : Int) < (a : Int) + (Wn : Int)) = true := by simp; omega
                    have t2 : decide ((a : Int) + (d : Int) < (a : Int) + (Wn : Int)) = true := by simp; omega
                    obtain ⟨cb, coff, rfl, x1⟩ := HC.out (a + d) (by omega)
                    have x1 := cellB x1 HB2.out
                    have HSD := Lib.hid (show psum (priceF l) a (d + 1) = psum (priceF l) a d + l[a + d] by rw [psum_succ, priceF_get])
                    have hle := okPrices_get HN.out (a + d)
                    rw [priceF_get (show a + d < l.length by omega)] at hle
                    have ww3 : IntKind.i64.wrap (psum (priceF l) a d + l[a + d]) = psum (priceF l) a d + l[a + d] := IntWalk.i64_in _ (by omega)
                    go_wp2
                    go_round
                    case rel => exact ⟨d + 1, by omega, by go_num, by rw [HSD.out]⟩
                    case measure => simp [intOf]; omega
                  · obtain rfl : d = Wn := by omega
                    have t1 : decide (((a + d : Nat) : Int) < (a : Int) + (d : Int)) = false := by simp
                    have t2 : decide ((a : Int) + (d : Int) < (a : Int) + (d : Int)) = false := by simp
                    by_cases q3 : psum (priceF l) a d < ks[i].p
                    · have e3 : decide (psum (priceF l) a d < ks[i].p) = true := by simpa using q3
                      have HT := Lib.hid (price_tup (pricesErr_14 HBE.out HQ.out HN.out (cov_false HOK.out (a := a) (i := i) hlt2 (HCt.out.trans hc) (by rw [HWt.out, HPt.out]; exact q3))) (by decide))
                      clear q3
                      go_wp2
                      go_ret2
                      exact ⟨HT.out, bC hB0 HB2.out⟩
                    · have e3 : decide (psum (priceF l) a d < ks[i].p) = false := by simpa using q3
                      have HQ3 := Lib.hid (show ks[i].p ≤ psum (priceF l) a d by omega)
                      clear q3
                      go_wp2
                      clear e3 t1 t2 ww1
                      rename_i wr8
                      go_roundw
                      case rel =>
                        refine ⟨i + 1, by omega, by go_num, fun i' hi' hc' => ?_, HB2.out⟩
                        by_cases e : i' = i
                        · subst e
                          rw [HWt.out, HPt.out]
                          exact HQ3.out
                        · exact HCI.out i' (by omega) hc'
                      case measure => simp [intOf]; omega
              · rw [Bool.not_eq_true] at hc
                rw [hc] at hcG
                go_wp2_with fail
                refine wp_region_quiet_below (by kernel_rfl) (by kernel_rfl) ?_
                repeat (quiet_step ((go_at_call 60; exact hcG _ _)))
                refine wpQuiet_nil ?_
                intro _ hw'
                obtain ⟨⟨dq, osq⟩, hw''⟩ := hw'
                subst hw''
                have HB2 := Lib.hid (bC HBW.out (below_regrown wr dq osq))
                clear g_0 g_1 g_2 g_3 g_4 hcG c0 c1 kw kp km
                generalize grow (redrawn wr dq) osq = w3 at *
                go_wp2
                rename_i wr8
                go_roundw
                case rel =>
                  refine ⟨i + 1, by omega, by go_num, fun i' hi' hc' => ?_, HB2.out⟩
                  by_cases e : i' = i
                  · subst e
                    rw [HCt.out, hc] at hc'
                    cases hc'
                  · exact HCI.out i' (by omega) hc'
                case measure => simp [intOf]; omega
            · obtain rfl : i = ks.length := by omega
              go_wp2
              clear c0 c1
              rename_i wr8
              go_roundw
              case rel =>
                refine ⟨a + 1, by omega, by go_num, fun a' i' ha' hi' hc' => ?_, HBW.out⟩
                by_cases e : a' = a
                · subst e
                  exact HCI.out i' hi' hc'
                · exact HCV.out a' i' (by omega) hi' hc'
              case measure => simp [intOf]; omega
        · obtain rfl : a = l.length := by omega
          have HT := Lib.hid (price_tup0 (pricesErr_00 HBE.out HQ.out HN.out ((covB_iff HOK.out l).2 fun a' i' hi' hc' => HCV.out a' i' (by
            have h1 := HOK.out.fit a' i' hi' hc'
            have h2 := HOK.out.w i' hi'
            have h3 := HQ.out
            simp only [tabOf] at h1 h2
            omega) hi' hc')) HSV.out)
          go_wp2
          go_ret2
          exact ⟨HT.out, bC hB0 HBW.out⟩
end Go.Proofs.Ytnkeikhkafbokaa
