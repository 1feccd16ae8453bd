import Derived.Test.YtlhldkiggmlegaaDoorPi
namespace Go.Proofs.YtlhldkiggmlegaaDoor
open Go.RowKit Go.Shelf Go.Sort
attribute [local go_sem] Oper.semAt_some

/-! ## The reference: Heights -/
set_option maxRecDepth 1000000 in
set_option maxHeartbeats 40000000 in
theorem rHeights_any (v : Value) (l : LogD) (core x : Int) (w : World) (hv : LogAt w v l) (hs : l.small) :
    Calls Tryd.prog 35 #[v, .int .i64 core, .int .i64 x] w fun e w' => e = .returned (he l core x) ∧ Below w.heap.size w w' := by
  obtain ⟨va, ve, rfl, h1, h2⟩ := hv
  obtain ⟨a, cap, rfl⟩ := h1.slice
  obtain ⟨a', cap', rfl⟩ := h2.slice
  have HV : Hid (LogAt w (.agg #[.slice a l.at_.length cap, .slice a' l.edges.length cap']) l) := Lib.hid ⟨_, _, rfl, h1, h2⟩
  have HS := Lib.hid hs
  have HIA := Lib.hid (IntsAt.at (w := w) (a := a) (n := l.at_.length) (cap := cap) h1).2
  have HPA := Lib.hid (PairsAt.at (w := w) (a := a') (n := l.edges.length) (cap := cap') h2).2
  clear h1 h2 hs
  have bl := ((Blk.new w (.cells #[.slice a l.at_.length cap, .slice a' l.edges.length cap'] 25)).alloc (.cells #[.int .i64 0, .int .i64 0] 31)).alloc (.cells #[.int .i64 0, .int .i64 0] 31)
  have br := (Blk.new (w.alloc (.cells #[.slice a l.at_.length cap, .slice a' l.edges.length cap'] 25)) (.cells #[.int .i64 0, .int .i64 0] 31)).alloc (.cells #[.int .i64 0, .int .i64 0] 31)
  have bs := Blk.new ((w.alloc (.cells #[.slice a l.at_.length cap, .slice a' l.edges.length cap'] 25)).alloc (.cells #[.int .i64 0, .int .i64 0] 31)) (.cells #[.int .i64 0, .int .i64 0] 31)
  have hB0 := below3 w (.cells #[.slice a l.at_.length cap, .slice a' l.edges.length cap'] 25) (.cells #[.int .i64 0, .int .i64 0] 31) (.cells #[.int .i64 0, .int .i64 0] 31)
  simp only [World.size_alloc] at br bs
  have HBL := Lib.hid bl
  have HBR := Lib.hid br
  have HBS := Lib.hid bs
  have HB0 := Lib.hid hB0
  clear bl br bs hB0
  have HC := Lib.hid (fun W (h : Below w.heap.size w W) => rCheckLog_any _ l W (HV.out.below h) HS.out)
  go_enter Tryd.func35, Tryd.ntmps35
  go_wp2_with fail
  refine (HC.out _ HB0.out).mono ?_
  rintro e w1 ⟨rfl, hb1⟩
  have HB1 := Lib.hid (bC HB0.out hb1)
  have L1 := Lib.hid (HBL.out.below hb1)
  have R1 := Lib.hid (HBR.out.below hb1)
  have S1 := Lib.hid (HBS.out.below hb1)
  clear hb1 HBL HBR HBS
  by_cases h0 : logErr l = 0
  · have ht : (logErr l != 0) = false := by simp [h0]
    have HF := Lib.hid (logErr_fit' h0)
    have H0 := Lib.hid h0
    clear h0
    have l0 := L1.out.cell 0
    have l1 := L1.out.cell 1
    have ll := L1.out.lt
    simp at l0 l1
    by_cases hr : -2000 ≤ core ∧ core ≤ 2000 ∧ 0 ≤ x ∧ x ≤ 100
    · obtain ⟨k1, k2, k3, k4⟩ := hr
      have HR := Lib.hid (show -2000 ≤ core ∧ core ≤ 2000 ∧ 0 ≤ x ∧ x ≤ 100 from ⟨k1, k2, k3, k4⟩)
      go_wp2_with fail
      refine (rBestOf_any _ l _ (HV.out.below HB1.out) HF.out).mono ?_
      rintro e w2 ⟨rfl, hb2⟩
      have HB2 := Lib.hid (bC HB1.out hb2)
      have L2 := Lib.hid (L1.out.below hb2)
      have R2 := Lib.hid (R1.out.below hb2)
      have S2 := Lib.hid (S1.out.below hb2)
      have HFB := Lib.hid (best_fine HF.out)
      clear hb2 l0 l1 ll
      obtain ⟨r, hr⟩ : ∃ r, bestV l = r := ⟨_, rfl⟩
      rw [hr] at HFB ⊢
      have HBV := Lib.hid hr
      clear hr
      unfold qv
      go_wp2_with fail
      refine (rby_r core 1 (mk_one core) _ (by omega) (by omega) (by omega) (by omega)).mono ?_
      rintro e w3 ⟨rfl, hb3⟩
      have HB3 := Lib.hid (bC HB2.out hb3)
      have L3 := Lib.hid (L2.out.below hb3)
      have R3 := Lib.hid (R2.out.below hb3)
      have S3 := Lib.hid (S2.out.below hb3)
      clear hb3
      by_cases hlt : r < (core : Rat)
      · have HLT := Lib.hid (HBV.out.symm ▸ hlt : bestV l < (core : Rat))
        have hd : decide (r < (core : Rat)) = true := decide_eq_true hlt
        have HD := Lib.hid hd
        clear hlt hd
        go_wp2_with fail
        refine (rless_r r (core : Rat) HD.out _ HFB.out (fine_int (by omega) (by omega))).mono ?_
        rintro e w4 ⟨rfl, hb4⟩
        have HB4 := Lib.hid (bC HB3.out hb4)
        have R4 := Lib.hid (R3.out.below hb4)
        have S4 := Lib.hid (S3.out.below hb4)
        clear hb4
        have r0 := R4.out.cell 0
        have r1 := R4.out.cell 1
        have r2 := S4.out.cell 0
        have r3 := S4.out.cell 1
        have f0 := R4.out.frozen 0
        have f1 := R4.out.frozen 1
        have f2 := S4.out.frozen 0
        have f3 := S4.out.frozen 1
        have lt1 := R4.out.lt
        have lt2 := S4.out.lt
        simp at r0 r1 r2 r3
        go_wp2
        refine bodyPost_ret (v := .tuple #[zq, zq, .int .i64 (17)]) (by simp [results, Tryd.results35, go_sem, r0, r1, r2, r3]) rfl ⟨by rw [he_none HF.out H0.out HR.out HLT.out], ?_⟩
        exact (((HB4.out.setCell (by simp <;> omega) _).setCell (by simp <;> omega) _).setCell (by simp <;> omega) _).setCell (by simp <;> omega) _
      · have HLT := Lib.hid (show ¬ bestV l < (core : Rat) by rw [HBV.out]; exact hlt)
        have hd : decide (r < (core : Rat)) = false := decide_eq_false hlt
        have HD := Lib.hid hd
        clear hlt hd
        go_wp2_with fail
        refine (rless_r r (core : Rat) HD.out _ HFB.out (fine_int (by omega) (by omega))).mono ?_
        rintro e w4 ⟨rfl, hb4⟩
        have HB4 := Lib.hid (bC HB3.out hb4)
        have L4 := Lib.hid (L3.out.below hb4)
        have R4 := Lib.hid (R3.out.below hb4)
        have S4 := Lib.hid (S3.out.below hb4)
        clear hb4
        have l0 := L4.out.cell 0
        have l1 := L4.out.cell 1
        have ll := L4.out.lt
        simp at l0 l1
        go_wp2_with fail
        have na := (Blk.new w4 (.cells #[.int .i64 0, .int .i64 0] 31)).alloc (.cells #[.int .i64 0, .int .i64 0] 31)
        have nb := Blk.new (w4.alloc (.cells #[.int .i64 0, .int .i64 0] 31)) (.cells #[.int .i64 0, .int .i64 0] 31)
        have hb5 := below2 w4 (.cells #[.int .i64 0, .int .i64 0] 31) (.cells #[.int .i64 0, .int .i64 0] 31)
        have hsz := HB4.out.size
        have hlt := S4.out.lt
        simp only [World.size_alloc] at nb
        generalize (w4.alloc (.cells #[.int .i64 0, .int .i64 0] 31)).alloc (.cells #[.int .i64 0, .int .i64 0] 31) = w5 at *
        have HB5 := Lib.hid (bC HB4.out hb5)
        have L5 := Lib.hid (L4.out.below hb5)
        have R5 := Lib.hid (R4.out.below hb5)
        have S5 := Lib.hid (S4.out.below hb5)
        have NA := Lib.hid na
        have NB := Lib.hid nb
        have HN1 := Lib.hid (show w.heap.size + 2 < w4.heap.size by omega)
        clear hb5 na nb l0 l1 ll hsz hlt
        refine (rBounds_any _ l core x _ (HV.out.below HB5.out) H0.out ⟨HR.out.1, HR.out.2.1⟩ HR.out.2.2).mono ?_
        rintro e w6 ⟨v1, v2, rfl, ht1, ht2, hb6⟩
        obtain ⟨a1, c1, rfl⟩ := ht1.slice
        obtain ⟨a2, c2, rfl⟩ := ht2.slice
        obtain ⟨ls, hls⟩ : ∃ ls, leastB l core x l.at_.length = ls := ⟨_, rfl⟩
        obtain ⟨ms, hms⟩ : ∃ ms, mostB l core x l.at_.length = ms := ⟨_, rfl⟩
        have HOK := Lib.hid (least_ok HF.out ⟨HR.out.1, HR.out.2.1⟩ HR.out.2.2 (Nat.le_refl _))
        have HLE := Lib.hid (len_least l core x l.at_.length)
        rw [hls, hms] at HOK HLE
        rw [hls] at ht1 ⊢
        rw [hms] at ht2 ⊢
        have HLS := Lib.hid hls
        have HMS := Lib.hid hms
        clear hls hms
        have ST0 : Hid (HtS w #[.slice a l.at_.length cap, .slice a' l.edges.length cap'] w4.heap.size (w4.heap.size + 1) (.slice a1 ls.length c1) (.slice a2 ms.length c2) ls ms w6 none none) := Lib.hid ⟨L5.out.below hb6, R5.out.below hb6, S5.out.below hb6, NA.out.below hb6, NB.out.below hb6, ht1, ht2, bC HB5.out hb6, FineO.none, FineO.none, HN1.out, Nat.lt_succ_self _⟩
        have HB6 := Lib.hid (bC HB5.out hb6)
        have HN8 := Lib.hid HF.out.eight
        have HLEN := Lib.hid (HF.out.lens _ (List.mem_singleton.2 rfl))
        clear ht1 ht2 hb6 HB0 HB1 HB2 HB3 HB4 HB5 L1 L2 L3 L4 L5 R1 R2 R3 R4 R5 S1 S2 S3 S4 S5 NA NB HN1 HC HFB HD HS
        obtain ⟨LO, hLO⟩ : ∃ LO, w4.heap.size = LO := ⟨_, rfl⟩
        rw [hLO] at ST0 ⊢
        obtain ⟨HI, hHI⟩ : ∃ HI, LO + 1 = HI := ⟨_, rfl⟩
        rw [hHI] at ST0 ⊢
        clear hLO hHI
        go_wp2_with fail
        go_loopw [13] (fun s13 wr => ∃ k : Nat, s13 = .int .i64 (k : Int) ∧ k ≤ l.at_.length ∧ HtS w #[.slice a l.at_.length cap, .slice a' l.edges.length cap'] LO HI (.slice a1 ls.length c1) (.slice a2 ms.length c2) ls ms wr (placeV l x (loC l core) k) (placeV l x (hiC l core) k)) (fun s13 _ => l.at_.length - (intOf s13).toNat)
        case atStart => exact ⟨0, rfl, Nat.zero_le _, ST0.out⟩
        case round =>
          clear ST0
          rename_i wr
          obtain ⟨k, rfl, hk, hst⟩ := hrel
          have ST := Lib.hid hst
          have m0 := hst.log.cell 0
          have m1 := hst.log.cell 1
          simp at m0 m1
          have ml := hst.log.lt
          have rk1 : IntKind.i64.wrap ((k : Int) + 1) = (k : Int) + 1 := IntWalk.i64_in _ (by have := HN8.out; omega)
          clear hst
          by_cases hlt : k < l.at_.length
          · have hle : k < l.edges.length := by have := HLEN.out; omega
            obtain ⟨b1, o1, rfl, hc1⟩ := HIA.out k hlt
            obtain ⟨b2, o2, rfl, hc2, hc3⟩ := HPA.out k hle
            rw [atD_eq hlt] at hc1
            rw [loD_eq hle] at hc2
            rw [hiD_eq hle] at hc3
            have hpt := log_pt HF.out hlt
            obtain ⟨A, hA⟩ : ∃ A, atD l k = A := ⟨_, rfl⟩
            obtain ⟨lo, hlo⟩ : ∃ lo, loD l k = lo := ⟨_, rfl⟩
            obtain ⟨hi, hhi⟩ : ∃ hi, hiD l k = hi := ⟨_, rfl⟩
            have HSL := Lib.hid (show placeV l x (loC l core) (k + 1) = if A = x then some ((lo + core : Int) : Rat) else placeV l x (loC l core) k by rw [placeV_snoc, hA, show loC l core k = lo + core by unfold loC; rw [hlo]])
            have HSH := Lib.hid (show placeV l x (hiC l core) (k + 1) = if A = x then some ((hi - core : Int) : Rat) else placeV l x (hiC l core) k by rw [placeV_snoc, hA, show hiC l core k = hi - core by unfold hiC; rw [hhi]])
            rw [hA] at hc1
            rw [hlo] at hc2
            rw [hhi] at hc3
            rw [hA, hlo, hhi] at hpt
            have d1 := cellB hc1 ST.out.bel
            have d2 := cellB hc2 ST.out.bel
            have d3 := cellB hc3 ST.out.bel
            have tk : decide ((k : Int) < (l.at_.length : Int)) = true := by simp; omega
            have HPT := Lib.hid hpt
            clear hA hlo hhi hc1 hc2 hc3 hpt
            by_cases he : A = x
            · have te : (A == x) = true := by simp [he]
              have HSL2 := HSL.out
              have HSH2 := HSH.out
              rw [if_pos he] at HSL2 HSH2
              replace HSL := Lib.hid HSL2
              replace HSH := Lib.hid HSH2
              clear HSL2 HSH2 he
              obtain ⟨B, hB⟩ : ∃ B, lo + core = B := ⟨_, rfl⟩
              obtain ⟨H, hH⟩ : ∃ H, hi - core = H := ⟨_, rfl⟩
              have hpt := HPT.out
              have y1 : IntKind.i64.wrap (lo + core) = B := by rw [hB]; exact IntWalk.i64_in _ (by omega)
              have y2 : IntKind.i64.wrap (hi - core) = H := by rw [hH]; exact IntWalk.i64_in _ (by omega)
              have HBB := Lib.hid (show -3000 ≤ B ∧ B ≤ 3000 by omega)
              have HHH := Lib.hid (show -3000 ≤ H ∧ H ≤ 3000 by omega)
              have HRB := Lib.hid hB
              have HRH := Lib.hid hH
              clear hpt hB hH
              go_wp2_with fail
              clear tk te
              have hcL := fun (dr : Nat) (os : Array Obj) => Calls.regrown_of (rby_r B 1 (mk_one B) (grow (redrawn wr dr) os) (by have := HBB.out; omega) (by have := HBB.out; omega) (by omega) (by omega))
              have hcH := fun (dr : Nat) (os : Array Obj) => Calls.regrown_of (rby_r H 1 (mk_one H) (grow (redrawn wr dr) os) (by have := HHH.out; omega) (by have := HHH.out; omega) (by omega) (by omega))
              have g0 := fun d os => cell_regrown m0 d os
              have g1 := fun d os => cell_regrown m1 d os
              have g3 := fun d os => cell_regrown d2 d os
              have g4 := fun d os => cell_regrown d3 d os
              clear m0 m1 ml d1 d2 d3
              refine wp_region_tail 18 (by kernel_rfl) (by kernel_rfl) ?_
              repeat (quiet_step (first | (go_at_call 51; (with_reducible exact hcL _ _)) | (go_at_call 51; (with_reducible exact hcH _ _))))
              refine wpQuiet_nil ?_
              intro _ hw'
              obtain ⟨⟨dq, osq⟩, hw''⟩ := hw'
              subst hw''
              simp only [List.drop_succ_cons, List.drop_zero]
              have hb := below_regrown wr dq osq
              clear g0 g1 g3 g4 hcL hcH y1 y2
              generalize grow (redrawn wr dq) osq = wq at *
              replace ST := Lib.hid (ST.out.below hb)
              clear hb
              have u0 := ST.out.lo.cell 0
              have u1 := ST.out.lo.cell 1
              have u2 := ST.out.hi.cell 0
              have u3 := ST.out.hi.cell 1
              have f0 := ST.out.lo.frozen 0
              have f1 := ST.out.lo.frozen 1
              have f2 := ST.out.hi.frozen 0
              have f3 := ST.out.hi.frozen 1
              have lt1 := ST.out.lo.lt
              have lt2 := ST.out.hi.lt
              have ne1 : (LO = HI) = False := by have := ST.out.n2; simp; omega
              have ne2 : (HI = LO) = False := by have := ST.out.n2; simp; omega
              simp at u0 u1 u2 u3
              go_wp2
              go_roundw
              case rel =>
                refine ⟨k + 1, by go_num, by omega, ?_⟩
                rw [HSL.out, HSH.out, HRB.out, HRH.out]
                exact (ST.out.setLo (fine_int (n := B) (by have := HBB.out; omega) (by have := HBB.out; omega))).setHi (fine_int (n := H) (by have := HHH.out; omega) (by have := HHH.out; omega))
              case measure => first | (simp [intOf]; done) | (simp [intOf]; omega)
            · have te : (A == x) = false := by simp [he]
              have HSL2 := HSL.out
              have HSH2 := HSH.out
              rw [if_neg he] at HSL2 HSH2
              replace HSL := Lib.hid HSL2
              replace HSH := Lib.hid HSH2
              clear HSL2 HSH2 he
              go_wp2
              go_roundw
              case rel =>
                refine ⟨k + 1, by go_num, by omega, ?_⟩
                rw [HSL.out, HSH.out]
                exact ST.out
              case measure => first | (simp [intOf]; done) | (simp [intOf]; omega)
          · obtain rfl : k = l.at_.length := by omega
            have tk : decide ((l.at_.length : Int) < (l.at_.length : Int)) = false := by simp
            obtain ⟨p0, hp0⟩ : ∃ p0, placeV l x (loC l core) l.at_.length = p0 := ⟨_, rfl⟩
            obtain ⟨q0, hq0⟩ : ∃ q0, placeV l x (hiC l core) l.at_.length = q0 := ⟨_, rfl⟩
            rw [hp0, hq0] at ST
            have HP0 := Lib.hid hp0
            have HQ0 := Lib.hid hq0
            clear hp0 hq0
            go_wp2_with fail
            clear tk m0 m1 ml rk1 hk hlt
            go_loopw [14] (fun s14 wr => ∃ i : Nat, s14 = .int .i64 (i : Int) ∧ i ≤ ls.length ∧ HtS w #[.slice a l.at_.length cap, .slice a' l.edges.length cap'] LO HI (.slice a1 ls.length c1) (.slice a2 ms.length c2) ls ms wr (bestBy oGt (cA p0 loCand ls ms i)) (bestBy oLt (cA q0 hiCand ls ms i))) (fun s14 _ => ls.length - (intOf s14).toNat)
            case atStart => exact ⟨0, rfl, Nat.zero_le _, by rw [cA_zero, cA_zero, bestBy_opt, bestBy_opt]; exact ST.out⟩
            case round =>
              clear ST
              obtain ⟨i, rfl, hi, hst⟩ := hrel
              have ST := Lib.hid hst
              have ri1 : IntKind.i64.wrap ((i : Int) + 1) = (i : Int) + 1 := IntWalk.i64_in _ (by have := HN8.out; have := HLE.out; omega)
              clear hst
              by_cases hil : i < ls.length
              · have tk : decide ((i : Int) < (ls.length : Int)) = true := by simp; omega
                go_wp2_with fail
                clear tk
                go_loopw [15] (fun s15 wr => ∃ k : Nat, s15 = .int .i64 (k : Int) ∧ k ≤ ms.length ∧ HtS w #[.slice a l.at_.length cap, .slice a' l.edges.length cap'] LO HI (.slice a1 ls.length c1) (.slice a2 ms.length c2) ls ms wr (bestBy oGt (cK p0 loCand ls ms i k)) (bestBy oLt (cK q0 hiCand ls ms i k))) (fun s15 _ => ms.length - (intOf s15).toNat)
                case atStart => exact ⟨0, rfl, Nat.zero_le _, by rw [cK_zero, cK_zero]; exact ST.out⟩
                case round =>
                  clear ST
                  obtain ⟨k, rfl, hk, hst⟩ := hrel
                  have rk1 : IntKind.i64.wrap ((k : Int) + 1) = (k : Int) + 1 := IntWalk.i64_in _ (by have := HN8.out; have := HLE.out; omega)
                  by_cases hkl : k < ms.length
                  · obtain ⟨p, hp⟩ : ∃ p, bestBy oGt (cK p0 loCand ls ms i k) = p := ⟨_, rfl⟩
                    obtain ⟨q, hq⟩ : ∃ q, bestBy oLt (cK q0 hiCand ls ms i k) = q := ⟨_, rfl⟩
                    have HEP := Lib.hid (hi_snoc oGt p0 loCand ls ms i hkl hp)
                    have HEQ := Lib.hid (hi_snoc oLt q0 hiCand ls ms i hkl hq)
                    rw [hp, hq] at hst
                    clear hp hq
                    have hb1 := bAt_ok HOK.out.1 hil
                    have hb2 := bAt_ok HOK.out.2 hkl
                    obtain ⟨⟨d, s, t⟩, hx1⟩ : ∃ b, bAt ls i = b := ⟨_, rfl⟩
                    obtain ⟨⟨d', s', t'⟩, hx2⟩ : ∃ b, bAt ms k = b := ⟨_, rfl⟩
                    rw [hx1, hx2] at HEP HEQ
                    rw [hx1] at hb1
                    rw [hx2] at hb2
                    obtain ⟨z1, z2, z3, z4⟩ := bok_mul hb1 hb2
                    obtain ⟨z5, z6, z7, z8⟩ := aI_bd hb1 hb2
                    obtain ⟨A, hA⟩ : ∃ A, aI (d, s, t) (d', s', t') = A := ⟨_, rfl⟩
                    obtain ⟨B, hB⟩ : ∃ B, bI (d, s, t) (d', s', t') = B := ⟨_, rfl⟩
                    have hA2 : t * d' - t' * d = A := hA
                    have hB2 : s' * d - s * d' = B := hB
                    have hhp := hiCand_pos (i := (d, s, t)) (k := (d', s', t'))
                    have hhn := hiCand_neg (i := (d, s, t)) (k := (d', s', t'))
                    have hlp := loCand_pos (i := (d, s, t)) (k := (d', s', t'))
                    have hln := loCand_neg (i := (d, s, t)) (k := (d', s', t'))
                    rw [hA, hB] at hhp hlp
                    rw [hA] at hhn hln
                    have HHP := Lib.hid hhp
                    have HHN := Lib.hid hhn
                    have HLP := Lib.hid hlp
                    have HLN := Lib.hid hln
                    rw [hA] at z5 z6
                    rw [hB] at z7 z8
                    have y1 : IntKind.i64.wrap (t * d') = t * d' := IntWalk.i64_in _ (by omega)
                    have y2 : IntKind.i64.wrap (t' * d) = t' * d := IntWalk.i64_in _ (by omega)
                    have y3 : IntKind.i64.wrap (t * d' - t' * d) = A := by rw [hA2]; exact IntWalk.i64_in _ (by omega)
                    have y4 : IntKind.i64.wrap (s' * d) = s' * d := IntWalk.i64_in _ (by omega)
                    have y5 : IntKind.i64.wrap (s * d') = s * d' := IntWalk.i64_in _ (by omega)
                    have y6 : IntKind.i64.wrap (s' * d - s * d') = B := by rw [hB2]; exact IntWalk.i64_in _ (by omega)
                    have y7 : IntKind.i64.wrap (-A) = -A := IntWalk.i64_in _ (by omega)
                    have y8 : IntKind.i64.wrap (-B) = -B := IntWalk.i64_in _ (by omega)
                    have HZ := Lib.hid (show -200 ≤ A ∧ A ≤ 200 ∧ -600000 ≤ B ∧ B ≤ 600000 from ⟨z5, z6, z7, z8⟩)
                    obtain ⟨g1, o1, rfl, hc1⟩ := hst.tl.at hil hx1
                    obtain ⟨g2, o2, rfl, hc2⟩ := hst.tm.at hkl hx2
                    have HC1 := Lib.hid hc1
                    have HC2 := Lib.hid hc2
                    have ST := Lib.hid hst
                    clear hx1 hx2 hb1 hb2 z1 z2 z3 z4 z5 z6 z7 z8 hA hB hA2 hB2 hc1 hc2 hst hhp hhn hlp hln
                    have tk : decide ((k : Int) < (ms.length : Int)) = true := by simp; omega
                    go_wp2_with fail
                    clear tk
                    have x0 := (HC1.out _ (Below.refl _ _)).1
                    have x1 := (HC1.out _ (Below.refl _ _)).2.2
                    have x2 := (HC2.out _ (Below.refl _ _)).1
                    have x3 := (HC2.out _ (Below.refl _ _)).2.2
                    have e1 := fun d os => cell_regrown x0 d os
                    have e2 := fun d os => cell_regrown x1 d os
                    have e3 := fun d os => cell_regrown x2 d os
                    have e4 := fun d os => cell_regrown x3 d os
                    clear x0 x1 x2 x3
                    have hun : undef = Value.tuple #[] := rfl
                    refine wp_region_quiet_below (by kernel_rfl) (by kernel_rfl) ?_
                    repeat (
                      with_reducible refine wpQuiet_step (fun K hK => ?_)
                      go_simp
                      first
                        | (with_reducible refine hK _ ?_; clear hK K)
                        | (apply Exists.intro; refine ⟨fun _ => ?_, hK _ ?_⟩; (fail); clear hK K))
                    rw [← hun]
                    clear hun
                    refine wpQuiet_nil ?_
                    intro _ hw'
                    obtain ⟨⟨dq, osq⟩, hw''⟩ := hw'
                    subst hw''
                    have hb := below_regrown wr dq osq
                    clear e1 e2 e3 e4 y1 y2 y3
                    generalize grow (redrawn wr dq) osq = W1 at *
                    replace ST := Lib.hid (ST.out.below hb)
                    have HBW := Lib.hid hb
                    clear hb
                    go_wp2_with fail
                    have x0 := (HC1.out _ HBW.out).1
                    have x1 := (HC1.out _ HBW.out).2.1
                    have x2 := (HC2.out _ HBW.out).1
                    have x3 := (HC2.out _ HBW.out).2.1
                    have e1 := fun d os => cell_regrown x0 d os
                    have e2 := fun d os => cell_regrown x1 d os
                    have e3 := fun d os => cell_regrown x2 d os
                    have e4 := fun d os => cell_regrown x3 d os
                    clear x0 x1 x2 x3
                    have hun : undef = Value.tuple #[] := rfl
                    refine wp_region_quiet_below (by kernel_rfl) (by kernel_rfl) ?_
                    repeat (
                      with_reducible refine wpQuiet_step (fun K hK => ?_)
                      go_simp
                      first
                        | (with_reducible refine hK _ ?_; clear hK K)
                        | (apply Exists.intro; refine ⟨fun _ => ?_, hK _ ?_⟩; (fail); clear hK K))
                    rw [← hun]
                    clear hun
                    refine wpQuiet_nil ?_
                    intro _ hw'
                    obtain ⟨⟨dq, osq⟩, hw''⟩ := hw'
                    subst hw''
                    have hb := below_regrown W1 dq osq
                    clear e1 e2 e3 e4 y4 y5 y6 HC1 HC2 HBW
                    generalize grow (redrawn W1 dq) osq = W2 at *
                    replace ST := Lib.hid (ST.out.below hb)
                    clear hb
                    by_cases hA : 0 < A
                    · have t1 : decide ((0 : Int) < A) = true := by simp; omega
                      have t2 : decide (A < (0 : Int)) = false := by simp; omega
                      obtain ⟨r, hr⟩ : ∃ r, mkRat (B) (A).toNat = r := ⟨_, rfl⟩
                      have hfr : Fine r := by rw [← hr]; have := HZ.out; exact fine_mk (B) (A) (by omega) (by omega) (by omega) (by omega)
                      have hcd := HHP.out (by omega)
                      rw [hr] at hcd
                      have E1 := Lib.hid (HEQ.out.2 r hcd)
                      have E2 := Lib.hid (HEP.out.1 (HLN.out (by omega)))
                      have HRR := Lib.hid hr
                      have HFR := Lib.hid hfr
                      clear hr hfr hcd HEP HEQ HHP HHN HLP HLN
                      rcases q with _ | y
                      · have e1 : _ = some r := E1.out
                        replace E1 := Lib.hid e1
                        clear e1
                        go_wp2_with fail
                        have x0 := ST.out.hi.cell 0
                        have x1 := ST.out.hi.cell 1
                        simp only [oN, oD] at x0 x1
                        simp at x0 x1
                        have g0 := fun d os => cell_regrown x0 d os
                        have g1 := fun d os => cell_regrown x1 d os
                        clear x0 x1
                        have hun : undef = Value.tuple #[] := rfl
                        refine wp_region_quiet_below (by kernel_rfl) (by kernel_rfl) ?_
                        repeat (
                          with_reducible refine wpQuiet_step (fun K hK => ?_)
                          go_simp
                          first
                            | (with_reducible refine hK _ ?_; clear hK K)
                            | (apply Exists.intro; refine ⟨fun _ => ?_, hK _ ?_⟩; (fail); clear hK K))
                        rw [← hun]
                        clear hun
                        refine wpQuiet_nil ?_
                        intro _ hw'
                        obtain ⟨⟨dq, osq⟩, hw''⟩ := hw'
                        subst hw''
                        have hb := below_regrown W2 dq osq
                        clear g0 g1
                        generalize grow (redrawn W2 dq) osq = W4 at *
                        replace ST := Lib.hid (ST.out.below hb)
                        clear hb
                        go_wp2_with fail
                        refine (rby_r (B) (A) HRR.out _ (by have := HZ.out; omega) (by have := HZ.out; omega) (by omega) (by have := HZ.out; omega)).mono ?_
                        rintro e W5 ⟨rfl, hb⟩
                        replace ST := Lib.hid (ST.out.below hb)
                        clear hb
                        have u0 := ST.out.hi.cell 0
                        have u1 := ST.out.hi.cell 1
                        have f0 := ST.out.hi.frozen 0
                        have f1 := ST.out.hi.frozen 1
                        have lt1 := ST.out.hi.lt
                        simp at u0 u1
                        go_wp2_with fail
                        clear u0 u1 f0 f1 lt1
                        have st2 := ST.out.setHi HFR.out
                        generalize (W5.setCell ⟨HI, 0, none⟩ (.int .i64 r.num)).setCell ⟨HI, 1, none⟩ (.int .i64 (r.den : Int)) = W6 at *
                        replace ST := Lib.hid st2
                        clear st2
                        have hun : undef = Value.tuple #[] := rfl
                        refine wp_region_quiet_below (by kernel_rfl) (by kernel_rfl) ?_
                        repeat (
                          with_reducible refine wpQuiet_step (fun K hK => ?_)
                          go_simp
                          first
                            | (with_reducible refine hK _ ?_; clear hK K)
                            | (apply Exists.intro; refine ⟨fun _ => ?_, hK _ ?_⟩; (fail); clear hK K))
                        rw [← hun]
                        clear hun
                        refine wpQuiet_nil ?_
                        intro _ hw'
                        obtain ⟨⟨dq, osq⟩, hw''⟩ := hw'
                        subst hw''
                        have hb := below_regrown W6 dq osq
                        generalize grow (redrawn W6 dq) osq = W7 at *
                        replace ST := Lib.hid (ST.out.below hb)
                        clear hb
                        go_wp2
                        go_roundw
                        case rel =>
                          refine ⟨k + 1, by go_num, by omega, ?_⟩
                          rw [E2.out, E1.out]
                          exact ST.out
                        case measure => first | (simp [intOf]; done) | (simp [intOf]; omega)
                      · skip
                        have hfy : Fine y := ST.out.fq y rfl
                        have HFY := Lib.hid hfy
                        clear hfy
                        by_cases hry : r < y
                        · have hd : decide (r < y) = true := decide_eq_true hry
                          have HD := Lib.hid hd
                          have e1 : _ = some r := E1.out.trans (if_pos hd)
                          replace E1 := Lib.hid e1
                          clear e1 hd hry
                          have hy0 : ((y.den : Int) == 0) = false := by have := y.den_pos; simp; omega
                          go_wp2_with fail
                          have x0 := ST.out.hi.cell 0
                          have x1 := ST.out.hi.cell 1
                          simp only [oN, oD] at x0 x1
                          simp at x0 x1
                          have g0 := fun d os => cell_regrown x0 d os
                          have g1 := fun d os => cell_regrown x1 d os
                          clear x0 x1
                          have hcB := fun (dr : Nat) (os : Array Obj) => Calls.regrown_of (rby_r (B) (A) HRR.out (grow (redrawn W2 dr) os) (by have := HZ.out; omega) (by have := HZ.out; omega) (by omega) (by have := HZ.out; omega))
                          have hcS := fun (dr : Nat) (os : Array Obj) => Calls.regrown_of (rless_r r y HD.out (grow (redrawn W2 dr) os) HFR.out HFY.out)
                          have hun : undef = Value.tuple #[] := rfl
                          refine wp_region_quiet_below (by kernel_rfl) (by kernel_rfl) ?_
                          repeat (
                            with_reducible refine wpQuiet_step (fun K hK => ?_)
                            go_simp
                            first
                              | (with_reducible refine hK _ ?_; clear hK K)
                              | (apply Exists.intro; refine ⟨fun _ => ?_, hK _ ?_⟩; (first | (go_at_call 51; (with_reducible exact hcB _ _)) | (go_at_call 45; (with_reducible exact hcS _ _))); clear hK K))
                          rw [← hun]
                          clear hun
                          refine wpQuiet_nil ?_
                          intro _ hw'
                          obtain ⟨⟨dq, osq⟩, hw''⟩ := hw'
                          subst hw''
                          have hb := below_regrown W2 dq osq
                          clear g0 g1 hcB hcS hy0
                          generalize grow (redrawn W2 dq) osq = W4 at *
                          replace ST := Lib.hid (ST.out.below hb)
                          clear hb
                          go_wp2_with fail
                          refine (rby_r (B) (A) HRR.out _ (by have := HZ.out; omega) (by have := HZ.out; omega) (by omega) (by have := HZ.out; omega)).mono ?_
                          rintro e W5 ⟨rfl, hb⟩
                          replace ST := Lib.hid (ST.out.below hb)
                          clear hb
                          have u0 := ST.out.hi.cell 0
                          have u1 := ST.out.hi.cell 1
                          have f0 := ST.out.hi.frozen 0
                          have f1 := ST.out.hi.frozen 1
                          have lt1 := ST.out.hi.lt
                          simp at u0 u1
                          go_wp2_with fail
                          clear u0 u1 f0 f1 lt1
                          have st2 := ST.out.setHi HFR.out
                          generalize (W5.setCell ⟨HI, 0, none⟩ (.int .i64 r.num)).setCell ⟨HI, 1, none⟩ (.int .i64 (r.den : Int)) = W6 at *
                          replace ST := Lib.hid st2
                          clear st2
                          have hun : undef = Value.tuple #[] := rfl
                          refine wp_region_quiet_below (by kernel_rfl) (by kernel_rfl) ?_
                          repeat (
                            with_reducible refine wpQuiet_step (fun K hK => ?_)
                            go_simp
                            first
                              | (with_reducible refine hK _ ?_; clear hK K)
                              | (apply Exists.intro; refine ⟨fun _ => ?_, hK _ ?_⟩; (fail); clear hK K))
                          rw [← hun]
                          clear hun
                          refine wpQuiet_nil ?_
                          intro _ hw'
                          obtain ⟨⟨dq, osq⟩, hw''⟩ := hw'
                          subst hw''
                          have hb := below_regrown W6 dq osq
                          generalize grow (redrawn W6 dq) osq = W7 at *
                          replace ST := Lib.hid (ST.out.below hb)
                          clear hb
                          go_wp2
                          go_roundw
                          case rel =>
                            refine ⟨k + 1, by go_num, by omega, ?_⟩
                            rw [E2.out, E1.out]
                            exact ST.out
                          case measure => first | (simp [intOf]; done) | (simp [intOf]; omega)
                        · have hd : decide (r < y) = false := decide_eq_false hry
                          have HD := Lib.hid hd
                          have e1 : _ = some y := E1.out.trans (if_neg (by simp only [hd]; decide))
                          replace E1 := Lib.hid e1
                          clear e1 hd hry
                          have hy0 : ((y.den : Int) == 0) = false := by have := y.den_pos; simp; omega
                          go_wp2_with fail
                          have x0 := ST.out.hi.cell 0
                          have x1 := ST.out.hi.cell 1
                          simp only [oN, oD] at x0 x1
                          simp at x0 x1
                          have g0 := fun d os => cell_regrown x0 d os
                          have g1 := fun d os => cell_regrown x1 d os
                          clear x0 x1
                          have hcB := fun (dr : Nat) (os : Array Obj) => Calls.regrown_of (rby_r (B) (A) HRR.out (grow (redrawn W2 dr) os) (by have := HZ.out; omega) (by have := HZ.out; omega) (by omega) (by have := HZ.out; omega))
                          have hcS := fun (dr : Nat) (os : Array Obj) => Calls.regrown_of (rless_r r y HD.out (grow (redrawn W2 dr) os) HFR.out HFY.out)
                          have hun : undef = Value.tuple #[] := rfl
                          refine wp_region_quiet_below (by kernel_rfl) (by kernel_rfl) ?_
                          repeat (
                            with_reducible refine wpQuiet_step (fun K hK => ?_)
                            go_simp
                            first
                              | (with_reducible refine hK _ ?_; clear hK K)
                              | (apply Exists.intro; refine ⟨fun _ => ?_, hK _ ?_⟩; (first | (go_at_call 51; (with_reducible exact hcB _ _)) | (go_at_call 45; (with_reducible exact hcS _ _))); clear hK K))
                          rw [← hun]
                          clear hun
                          refine wpQuiet_nil ?_
                          intro _ hw'
                          obtain ⟨⟨dq, osq⟩, hw''⟩ := hw'
                          subst hw''
                          have hb := below_regrown W2 dq osq
                          clear g0 g1 hcB hcS hy0
                          generalize grow (redrawn W2 dq) osq = W4 at *
                          replace ST := Lib.hid (ST.out.below hb)
                          clear hb
                          go_wp2_with fail
                          have hun : undef = Value.tuple #[] := rfl
                          refine wp_region_quiet_below (by kernel_rfl) (by kernel_rfl) ?_
                          repeat (
                            with_reducible refine wpQuiet_step (fun K hK => ?_)
                            go_simp
                            first
                              | (with_reducible refine hK _ ?_; clear hK K)
                              | (apply Exists.intro; refine ⟨fun _ => ?_, hK _ ?_⟩; (fail); clear hK K))
                          rw [← hun]
                          clear hun
                          refine wpQuiet_nil ?_
                          intro _ hw'
                          obtain ⟨⟨dq, osq⟩, hw''⟩ := hw'
                          subst hw''
                          have hb := below_regrown W4 dq osq
                          generalize grow (redrawn W4 dq) osq = W5 at *
                          replace ST := Lib.hid (ST.out.below hb)
                          clear hb
                          go_wp2
                          go_roundw
                          case rel =>
                            refine ⟨k + 1, by go_num, by omega, ?_⟩
                            rw [E2.out, E1.out]
                            exact ST.out
                          case measure => first | (simp [intOf]; done) | (simp [intOf]; omega)
                    · have t1 : decide ((0 : Int) < A) = false := by simp; omega
                      by_cases hA2 : A < 0
                      · have t2 : decide (A < (0 : Int)) = true := by simp; omega
                        clear hA
                        have hA := hA2
                        clear hA2
                        obtain ⟨r, hr⟩ : ∃ r, mkRat (-B) (-A).toNat = r := ⟨_, rfl⟩
                        have hfr : Fine r := by rw [← hr]; have := HZ.out; exact fine_mk (-B) (-A) (by omega) (by omega) (by omega) (by omega)
                        have hcd := HLP.out (by omega)
                        rw [hr] at hcd
                        have E1 := Lib.hid (HEP.out.2 r hcd)
                        have E2 := Lib.hid (HEQ.out.1 (HHN.out (by omega)))
                        have HRR := Lib.hid hr
                        have HFR := Lib.hid hfr
                        clear hr hfr hcd HEP HEQ HHP HHN HLP HLN
                        rcases p with _ | y
                        · have e1 : _ = some r := E1.out
                          replace E1 := Lib.hid e1
                          clear e1
                          go_wp2_with fail
                          have hun : undef = Value.tuple #[] := rfl
                          refine wp_region_quiet_below (by kernel_rfl) (by kernel_rfl) ?_
                          repeat (
                            with_reducible refine wpQuiet_step (fun K hK => ?_)
                            go_simp
                            first
                              | (with_reducible refine hK _ ?_; clear hK K)
                              | (apply Exists.intro; refine ⟨fun _ => ?_, hK _ ?_⟩; (fail); clear hK K))
                          rw [← hun]
                          clear hun
                          refine wpQuiet_nil ?_
                          intro _ hw'
                          obtain ⟨⟨dq, osq⟩, hw''⟩ := hw'
                          subst hw''
                          have hb := below_regrown W2 dq osq
                          generalize grow (redrawn W2 dq) osq = W3 at *
                          replace ST := Lib.hid (ST.out.below hb)
                          clear hb
                          go_wp2_with fail
                          have x0 := ST.out.lo.cell 0
                          have x1 := ST.out.lo.cell 1
                          simp only [oN, oD] at x0 x1
                          simp at x0 x1
                          have g0 := fun d os => cell_regrown x0 d os
                          have g1 := fun d os => cell_regrown x1 d os
                          clear x0 x1
                          have hun : undef = Value.tuple #[] := rfl
                          refine wp_region_quiet_below (by kernel_rfl) (by kernel_rfl) ?_
                          repeat (
                            with_reducible refine wpQuiet_step (fun K hK => ?_)
                            go_simp
                            first
                              | (with_reducible refine hK _ ?_; clear hK K)
                              | (apply Exists.intro; refine ⟨fun _ => ?_, hK _ ?_⟩; (fail); clear hK K))
                          rw [← hun]
                          clear hun
                          refine wpQuiet_nil ?_
                          intro _ hw'
                          obtain ⟨⟨dq, osq⟩, hw''⟩ := hw'
                          subst hw''
                          have hb := below_regrown W3 dq osq
                          clear g0 g1
                          generalize grow (redrawn W3 dq) osq = W4 at *
                          replace ST := Lib.hid (ST.out.below hb)
                          clear hb
                          go_wp2_with fail
                          refine (rby_r (-B) (-A) HRR.out _ (by have := HZ.out; omega) (by have := HZ.out; omega) (by omega) (by have := HZ.out; omega)).mono ?_
                          rintro e W5 ⟨rfl, hb⟩
                          replace ST := Lib.hid (ST.out.below hb)
                          clear hb
                          have u0 := ST.out.lo.cell 0
                          have u1 := ST.out.lo.cell 1
                          have f0 := ST.out.lo.frozen 0
                          have f1 := ST.out.lo.frozen 1
                          have lt1 := ST.out.lo.lt
                          simp at u0 u1
                          go_wp2
                          clear u0 u1 f0 f1 lt1
                          have st2 := ST.out.setLo HFR.out
                          replace ST := Lib.hid st2
                          clear st2
                          go_roundw
                          case rel =>
                            refine ⟨k + 1, by go_num, by omega, ?_⟩
                            rw [E1.out, E2.out]
                            exact ST.out
                          case measure => first | (simp [intOf]; done) | (simp [intOf]; omega)
                        · skip
                          go_wp2_with fail
                          have hun : undef = Value.tuple #[] := rfl
                          refine wp_region_quiet_below (by kernel_rfl) (by kernel_rfl) ?_
                          repeat (
                            with_reducible refine wpQuiet_step (fun K hK => ?_)
                            go_simp
                            first
                              | (with_reducible refine hK _ ?_; clear hK K)
                              | (apply Exists.intro; refine ⟨fun _ => ?_, hK _ ?_⟩; (fail); clear hK K))
                          rw [← hun]
                          clear hun
                          refine wpQuiet_nil ?_
                          intro _ hw'
                          obtain ⟨⟨dq, osq⟩, hw''⟩ := hw'
                          subst hw''
                          have hb := below_regrown W2 dq osq
                          generalize grow (redrawn W2 dq) osq = W3 at *
                          replace ST := Lib.hid (ST.out.below hb)
                          clear hb
                          have hfy : Fine y := ST.out.fp y rfl
                          have HFY := Lib.hid hfy
                          clear hfy
                          by_cases hry : y < r
                          · have hd : decide (y < r) = true := decide_eq_true hry
                            have HD := Lib.hid hd
                            have e1 : _ = some r := E1.out.trans (if_pos hd)
                            replace E1 := Lib.hid e1
                            clear e1 hd hry
                            have hy0 : ((y.den : Int) == 0) = false := by have := y.den_pos; simp; omega
                            go_wp2_with fail
                            have x0 := ST.out.lo.cell 0
                            have x1 := ST.out.lo.cell 1
                            simp only [oN, oD] at x0 x1
                            simp at x0 x1
                            have g0 := fun d os => cell_regrown x0 d os
                            have g1 := fun d os => cell_regrown x1 d os
                            clear x0 x1
                            have hcB := fun (dr : Nat) (os : Array Obj) => Calls.regrown_of (rby_r (-B) (-A) HRR.out (grow (redrawn W3 dr) os) (by have := HZ.out; omega) (by have := HZ.out; omega) (by omega) (by have := HZ.out; omega))
                            have hcS := fun (dr : Nat) (os : Array Obj) => Calls.regrown_of (rless_r y r HD.out (grow (redrawn W3 dr) os) HFY.out HFR.out)
                            have hun : undef = Value.tuple #[] := rfl
                            refine wp_region_quiet_below (by kernel_rfl) (by kernel_rfl) ?_
                            repeat (
                              with_reducible refine wpQuiet_step (fun K hK => ?_)
                              go_simp
                              first
                                | (with_reducible refine hK _ ?_; clear hK K)
                                | (apply Exists.intro; refine ⟨fun _ => ?_, hK _ ?_⟩; (first | (go_at_call 51; (with_reducible exact hcB _ _)) | (go_at_call 45; (with_reducible exact hcS _ _))); clear hK K))
                            rw [← hun]
                            clear hun
                            refine wpQuiet_nil ?_
                            intro _ hw'
                            obtain ⟨⟨dq, osq⟩, hw''⟩ := hw'
                            subst hw''
                            have hb := below_regrown W3 dq osq
                            clear g0 g1 hcB hcS hy0
                            generalize grow (redrawn W3 dq) osq = W4 at *
                            replace ST := Lib.hid (ST.out.below hb)
                            clear hb
                            go_wp2_with fail
                            refine (rby_r (-B) (-A) HRR.out _ (by have := HZ.out; omega) (by have := HZ.out; omega) (by omega) (by have := HZ.out; omega)).mono ?_
                            rintro e W5 ⟨rfl, hb⟩
                            replace ST := Lib.hid (ST.out.below hb)
                            clear hb
                            have u0 := ST.out.lo.cell 0
                            have u1 := ST.out.lo.cell 1
                            have f0 := ST.out.lo.frozen 0
                            have f1 := ST.out.lo.frozen 1
                            have lt1 := ST.out.lo.lt
                            simp at u0 u1
                            go_wp2
                            clear u0 u1 f0 f1 lt1
                            have st2 := ST.out.setLo HFR.out
                            replace ST := Lib.hid st2
                            clear st2
                            go_roundw
                            case rel =>
                              refine ⟨k + 1, by go_num, by omega, ?_⟩
                              rw [E1.out, E2.out]
                              exact ST.out
                            case measure => first | (simp [intOf]; done) | (simp [intOf]; omega)
                          · have hd : decide (y < r) = false := decide_eq_false hry
                            have HD := Lib.hid hd
                            have e1 : _ = some y := E1.out.trans (if_neg (by simp only [hd]; decide))
                            replace E1 := Lib.hid e1
                            clear e1 hd hry
                            have hy0 : ((y.den : Int) == 0) = false := by have := y.den_pos; simp; omega
                            go_wp2_with fail
                            have x0 := ST.out.lo.cell 0
                            have x1 := ST.out.lo.cell 1
                            simp only [oN, oD] at x0 x1
                            simp at x0 x1
                            have g0 := fun d os => cell_regrown x0 d os
                            have g1 := fun d os => cell_regrown x1 d os
                            clear x0 x1
                            have hcB := fun (dr : Nat) (os : Array Obj) => Calls.regrown_of (rby_r (-B) (-A) HRR.out (grow (redrawn W3 dr) os) (by have := HZ.out; omega) (by have := HZ.out; omega) (by omega) (by have := HZ.out; omega))
                            have hcS := fun (dr : Nat) (os : Array Obj) => Calls.regrown_of (rless_r y r HD.out (grow (redrawn W3 dr) os) HFY.out HFR.out)
                            have hun : undef = Value.tuple #[] := rfl
                            refine wp_region_quiet_below (by kernel_rfl) (by kernel_rfl) ?_
                            repeat (
                              with_reducible refine wpQuiet_step (fun K hK => ?_)
                              go_simp
                              first
                                | (with_reducible refine hK _ ?_; clear hK K)
                                | (apply Exists.intro; refine ⟨fun _ => ?_, hK _ ?_⟩; (first | (go_at_call 51; (with_reducible exact hcB _ _)) | (go_at_call 45; (with_reducible exact hcS _ _))); clear hK K))
                            rw [← hun]
                            clear hun
                            refine wpQuiet_nil ?_
                            intro _ hw'
                            obtain ⟨⟨dq, osq⟩, hw''⟩ := hw'
                            subst hw''
                            have hb := below_regrown W3 dq osq
                            clear g0 g1 hcB hcS hy0
                            generalize grow (redrawn W3 dq) osq = W4 at *
                            replace ST := Lib.hid (ST.out.below hb)
                            clear hb
                            go_wp2
                            go_roundw
                            case rel =>
                              refine ⟨k + 1, by go_num, by omega, ?_⟩
                              rw [E1.out, E2.out]
                              exact ST.out
                            case measure => first | (simp [intOf]; done) | (simp [intOf]; omega)
                      · have t2 : decide (A < (0 : Int)) = false := by simp; omega
                        have E1 := Lib.hid (HEP.out.1 (HLN.out (by omega)))
                        have E2 := Lib.hid (HEQ.out.1 (HHN.out (by omega)))
                        clear HEP HEQ HHP HHN HLP HLN
                        go_wp2_with fail
                        have hun : undef = Value.tuple #[] := rfl
                        refine wp_region_quiet_below (by kernel_rfl) (by kernel_rfl) ?_
                        repeat (
                          with_reducible refine wpQuiet_step (fun K hK => ?_)
                          go_simp
                          first
                            | (with_reducible refine hK _ ?_; clear hK K)
                            | (apply Exists.intro; refine ⟨fun _ => ?_, hK _ ?_⟩; (fail); clear hK K))
                        rw [← hun]
                        clear hun
                        refine wpQuiet_nil ?_
                        intro _ hw'
                        obtain ⟨⟨dq, osq⟩, hw''⟩ := hw'
                        subst hw''
                        have hb := below_regrown W2 dq osq
                        generalize grow (redrawn W2 dq) osq = W3 at *
                        replace ST := Lib.hid (ST.out.below hb)
                        clear hb
                        go_wp2_with fail
                        have hun : undef = Value.tuple #[] := rfl
                        refine wp_region_quiet_below (by kernel_rfl) (by kernel_rfl) ?_
                        repeat (
                          with_reducible refine wpQuiet_step (fun K hK => ?_)
                          go_simp
                          first
                            | (with_reducible refine hK _ ?_; clear hK K)
                            | (apply Exists.intro; refine ⟨fun _ => ?_, hK _ ?_⟩; (fail); clear hK K))
                        rw [← hun]
                        clear hun
                        refine wpQuiet_nil ?_
                        intro _ hw'
                        obtain ⟨⟨dq, osq⟩, hw''⟩ := hw'
                        subst hw''
                        have hb := below_regrown W3 dq osq
                        generalize grow (redrawn W3 dq) osq = W4 at *
                        replace ST := Lib.hid (ST.out.below hb)
                        clear hb
                        go_wp2
                        go_roundw
                        case rel =>
                          refine ⟨k + 1, by go_num, by omega, ?_⟩
                          rw [E1.out, E2.out]
                          exact ST.out
                        case measure => first | (simp [intOf]; done) | (simp [intOf]; omega)
                  · obtain rfl : k = ms.length := by omega
                    rw [cK_end p0 loCand ls ms hil, cK_end q0 hiCand ls ms hil] at hst
                    have ST := Lib.hid hst
                    clear hst
                    have tk : decide ((ms.length : Int) < (ms.length : Int)) = false := by simp
                    go_wp2
                    go_roundw
                    case rel => exact ⟨i + 1, by go_num, by omega, ST.out⟩
                    case measure => first | (simp [intOf]; done) | (simp [intOf]; omega)
              · obtain rfl : i = ls.length := by omega
                have tk : decide ((ls.length : Int) < (ls.length : Int)) = false := by simp
                obtain ⟨p, hp⟩ : ∃ p, bestBy oGt (cA p0 loCand ls ms ls.length) = p := ⟨_, rfl⟩
                obtain ⟨q, hq⟩ : ∃ q, bestBy oLt (cA q0 hiCand ls ms ls.length) = q := ⟨_, rfl⟩
                rw [hp, hq] at ST
                rw [cA_end, ← HP0.out, ← HLS.out, ← HMS.out] at hp
                rw [cA_end, ← HQ0.out, ← HLS.out, ← HMS.out] at hq
                have HE := Lib.hid (heights_ref HF.out H0.out HR.out HLT.out (hi := q) (lo := p) hq hp)
                clear hp hq hi hil ri1
                obtain ⟨pn, hpn⟩ : ∃ pn, oN p = pn := ⟨_, rfl⟩
                obtain ⟨pd, hpd⟩ : ∃ pd, oD p = pd := ⟨_, rfl⟩
                obtain ⟨qn, hqn⟩ : ∃ qn, oN q = qn := ⟨_, rfl⟩
                obtain ⟨qd, hqd⟩ : ∃ qd, oD q = qd := ⟨_, rfl⟩
                have hlo := ST.out.lo
                have hhi := ST.out.hi
                rw [hpn, hpd] at hlo
                rw [hqn, hqd] at hhi
                rw [hpn, hpd, hqn, hqd] at HE
                have BLO := Lib.hid hlo
                have BHI := Lib.hid hhi
                have B6 := Lib.hid ST.out.r6
                have B7 := Lib.hid ST.out.r7
                have BB := Lib.hid ST.out.bel
                have HNE := Lib.hid (show w.heap.size + 2 < LO ∧ LO < HI from ⟨ST.out.n1, ST.out.n2⟩)
                clear ST hpn hpd hqn hqd hlo hhi
                go_wp2_with fail
                clear tk
                have s0 := BLO.out.cell 0
                have s1 := BLO.out.cell 1
                have s2 := BHI.out.cell 0
                have s3 := BHI.out.cell 1
                simp at s0 s1 s2 s3
                have r0 := B6.out.cell 0
                have r1 := B6.out.cell 1
                have f0 := B6.out.frozen 0
                have f1 := B6.out.frozen 1
                have lt1 := B6.out.lt
                have r2 := B7.out.cell 0
                have r3 := B7.out.cell 1
                have f2 := B7.out.frozen 0
                have f3 := B7.out.frozen 1
                have lt2 := B7.out.lt
                simp at r0 r1 r2 r3
                refine wp_region_T 3 (fun W' => W'.cell? ⟨LO, 0, none⟩ = some (.int .i64 pn) ∧ W'.cell? ⟨LO, 1, none⟩ = some (.int .i64 pd) ∧ W'.cell? ⟨HI, 0, none⟩ = some (.int .i64 qn) ∧ W'.cell? ⟨HI, 1, none⟩ = some (.int .i64 qd)) (by kernel_rfl) (by kernel_rfl) ⟨s0, s1, s2, s3⟩ ?_
                intro inv hS
                refine wpAnyT_take inv (by kernel_rfl) (by omega) (i := 0) (v := .agg #[.int .i64 pn, .int .i64 pd]) rfl (by kernel_rfl) (by kernel_rfl) (fun _ _ _ h => h) (Or.inl ⟨by kernel_rfl, ?_⟩) (by assumption) ?_
                · rintro W' ⟨z0, z1, z2, z3⟩
                  go_simp
                intro inv2
                clear inv
                have inv := inv2
                clear inv2
                simp only [Act.put, List.setIfInBounds_toArray]
                refine wpAnyT_take inv (by kernel_rfl) (by omega) (i := 1) (v := .agg #[.int .i64 qn, .int .i64 qd]) rfl (by kernel_rfl) (by kernel_rfl) (fun _ _ _ h => h) (Or.inl ⟨by kernel_rfl, ?_⟩) (by assumption) ?_
                · rintro W' ⟨z0, z1, z2, z3⟩
                  go_simp
                intro inv2
                clear inv
                simp only [Act.put]
                clear hS s0 s1 s2 s3 inv2
                have hbD : Below wr.heap.size wr wr.drew := (Below.refl _ _).drew
                replace BLO := Lib.hid (BLO.out.below hbD)
                replace BHI := Lib.hid (BHI.out.below hbD)
                replace B6 := Lib.hid (B6.out.below hbD)
                replace B7 := Lib.hid (B7.out.below hbD)
                replace BB := Lib.hid (bC BB.out hbD)
                clear hbD r0 r1 r2 r3 f0 f1 f2 f3 lt1 lt2
                generalize wr.drew = V0 at *
                have r0 := B6.out.cell 0
                have r1 := B6.out.cell 1
                have f0 := B6.out.frozen 0
                have f1 := B6.out.frozen 1
                have lt1 := B6.out.lt
                simp at r0 r1
                refine wpAnyT_ready [2] (by kernel_rfl) (by simp) ?_
                refine AllReadyT.cons rfl (fun K hK => ?_) AllReadyT.nil
                go_simp
                clear r0 r1 f0 f1 lt1
                have hU := (B6.out.set (j := 0) (.int .i64 pn)).set (j := 1) (.int .i64 pd)
                simp only [List.setIfInBounds_toArray, List.set_cons_zero, List.set_cons_succ] at hU
                replace B6 := Lib.hid hU
                clear hU
                replace B7 := Lib.hid ((B7.out.other (b := w.heap.size + 1) (j := 0) (by omega) (.int .i64 pn)).other (b := w.heap.size + 1) (j := 1) (by omega) (.int .i64 pd))
                replace BLO := Lib.hid ((BLO.out.other (b := w.heap.size + 1) (j := 0) (by have := HNE.out; omega) (.int .i64 pn)).other (b := w.heap.size + 1) (j := 1) (by have := HNE.out; omega) (.int .i64 pd))
                replace BHI := Lib.hid ((BHI.out.other (b := w.heap.size + 1) (j := 0) (by have := HNE.out; omega) (.int .i64 pn)).other (b := w.heap.size + 1) (j := 1) (by have := HNE.out; omega) (.int .i64 pd))
                replace BB := Lib.hid ((BB.out.setCell (p := ⟨w.heap.size + 1, 0, none⟩) (by simp only; omega) (.int .i64 pn)).setCell (p := ⟨w.heap.size + 1, 1, none⟩) (by simp only; omega) (.int .i64 pd))
                generalize (V0.setCell ⟨w.heap.size + 1, 0, none⟩ (.int .i64 pn)).setCell ⟨w.heap.size + 1, 1, none⟩ (.int .i64 pd) = V1 at *
                have s0 := BLO.out.cell 0
                have s1 := BLO.out.cell 1
                have s2 := BHI.out.cell 0
                have s3 := BHI.out.cell 1
                simp at s0 s1 s2 s3
                refine hK.out _ _ (fun _ => ⟨s0, s1, s2, s3⟩) (fun _ => ?_)
                clear hK K s0 s1 s2 s3
                try simp only [Act.put]
                refine wpAnyT_chain (fuel := 2) rfl (by kernel_rfl) ?_
                simp only [List.drop_succ_cons, List.drop_zero]
                have r2 := B7.out.cell 0
                have r3 := B7.out.cell 1
                have f2 := B7.out.frozen 0
                have f3 := B7.out.frozen 1
                have lt2 := B7.out.lt
                simp at r2 r3
                go_wp2
                have U1 := (B6.out.other (b := w.heap.size + 1 + 1) (j := 0) (by omega) (.int .i64 qn)).other (b := w.heap.size + 1 + 1) (j := 1) (by omega) (.int .i64 qd)
                have U2 := (B7.out.set (j := 0) (.int .i64 qn)).set (j := 1) (.int .i64 qd)
                have v0 := U1.cell 0
                have v1 := U1.cell 1
                have v2 := U2.cell 0
                have v3 := U2.cell 1
                simp at v0 v1 v2 v3
                refine bodyPost_ret (v := .tuple #[.agg #[.int .i64 pn, .int .i64 pd], .agg #[.int .i64 qn, .int .i64 qd], .int .i64 0]) (by simp [results, Tryd.results35, go_sem, v0, v1, v2, v3]) rfl ⟨by rw [HE.out], ?_⟩
                exact (BB.out.setCell (by simp <;> omega) _).setCell (by simp <;> omega) _
    · have HR := Lib.hid hr
      by_cases b1 : core < -2000
      · clear hr
        have r0 := R1.out.cell 0
        have r1 := R1.out.cell 1
        have r2 := S1.out.cell 0
        have r3 := S1.out.cell 1
        have f0 := R1.out.frozen 0
        have f1 := R1.out.frozen 1
        have f2 := S1.out.frozen 0
        have f3 := S1.out.frozen 1
        have lt1 := R1.out.lt
        have lt2 := S1.out.lt
        simp at r0 r1 r2 r3
        go_wp2
        refine bodyPost_ret (v := .tuple #[zq, zq, .int .i64 (3)]) (by simp [results, Tryd.results35, go_sem, r0, r1, r2, r3]) rfl ⟨by rw [he_range H0.out HR.out], ?_⟩
        exact (((HB1.out.setCell (by simp <;> omega) _).setCell (by simp <;> omega) _).setCell (by simp <;> omega) _).setCell (by simp <;> omega) _
      by_cases b2 : 2000 < core
      · clear hr
        have r0 := R1.out.cell 0
        have r1 := R1.out.cell 1
        have r2 := S1.out.cell 0
        have r3 := S1.out.cell 1
        have f0 := R1.out.frozen 0
        have f1 := R1.out.frozen 1
        have f2 := S1.out.frozen 0
        have f3 := S1.out.frozen 1
        have lt1 := R1.out.lt
        have lt2 := S1.out.lt
        simp at r0 r1 r2 r3
        go_wp2
        refine bodyPost_ret (v := .tuple #[zq, zq, .int .i64 (3)]) (by simp [results, Tryd.results35, go_sem, r0, r1, r2, r3]) rfl ⟨by rw [he_range H0.out HR.out], ?_⟩
        exact (((HB1.out.setCell (by simp <;> omega) _).setCell (by simp <;> omega) _).setCell (by simp <;> omega) _).setCell (by simp <;> omega) _
      by_cases b3 : x < 0
      · clear hr
        have r0 := R1.out.cell 0
        have r1 := R1.out.cell 1
        have r2 := S1.out.cell 0
        have r3 := S1.out.cell 1
        have f0 := R1.out.frozen 0
        have f1 := R1.out.frozen 1
        have f2 := S1.out.frozen 0
        have f3 := S1.out.frozen 1
        have lt1 := R1.out.lt
        have lt2 := S1.out.lt
        simp at r0 r1 r2 r3
        go_wp2
        refine bodyPost_ret (v := .tuple #[zq, zq, .int .i64 (3)]) (by simp [results, Tryd.results35, go_sem, r0, r1, r2, r3]) rfl ⟨by rw [he_range H0.out HR.out], ?_⟩
        exact (((HB1.out.setCell (by simp <;> omega) _).setCell (by simp <;> omega) _).setCell (by simp <;> omega) _).setCell (by simp <;> omega) _
      · have b4 : 100 < x := by omega
        clear hr
        have r0 := R1.out.cell 0
        have r1 := R1.out.cell 1
        have r2 := S1.out.cell 0
        have r3 := S1.out.cell 1
        have f0 := R1.out.frozen 0
        have f1 := R1.out.frozen 1
        have f2 := S1.out.frozen 0
        have f3 := S1.out.frozen 1
        have lt1 := R1.out.lt
        have lt2 := S1.out.lt
        simp at r0 r1 r2 r3
        go_wp2
        refine bodyPost_ret (v := .tuple #[zq, zq, .int .i64 (3)]) (by simp [results, Tryd.results35, go_sem, r0, r1, r2, r3]) rfl ⟨by rw [he_range H0.out HR.out], ?_⟩
        exact (((HB1.out.setCell (by simp <;> omega) _).setCell (by simp <;> omega) _).setCell (by simp <;> omega) _).setCell (by simp <;> omega) _
  · have ht : (logErr l != 0) = true := by simp [h0]
    have HN := Lib.hid h0
    clear h0
    have l0 := L1.out.cell 0
    have l1 := L1.out.cell 1
    have ll := L1.out.lt
    simp at l0 l1
    go_wp2_with fail
    refine (HC.out _ HB1.out).mono ?_
    rintro e w3 ⟨rfl, hb3⟩
    have HB3 := Lib.hid (bC HB1.out hb3)
    have R3 := Lib.hid (R1.out.below hb3)
    have S3 := Lib.hid (S1.out.below hb3)
    clear hb3 l0 l1 ll
    have r0 := R3.out.cell 0
    have r1 := R3.out.cell 1
    have r2 := S3.out.cell 0
    have r3 := S3.out.cell 1
    have f0 := R3.out.frozen 0
    have f1 := R3.out.frozen 1
    have f2 := S3.out.frozen 0
    have f3 := S3.out.frozen 1
    have lt1 := R3.out.lt
    have lt2 := S3.out.lt
    simp at r0 r1 r2 r3
    go_wp2
    refine bodyPost_ret (v := .tuple #[zq, zq, .int .i64 (logErr l)]) (by simp [results, Tryd.results35, go_sem, r0, r1, r2, r3]) rfl ⟨by rw [he_err HN.out], ?_⟩
    exact (((HB3.out.setCell (by simp <;> omega) _).setCell (by simp <;> omega) _).setCell (by simp <;> omega) _).setCell (by simp <;> omega) _
end Go.Proofs.YtlhldkiggmlegaaDoor
