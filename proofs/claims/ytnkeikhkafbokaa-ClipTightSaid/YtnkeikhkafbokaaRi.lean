import Derived.Test.YtnkeikhkafbokaaRf
namespace Go.Proofs.Ytnkeikhkafbokaa
open Go.RowKit Go.Dag Go.Sort Go.Shelf
attribute [local go_sem] Oper.semAt_some

/-! ## Whether unit prices are tight -/
set_option maxRecDepth 100000 in
set_option maxHeartbeats 16000000 in
theorem tight_ok (kv cv lv : Value) (r : RibD) (ks : List KindD) (G : List (Nat × Nat)) (w : World) (hk : KindsAt w kv ks) (hc : PairsAt w cv (G.map intP)) (hl : IntsAt w lv (pricesL (tabOf r ks))) (hr : RibOk r) (hks : KindsOk ks) (hC : IsCuts (tabOf r ks) 0 G) (hT : TightFrom (tabOf r ks) 0 G) :
    Calls Try.prog 42 #[kv, cv, lv] w fun e w' => e = .returned (.bool true) ∧ Below w.heap.size w w' := by
  have ht := tabOf_ok (r := r) (ks := ks) (by have := hr.l1; omega) hks
  have hok := (pricesErr_zero (prices_good hr hks).1).2.2.2.1
  obtain ⟨gl, hgl⟩ : ∃ gl, G.map intP = gl := ⟨_, rfl⟩
  obtain ⟨pl, hpl⟩ : ∃ pl, pricesL (tabOf r ks) = pl := ⟨_, rfl⟩
  have HPV := Lib.hid (fun (u : Nat) (hu : u < (tabOf r ks).L) => show priceF pl u = priceV (tabOf r ks) u by rw [← hpl]; exact priceF_pricesL _ hu)
  have HPS := Lib.hid (fun (a n : Nat) (h : a + n ≤ (tabOf r ks).L) => show psum (priceF pl) a n = psum (priceV (tabOf r ks)) a n by rw [← hpl]; exact psum_pricesL _ h)
  have hll : pl.length = (tabOf r ks).L := by rw [← hpl]; simp only [pricesL, List.length_map, List.length_range]
  have HLL := Lib.hid hll
  have hL24 : (tabOf r ks).L ≤ 24 := by have := hr.l2; show r.len.toNat ≤ 24; omega
  have hpl24 : pl.length ≤ 24 := by omega
  rw [hpl] at hl hok
  rw [hgl] at hc
  have HLG := Lib.hid (show gl.length = G.length by rw [← hgl, List.length_map])
  have HGG := Lib.hid hgl.symm
  have hgl24 : gl.length ≤ 24 := by
    have := cuts_len ht (Nat.zero_le _) hC
    have := HLG.out
    omega
  obtain ⟨ca, cc, rfl⟩ := hc.slice
  obtain ⟨ka, kcap, rfl⟩ := hk.slice
  obtain ⟨pa, pcap, rfl⟩ := hl.slice
  have HC := Lib.hid hc
  have HK := Lib.hid hk
  have HP := Lib.hid hl
  have HKO := Lib.hid hks
  have HOK := Lib.hid hok
  have HT0 := Lib.hid hT
  have HC0 := Lib.hid hC
  have HTB := Lib.hid ht
  clear hgl hpl hc hk hl hks hok hll hT hC ht
  go_enter Try.func42, Try.ntmps42
  go_wp2
  go_loopw [7, 8] (fun nx s wr => ∃ k n : Nat, k ≤ gl.length ∧ s = .int .i64 k ∧ nx = .int .i64 n ∧ n ≤ (tabOf r ks).L ∧ IsCuts (tabOf r ks) n (G.drop k) ∧ TightFrom (tabOf r ks) n (G.drop k) ∧ Below w.heap.size w wr) (fun _ s _ => gl.length - (intOf s).toNat)
  case atStart => exact ⟨0, 0, Nat.zero_le _, rfl, rfl, Nat.zero_le _, HC0.out, HT0.out, Below.refl _ _⟩
  case round =>
    clear HC0 HT0
    obtain ⟨k, n, hk, rfl, rfl, hn, hcu, hti, hB⟩ := hrel
    have HBW := Lib.hid hB
    clear hB
    by_cases hlt : k < gl.length
    · have hkg : k < G.length := by have := HLG.out; omega
      have ex : gl[k] = intP G[k] := by simp only [HGG.out, List.getElem_map]
      rw [List.drop_eq_getElem_cons hkg] at hcu hti
      obtain ⟨pb, poff, rfl, x1, x2⟩ := HC.out.at.2 k hlt
      rw [ex] at x1 x2
      obtain ⟨gp, hgp⟩ : ∃ p, G[k] = p := ⟨_, rfl⟩
      rw [hgp] at x1 x2 hcu hti
      obtain ⟨a, i⟩ := gp
      simp only [intP] at x1 x2
      obtain ⟨hna, hiK, hcan, hcu2⟩ := hcu
      obtain ⟨hz, hps, hti2⟩ := hti
      have hfit := HTB.out.fit a i hiK hcan
      have hik : i < ks.length := hiK
      have hkd := kd_get hik
      have hko := kd_ok HKO.out hik
      rw [hkd] at hko
      obtain ⟨Wn, hWn⟩ : ∃ Wn : Nat, ks[i].w = (Wn : Int) := ⟨ks[i].w.toNat, by have := hko.w1; omega⟩
      have hWt : (tabOf r ks).W i = Wn := by simp only [tabOf]; rw [hkd, hWn]; rfl
      have hPt : (tabOf r ks).P i = ks[i].p := by simp only [tabOf]; rw [hkd]
      rw [hWt] at hcu2 hti2 hfit hps
      rw [hPt] at hps
      obtain ⟨kb, koff, hka, cw, cp, cm⟩ := HK.out.get i hik
      rw [hWn] at cw
      subst hka
      obtain ⟨pp, hpp⟩ : ∃ p, ks[i].p = p := ⟨_, rfl⟩
      obtain ⟨mm, hmm⟩ : ∃ p, ks[i].m = p := ⟨_, rfl⟩
      rw [hpp] at cp hps
      rw [hmm] at cm
      have y1 := cellB x1 HBW.out
      have y2 := cellB x2 HBW.out
      have yw := cellB cw HBW.out
      have yp := cellB cp HBW.out
      have ym := cellB cm HBW.out
      have HX := Lib.hid x1
      have HZ := Lib.hid hz
      have HPSA := Lib.hid hps
      have HCU := Lib.hid hcu2
      have HTI := Lib.hid hti2
      have bx := Blk.new wr (.cells #[.int .i64 (Wn : Int), .int .i64 pp, .int .i64 mm] 67)
      have hbx := below1 wr (.cells #[.int .i64 (Wn : Int), .int .i64 pp, .int .i64 mm] 67)
      have HBX := Lib.hid (bC HBW.out hbx)
      have BX := Lib.hid bx
      clear x1 x2 cw cp cm hkd hko hWn hWt hPt hz hps hcu2 hti2 hgp ex hcan hpp hmm bx hbx
      go_wp2
      clear y1 y2 yw yp ym
      obtain ⟨KB, hKB⟩ : ∃ b, wr.heap.size = b := ⟨_, rfl⟩
      rw [hKB] at BX
      try rw [hKB]
      clear hKB
      generalize wr.alloc (.cells #[.int .i64 (Wn : Int), .int .i64 pp, .int .i64 mm] 67) = W1 at *
      go_loopw [7] (fun nx wq => ∃ u : Nat, n ≤ u ∧ u ≤ a ∧ nx = .int .i64 u ∧ Below W1.heap.size W1 wq) (fun nx _ => a - (intOf nx).toNat)
      case atStart => exact ⟨n, Nat.le_refl _, hna, rfl, Below.refl _ _⟩
      case round =>
        obtain ⟨u, hu1, hu2, rfl, hB1⟩ := hrel
        have HB1 := Lib.hid hB1
        clear hB1
        have y1 := cellB (cellB HX.out HBX.out) HB1.out
        by_cases q : u < a
        · have hup : u < pl.length := by have := HLL.out; omega
          obtain ⟨lb, loff, rfl, z1⟩ := HP.out.at.2 u hup
          have hz0 : pl[u] = 0 := by
            rw [← priceF_get hup, HPV.out u (by omega)]
            exact HZ.out u hu1 q
          rw [hz0] at z1
          have z1 := cellB (cellB z1 HBX.out) HB1.out
          have d1 : decide ((u : Int) < (a : Int)) = true := by simp; omega
          have d2 : decide (u < a) = true := by simp; omega
          clear hz0
          go_wp2
          rename_i wr8
          go_roundw
          case rel => exact ⟨u + 1, by omega, by omega, by go_num, HB1.out⟩
          case measure => simp [intOf]; omega
        · obtain rfl : u = a := by omega
          have d1 : decide ((u : Int) < (u : Int)) = false := by simp
          go_wp2
          go_loopw [7, 10] (fun nx sm wq => ∃ d : Nat, d ≤ Wn ∧ nx = .int .i64 ((u + d : Nat) : Int) ∧ sm = .int .i64 (psum (priceF pl) u d) ∧ Below W1.heap.size W1 wq) (fun nx _ _ => u + Wn - (intOf nx).toNat)
          case atStart => exact ⟨0, Nat.zero_le _, rfl, rfl, HB1.out⟩
          case round =>
            obtain ⟨d, hd, rfl, rfl, hB2⟩ := hrel
            have HBQ := Lib.hid hB2
            have bq := (BX.out.below hB2).cell 0
            have y1 := cellB (cellB HX.out HBX.out) hB2
            simp at bq
            have g1 := fun dd os => cell_regrown y1 dd os
            have g2 := fun dd os => cell_regrown bq dd os
            have ww : IntKind.i64.wrap ((u : Int) + (Wn : Int)) = (u : Int) + (Wn : Int) := IntWalk.i64_in _ (by omega)
            have hsd := psum_bd HOK.out u d
            clear hB2 y1 bq
            by_cases q2 : d < Wn
            · have t1 : decide (((u + d : Nat) : Int) < (u : Int) + (Wn : Int)) = true := by simp; omega
              have t2 : decide ((u : Int) + (d : Int) < (u : Int) + (Wn : Int)) = true := by simp; omega
              have t3 : decide ((d : Int) < (Wn : Int)) = true := by simp; omega
              have t4 : decide (d < Wn) = true := by simp; omega
              go_wp2_with fail
              refine wp_region_quiet_below (by kernel_rfl) (by kernel_rfl) ?_
              repeat (quiet_step (fail))
              refine wpQuiet_nil ?_
              intro _ hw'
              obtain ⟨⟨dq, osq⟩, hw''⟩ := hw'
              subst hw''
              have HB4 := Lib.hid (bC HBQ.out (below_regrown wr dq osq))
              clear g1 g2 ww
              generalize grow (redrawn wr dq) osq = W4 at *
              have hup : u + d < pl.length := by have := HLL.out; omega
              obtain ⟨lb, loff, rfl, z1⟩ := HP.out.at.2 (u + d) hup
              have z1 := cellB (cellB z1 HBX.out) HB4.out
              have hle := okPrices_get HOK.out (u + d)
              rw [priceF_get hup] at hle
              have HSD := Lib.hid (show psum (priceF pl) u (d + 1) = psum (priceF pl) u d + pl[u + d] by rw [psum_succ, priceF_get hup])
              obtain ⟨xv, hxv⟩ : ∃ x, pl[u + d] = x := ⟨_, rfl⟩
              rw [hxv] at z1 hle
              have HXV := Lib.hid hxv
              have p1 : decide (xv < 0) = false := by simp; omega
              have p2 : decide (xv > 24000) = false := by simp; omega
              have p3 : decide (24000 < xv) = false := by simp; omega
              have ww3 : IntKind.i64.wrap (psum (priceF pl) u d + xv) = psum (priceF pl) u d + xv := IntWalk.i64_in _ (by omega)
              clear hxv
              go_wp2
              rename_i wr8
              go_roundw
              case rel => exact ⟨d + 1, by omega, by go_num, by rw [HSD.out, HXV.out], HB4.out⟩
              case measure => simp [intOf]; omega
            · obtain rfl : d = Wn := by omega
              have t1 : decide (((u + d : Nat) : Int) < (u : Int) + (d : Int)) = false := by simp
              have t2 : decide ((u : Int) + (d : Int) < (u : Int) + (d : Int)) = false := by simp
              have HPF := Lib.hid (show psum (priceF pl) u d = pp by rw [HPS.out u d hfit]; exact HPSA.out)
              go_wp2_with fail
              refine wp_region_quiet_below (by kernel_rfl) (by kernel_rfl) ?_
              repeat (quiet_step (fail))
              refine wpQuiet_nil ?_
              intro _ hw'
              obtain ⟨⟨dq, osq⟩, hw''⟩ := hw'
              subst hw''
              have HB4 := Lib.hid (bC HBQ.out (below_regrown wr dq osq))
              clear g1 g2 ww
              generalize grow (redrawn wr dq) osq = W4 at *
              have bp := (BX.out.below HB4.out).cell 1
              simp at bp
              rw [HPF.out]
              go_wp2
              rename_i wr8
              go_roundw
              case rel => exact ⟨k + 1, u + d, by omega, by go_num, by go_num, hfit, HCU.out, HTI.out, bC HBX.out HB4.out⟩
              case measure => simp [intOf]; omega
    · obtain rfl : k = gl.length := by omega
      have dk : decide ((gl.length : Int) < (gl.length : Int)) = false := by simp
      have hzn : ∀ u, n ≤ u → u < (tabOf r ks).L → priceV (tabOf r ks) u = 0 := by
        rw [List.drop_eq_nil_iff.2 (by have := HLG.out; omega)] at hti
        exact hti
      have HZ := Lib.hid hzn
      clear hti hcu hzn
      go_wp2
      go_loopw [7] (fun nx wq => ∃ u : Nat, n ≤ u ∧ u ≤ (tabOf r ks).L ∧ nx = .int .i64 u ∧ Below w.heap.size w wq) (fun nx _ => (tabOf r ks).L - (intOf nx).toNat)
      case atStart => exact ⟨n, Nat.le_refl _, hn, rfl, HBW.out⟩
      case round =>
        obtain ⟨u, hu1, hu2, rfl, hB1⟩ := hrel
        have HB1 := Lib.hid hB1
        clear hB1
        by_cases q : u < pl.length
        · obtain ⟨lb, loff, rfl, z1⟩ := HP.out.at.2 u q
          have hz0 : pl[u] = 0 := by
            rw [← priceF_get q, HPV.out u (by have := HLL.out; omega)]
            exact HZ.out u hu1 (by have := HLL.out; omega)
          rw [hz0] at z1
          have z1 := cellB z1 HB1.out
          have d1 : decide ((u : Int) < (pl.length : Int)) = true := by simp; omega
          have d2 : decide (u < pl.length) = true := by simp; omega
          have hul : u + 1 ≤ (tabOf r ks).L := by have := HLL.out; omega
          clear hz0
          go_wp2
          rename_i wr8
          go_roundw
          case rel => exact ⟨u + 1, by omega, hul, by go_num, HB1.out⟩
          case measure => simp [intOf]; omega
        · have d1 : decide ((u : Int) < (pl.length : Int)) = false := by simp; omega
          have d2 : decide (u < pl.length) = false := by simp; omega
          go_wp2
          go_ret
          exact ⟨rfl, HB1.out⟩
set_option maxRecDepth 100000 in
set_option maxHeartbeats 16000000 in
theorem ClipTight_any (v kv : Value) (bv : Value) (l : List Int) (r : RibD) (ks : List KindD) (w : World) (hv : RibAt w v r) (hk : KindsAt w kv ks) (hbv : U8At w bv l) (hl8 : ∀ x ∈ l, 0 ≤ x ∧ x ≤ 255) :
    Calls Try.prog 9 #[v, kv, bv] w fun e w' => e = .returned (.bool true) ∧ Below w.heap.size w w' := by
  obtain ⟨sv, rfl, hi⟩ := hv
  obtain ⟨sa, cap, rfl⟩ := hi.slice
  obtain ⟨ka, kcap, rfl⟩ := hk.slice
  obtain ⟨ba, bcap, rfl⟩ := hbv.slice
  have hB0 := below1 w (.cells #[.int .i64 r.len, .slice sa r.fs.length cap] 24)
  have HB := Lib.hid hB0
  have B0 := Lib.hid (Blk.new w (.cells #[.int .i64 r.len, .slice sa r.fs.length cap] 24))
  have HV := Lib.hid (show RibAt _ (.agg #[.int .i64 r.len, .slice sa r.fs.length cap]) r from ⟨_, rfl, hi.below hB0⟩)
  have HK := Lib.hid (hk.below hB0)
  have HBV := Lib.hid (hbv.below hB0)
  have HL8 := Lib.hid hl8
  clear hi hk hB0 hbv hl8
  by_cases hok : RibOk r ∧ KindsOk ks
  case neg =>
    have HN := Lib.hid hok
    clear hok
    go_enter Try.func9, Try.ntmps9
    go_wp2_with fail
    generalize w.alloc (.cells #[.int .i64 r.len, .slice sa r.fs.length cap] 24) = W0 at *
    refine (fine_no (.agg #[.int .i64 r.len, .slice sa r.fs.length cap]) (.slice ka ks.length kcap) r ks _ HV.out HK.out HN.out).mono ?_
    rintro e v1 ⟨rfl, hb⟩
    replace HV := Lib.hid (HV.out.below hb)
    replace HK := Lib.hid (HK.out.below hb)
    replace HBV := Lib.hid (HBV.out.below hb)
    replace B0 := Lib.hid (B0.out.below hb)
    replace HB := Lib.hid (bC HB.out hb)
    clear hb
    have B0c0 := B0.out.cell 0
    have B0c1 := B0.out.cell 1
    simp at B0c0 B0c1
    go_wp2_with fail
    clear B0c0 B0c1
    refine (Works_any _).mono ?_
    rintro e v2 ⟨rfl, hb⟩
    replace HV := Lib.hid (HV.out.below hb)
    replace HK := Lib.hid (HK.out.below hb)
    replace HBV := Lib.hid (HBV.out.below hb)
    replace B0 := Lib.hid (B0.out.below hb)
    replace HB := Lib.hid (bC HB.out hb)
    clear hb
    go_wp2
    go_ret
    exact ⟨rfl, HB.out⟩
  have HR := Lib.hid hok
  have hfc := hok.1.count
  have hk6 := hok.2.1.2
  have hL24 := hok.1.l2
  have hL1 := hok.1.l1
  clear hok
  by_cases q1 : 60 < l.length
  · have d1 : decide ((l.length : Int) > 60) = true := by simp; omega
    have d2 : decide ((60 : Int) < (l.length : Int)) = true := by simp; omega
    clear q1
    go_enter Try.func9, Try.ntmps9
    go_wp2_with fail
    generalize w.alloc (.cells #[.int .i64 r.len, .slice sa r.fs.length cap] 24) = W0 at *
    refine (fine_yes (.agg #[.int .i64 r.len, .slice sa r.fs.length cap]) (.slice ka ks.length kcap) r ks _ HV.out HK.out HR.out.1 HR.out.2).mono ?_
    rintro e v1 ⟨rfl, hb⟩
    replace HV := Lib.hid (HV.out.below hb)
    replace HK := Lib.hid (HK.out.below hb)
    replace HBV := Lib.hid (HBV.out.below hb)
    replace B0 := Lib.hid (B0.out.below hb)
    replace HB := Lib.hid (bC HB.out hb)
    clear hb
    have B0c0 := B0.out.cell 0
    have B0c1 := B0.out.cell 1
    simp at B0c0 B0c1
    go_wp2_with fail
    clear B0c0 B0c1
    refine (Works_any _).mono ?_
    rintro e v2 ⟨rfl, hb⟩
    replace HV := Lib.hid (HV.out.below hb)
    replace HK := Lib.hid (HK.out.below hb)
    replace HBV := Lib.hid (HBV.out.below hb)
    replace B0 := Lib.hid (B0.out.below hb)
    replace HB := Lib.hid (bC HB.out hb)
    clear hb
    go_wp2
    go_ret
    exact ⟨rfl, HB.out⟩
  have d1 : decide ((l.length : Int) > 60) = false := by simp; omega
  have d2 : decide ((60 : Int) < (l.length : Int)) = false := by simp; omega
  obtain ⟨G1, G2, G3, G4, G5⟩ := given_facts HR.out.1 HR.out.2 l
  have hTok := tabOf_ok (r := r) (ks := ks) (by omega) HR.out.2
  have hfb := first_best hTok (tabOf r ks).L 0 (by omega)
  have HTC := Lib.hid (And.intro hfb.1 (best_tight hTok (Nat.zero_le _) (on_zero _) hfb))
  have hTG : wth (tabOf r ks) (givenF (tabOf r ks) l 0) = dn (tabOf r ks) 0 → _ := fun h => best_tight hTok (Nat.zero_le _) (on_zero _) ⟨G5, h⟩
  have hpl : (pricesL (tabOf r ks)).length = r.len.toNat := by simp only [pricesL, List.length_map, List.length_range]; rfl
  obtain ⟨gl, hgl⟩ : ∃ gl, intPs (givenF (tabOf r ks) l 0) = gl := ⟨_, rfl⟩
  obtain ⟨cl, hcl⟩ : ∃ cl, firstL (tabOf r ks) = cl := ⟨_, rfl⟩
  obtain ⟨pl, hpl2⟩ : ∃ pl, pricesL (tabOf r ks) = pl := ⟨_, rfl⟩
  obtain ⟨A, hA⟩ : ∃ A, wth (tabOf r ks) (givenF (tabOf r ks) l 0) = A := ⟨_, rfl⟩
  obtain ⟨D, hD⟩ : ∃ D, dn (tabOf r ks) 0 = D := ⟨_, rfl⟩
  rw [hA] at G2 G3 hTG
  rw [hgl] at G1 G2 G4
  rw [hD] at G3 hTG
  rw [hpl2] at hpl
  have lq1 : ((pl.length : Int) != r.len) = false := by simp; omega
  have lq2 : ((pl.length : Int) == r.len) = true := by simp; omega
  have HcC := Lib.hid (show (firstF (tabOf r ks) (tabOf r ks).L 0).map intP = cl from hcl)
  have HgG := Lib.hid (show (givenF (tabOf r ks) l 0).map intP = gl from hgl)
  have HD := Lib.hid hD
  have HG1 := Lib.hid G1
  have HG2 := Lib.hid G2
  have HG5 := Lib.hid G5
  have HGL := Lib.hid hgl
  have HCL := Lib.hid hcl
  have HPL := Lib.hid hpl2
  have HTG := Lib.hid hTG
  have hl60 : l.length ≤ 60 := by omega
  clear hgl hcl hpl2 hpl hA hD G1 G2 G5 q1 hTok hfb hTG
  by_cases he : A = D
  · subst he
    replace HTG := Lib.hid (HTG.out rfl)
    clear G3
    go_enter Try.func9, Try.ntmps9
    go_wp2_with fail
    generalize w.alloc (.cells #[.int .i64 r.len, .slice sa r.fs.length cap] 24) = W0 at *
    refine (fine_yes (.agg #[.int .i64 r.len, .slice sa r.fs.length cap]) (.slice ka ks.length kcap) r ks _ HV.out HK.out HR.out.1 HR.out.2).mono ?_
    rintro e v1 ⟨rfl, hb⟩
    replace HV := Lib.hid (HV.out.below hb)
    replace HK := Lib.hid (HK.out.below hb)
    replace HBV := Lib.hid (HBV.out.below hb)
    replace B0 := Lib.hid (B0.out.below hb)
    replace HB := Lib.hid (bC HB.out hb)
    clear hb
    have B0c0 := B0.out.cell 0
    have B0c1 := B0.out.cell 1
    simp at B0c0 B0c1
    go_wp2_with fail
    clear B0c0 B0c1
    refine (best_any (.agg #[.int .i64 r.len, .slice sa r.fs.length cap]) (.slice ka ks.length kcap) r ks _ HV.out HK.out HR.out.1 HR.out.2).mono ?_
    rintro e v2 ⟨vb, rfl, hp, hb⟩
    replace HV := Lib.hid (HV.out.below hb)
    replace HK := Lib.hid (HK.out.below hb)
    replace HBV := Lib.hid (HBV.out.below hb)
    replace B0 := Lib.hid (B0.out.below hb)
    replace HB := Lib.hid (bC HB.out hb)
    clear hb
    rw [HCL.out] at hp
    obtain ⟨ya, yc, rfl⟩ := hp.slice
    have HY := Lib.hid hp
    clear hp
    rw [HD.out]
    have B0c0 := B0.out.cell 0
    have B0c1 := B0.out.cell 1
    simp at B0c0 B0c1
    go_wp2_with fail
    clear B0c0 B0c1
    refine (Prices_ok (.agg #[.int .i64 r.len, .slice sa r.fs.length cap]) (.slice ka ks.length kcap) r ks _ HV.out HK.out HR.out.1 HR.out.2).mono ?_
    rintro e v3 ⟨vp, rfl, hp, hb⟩
    replace HV := Lib.hid (HV.out.below hb)
    replace HK := Lib.hid (HK.out.below hb)
    replace HBV := Lib.hid (HBV.out.below hb)
    replace HY := Lib.hid (HY.out.below hb)
    replace B0 := Lib.hid (B0.out.below hb)
    replace HB := Lib.hid (bC HB.out hb)
    clear hb
    rw [HPL.out] at hp
    obtain ⟨pa, pc, rfl⟩ := hp.slice
    have HPP := Lib.hid hp
    clear hp
    have B0c0 := B0.out.cell 0
    have B0c1 := B0.out.cell 1
    simp at B0c0 B0c1
    go_wp2_with fail
    clear B0c0 B0c1
    refine (tight_ok (.slice ka ks.length kcap) _ _ r ks (firstF (tabOf r ks) (tabOf r ks).L 0) _ HK.out (by rw [HcC.out]; exact HY.out) (by rw [HPL.out]; exact HPP.out) HR.out.1 HR.out.2 HTC.out.1 HTC.out.2).mono ?_
    rintro e v4 ⟨rfl, hb⟩
    replace HV := Lib.hid (HV.out.below hb)
    replace HK := Lib.hid (HK.out.below hb)
    replace HBV := Lib.hid (HBV.out.below hb)
    replace HY := Lib.hid (HY.out.below hb)
    replace HPP := Lib.hid (HPP.out.below hb)
    replace B0 := Lib.hid (B0.out.below hb)
    replace HB := Lib.hid (bC HB.out hb)
    clear hb
    have B0c0 := B0.out.cell 0
    have B0c1 := B0.out.cell 1
    simp at B0c0 B0c1
    go_wp2_with fail
    clear B0c0 B0c1
    refine (Given_any (.agg #[.int .i64 r.len, .slice sa r.fs.length cap]) (.slice ka ks.length kcap) (.slice ba l.length bcap) r ks l _ HV.out HK.out HBV.out HL8.out hl60 HR.out.1 HR.out.2).mono ?_
    rintro e v5 ⟨vg, rfl, hp, hb⟩
    replace HV := Lib.hid (HV.out.below hb)
    replace HK := Lib.hid (HK.out.below hb)
    replace HBV := Lib.hid (HBV.out.below hb)
    replace HY := Lib.hid (HY.out.below hb)
    replace HPP := Lib.hid (HPP.out.below hb)
    replace B0 := Lib.hid (B0.out.below hb)
    replace HB := Lib.hid (bC HB.out hb)
    clear hb
    rw [HGL.out] at hp
    obtain ⟨ga, gc, rfl⟩ := hp.slice
    have HGV := Lib.hid hp
    clear hp
    have B0c0 := B0.out.cell 0
    have B0c1 := B0.out.cell 1
    simp at B0c0 B0c1
    go_wp2_with fail
    clear B0c0 B0c1
    refine (CheckCuts_ok (.agg #[.int .i64 r.len, .slice sa r.fs.length cap]) (.slice ka ks.length kcap) r ks _ gl _ HV.out HK.out HGV.out G4 HR.out.1 HR.out.2).mono ?_
    rintro e v6 ⟨rfl, hb⟩
    replace HV := Lib.hid (HV.out.below hb)
    replace HK := Lib.hid (HK.out.below hb)
    replace HBV := Lib.hid (HBV.out.below hb)
    replace HY := Lib.hid (HY.out.below hb)
    replace HPP := Lib.hid (HPP.out.below hb)
    replace HGV := Lib.hid (HGV.out.below hb)
    replace B0 := Lib.hid (B0.out.below hb)
    replace HB := Lib.hid (bC HB.out hb)
    clear hb
    rw [HG1.out, HG2.out]
    have B0c0 := B0.out.cell 0
    have B0c1 := B0.out.cell 1
    simp at B0c0 B0c1
    go_wp2_with fail
    clear B0c0 B0c1
    refine (tight_ok (.slice ka ks.length kcap) _ _ r ks (givenF (tabOf r ks) l 0) _ HK.out (by rw [HgG.out]; exact HGV.out) (by rw [HPL.out]; exact HPP.out) HR.out.1 HR.out.2 HG5.out HTG.out).mono ?_
    rintro e v7 ⟨rfl, hb⟩
    replace HV := Lib.hid (HV.out.below hb)
    replace HK := Lib.hid (HK.out.below hb)
    replace HBV := Lib.hid (HBV.out.below hb)
    replace HY := Lib.hid (HY.out.below hb)
    replace HPP := Lib.hid (HPP.out.below hb)
    replace HGV := Lib.hid (HGV.out.below hb)
    replace B0 := Lib.hid (B0.out.below hb)
    replace HB := Lib.hid (bC HB.out hb)
    clear hb
    have B0c0 := B0.out.cell 0
    have B0c1 := B0.out.cell 1
    simp at B0c0 B0c1
    go_wp2_with fail
    clear B0c0 B0c1
    refine (Works_any _).mono ?_
    rintro e v8 ⟨rfl, hb⟩
    replace HV := Lib.hid (HV.out.below hb)
    replace HK := Lib.hid (HK.out.below hb)
    replace HBV := Lib.hid (HBV.out.below hb)
    replace HY := Lib.hid (HY.out.below hb)
    replace HPP := Lib.hid (HPP.out.below hb)
    replace HGV := Lib.hid (HGV.out.below hb)
    replace B0 := Lib.hid (B0.out.below hb)
    replace HB := Lib.hid (bC HB.out hb)
    clear hb
    go_wp2
    go_ret
    exact ⟨rfl, HB.out⟩
  · have he' : (A != D) = true := by simpa using he
    clear he G3
    go_enter Try.func9, Try.ntmps9
    go_wp2_with fail
    generalize w.alloc (.cells #[.int .i64 r.len, .slice sa r.fs.length cap] 24) = W0 at *
    refine (fine_yes (.agg #[.int .i64 r.len, .slice sa r.fs.length cap]) (.slice ka ks.length kcap) r ks _ HV.out HK.out HR.out.1 HR.out.2).mono ?_
    rintro e v1 ⟨rfl, hb⟩
    replace HV := Lib.hid (HV.out.below hb)
    replace HK := Lib.hid (HK.out.below hb)
    replace HBV := Lib.hid (HBV.out.below hb)
    replace B0 := Lib.hid (B0.out.below hb)
    replace HB := Lib.hid (bC HB.out hb)
    clear hb
    have B0c0 := B0.out.cell 0
    have B0c1 := B0.out.cell 1
    simp at B0c0 B0c1
    go_wp2_with fail
    clear B0c0 B0c1
    refine (best_any (.agg #[.int .i64 r.len, .slice sa r.fs.length cap]) (.slice ka ks.length kcap) r ks _ HV.out HK.out HR.out.1 HR.out.2).mono ?_
    rintro e v2 ⟨vb, rfl, hp, hb⟩
    replace HV := Lib.hid (HV.out.below hb)
    replace HK := Lib.hid (HK.out.below hb)
    replace HBV := Lib.hid (HBV.out.below hb)
    replace B0 := Lib.hid (B0.out.below hb)
    replace HB := Lib.hid (bC HB.out hb)
    clear hb
    rw [HCL.out] at hp
    obtain ⟨ya, yc, rfl⟩ := hp.slice
    have HY := Lib.hid hp
    clear hp
    rw [HD.out]
    have B0c0 := B0.out.cell 0
    have B0c1 := B0.out.cell 1
    simp at B0c0 B0c1
    go_wp2_with fail
    clear B0c0 B0c1
    refine (Prices_ok (.agg #[.int .i64 r.len, .slice sa r.fs.length cap]) (.slice ka ks.length kcap) r ks _ HV.out HK.out HR.out.1 HR.out.2).mono ?_
    rintro e v3 ⟨vp, rfl, hp, hb⟩
    replace HV := Lib.hid (HV.out.below hb)
    replace HK := Lib.hid (HK.out.below hb)
    replace HBV := Lib.hid (HBV.out.below hb)
    replace HY := Lib.hid (HY.out.below hb)
    replace B0 := Lib.hid (B0.out.below hb)
    replace HB := Lib.hid (bC HB.out hb)
    clear hb
    rw [HPL.out] at hp
    obtain ⟨pa, pc, rfl⟩ := hp.slice
    have HPP := Lib.hid hp
    clear hp
    have B0c0 := B0.out.cell 0
    have B0c1 := B0.out.cell 1
    simp at B0c0 B0c1
    go_wp2_with fail
    clear B0c0 B0c1
    refine (tight_ok (.slice ka ks.length kcap) _ _ r ks (firstF (tabOf r ks) (tabOf r ks).L 0) _ HK.out (by rw [HcC.out]; exact HY.out) (by rw [HPL.out]; exact HPP.out) HR.out.1 HR.out.2 HTC.out.1 HTC.out.2).mono ?_
    rintro e v4 ⟨rfl, hb⟩
    replace HV := Lib.hid (HV.out.below hb)
    replace HK := Lib.hid (HK.out.below hb)
    replace HBV := Lib.hid (HBV.out.below hb)
    replace HY := Lib.hid (HY.out.below hb)
    replace HPP := Lib.hid (HPP.out.below hb)
    replace B0 := Lib.hid (B0.out.below hb)
    replace HB := Lib.hid (bC HB.out hb)
    clear hb
    have B0c0 := B0.out.cell 0
    have B0c1 := B0.out.cell 1
    simp at B0c0 B0c1
    go_wp2_with fail
    clear B0c0 B0c1
    refine (Given_any (.agg #[.int .i64 r.len, .slice sa r.fs.length cap]) (.slice ka ks.length kcap) (.slice ba l.length bcap) r ks l _ HV.out HK.out HBV.out HL8.out hl60 HR.out.1 HR.out.2).mono ?_
    rintro e v5 ⟨vg, rfl, hp, hb⟩
    replace HV := Lib.hid (HV.out.below hb)
    replace HK := Lib.hid (HK.out.below hb)
    replace HBV := Lib.hid (HBV.out.below hb)
    replace HY := Lib.hid (HY.out.below hb)
    replace HPP := Lib.hid (HPP.out.below hb)
    replace B0 := Lib.hid (B0.out.below hb)
    replace HB := Lib.hid (bC HB.out hb)
    clear hb
    rw [HGL.out] at hp
    obtain ⟨ga, gc, rfl⟩ := hp.slice
    have HGV := Lib.hid hp
    clear hp
    have B0c0 := B0.out.cell 0
    have B0c1 := B0.out.cell 1
    simp at B0c0 B0c1
    go_wp2_with fail
    clear B0c0 B0c1
    refine (CheckCuts_ok (.agg #[.int .i64 r.len, .slice sa r.fs.length cap]) (.slice ka ks.length kcap) r ks _ gl _ HV.out HK.out HGV.out G4 HR.out.1 HR.out.2).mono ?_
    rintro e v6 ⟨rfl, hb⟩
    replace HV := Lib.hid (HV.out.below hb)
    replace HK := Lib.hid (HK.out.below hb)
    replace HBV := Lib.hid (HBV.out.below hb)
    replace HY := Lib.hid (HY.out.below hb)
    replace HPP := Lib.hid (HPP.out.below hb)
    replace HGV := Lib.hid (HGV.out.below hb)
    replace B0 := Lib.hid (B0.out.below hb)
    replace HB := Lib.hid (bC HB.out hb)
    clear hb
    rw [HG1.out, HG2.out]
    have B0c0 := B0.out.cell 0
    have B0c1 := B0.out.cell 1
    simp at B0c0 B0c1
    go_wp2_with fail
    clear B0c0 B0c1
    refine (Works_any _).mono ?_
    rintro e v7 ⟨rfl, hb⟩
    replace HV := Lib.hid (HV.out.below hb)
    replace HK := Lib.hid (HK.out.below hb)
    replace HBV := Lib.hid (HBV.out.below hb)
    replace HY := Lib.hid (HY.out.below hb)
    replace HPP := Lib.hid (HPP.out.below hb)
    replace HGV := Lib.hid (HGV.out.below hb)
    replace B0 := Lib.hid (B0.out.below hb)
    replace HB := Lib.hid (bC HB.out hb)
    clear hb
    go_wp2
    go_ret
    exact ⟨rfl, HB.out⟩
end Go.Proofs.Ytnkeikhkafbokaa
