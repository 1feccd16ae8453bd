import Derived.Test.YtemcodfjjdbieaaTa
namespace Go.Proofs.Ytemcodfjjdbieaa
open Go.RowKit Go.Vat Go.Sort Go.Shelf
attribute [local go_sem] Oper.semAt_some

/-! ## Hours counted back -/
theorem rev_get {B E : List Int} (hE : E = (B.map fun h => 100 - h).reverse) {i j : Nat} {a : Int} (h : E[i]? = some a) (hj : j + i + 1 = B.length) : B[j]? = some (100 - a) := by
  subst hE
  have hi : i < B.length := by omega
  rw [List.getElem?_reverse (by simpa using hi), List.length_map, List.getElem?_map] at h
  have e : B.length - 1 - i = j := by omega
  rw [e] at h
  obtain ⟨b, hb, rfl⟩ := Option.map_eq_some_iff.1 h
  rw [hb]
  congr 1
  omega
theorem early_bd {y : YardD} {i : Nat} {a : Int} (h : (earlyL y)[i]? = some a) : 0 ≤ a ∧ a ≤ 100 := by
  obtain ⟨h1, rfl⟩ := List.getElem?_eq_some_iff.1 h
  exact earlyL_bd h1
theorem early_rev (y : YardD) : earlyL y = ((lateL (back y)).map fun h => 100 - h).reverse := rfl
theorem early_len (y : YardD) : (earlyL y).length = (lateL (back y)).length := earlyL_len y
set_option maxRecDepth 100000 in
set_option maxHeartbeats 16000000 in
theorem SteamTurned_any (v : Value) (y : YardD) (w : World) (hv : YardAt w v y) :
    Calls Try.prog 10 #[v] w fun e w' => e = .returned (.bool true) ∧ Below w.heap.size w w' := by
  obtain ⟨sv, rfl, hp⟩ := hv
  obtain ⟨sa, cap, rfl⟩ := hp.slice
  have hB0 := below1 w (.cells #[.int .i64 y.load, .slice sa y.logs.length cap] 24)
  have B0 := Lib.hid (Blk.new w (.cells #[.int .i64 y.load, .slice sa y.logs.length cap] 24))
  have HB := Lib.hid hB0
  have HV := Lib.hid (show YardAt _ (.agg #[.int .i64 y.load, .slice sa y.logs.length cap]) y from ⟨_, rfl, hp.below hB0⟩)
  clear hp hB0
  by_cases hyd : y.Ok
  case neg =>
    go_enter Try.func10, Try.ntmps10
    go_wp2_with fail
    generalize w.alloc (.cells #[.int .i64 y.load, .slice sa y.logs.length cap] 24) = W0 at *
    refine (fine_no (.agg #[.int .i64 y.load, .slice sa y.logs.length cap]) y _ HV.out hyd).mono ?_
    rintro e v1 ⟨rfl, hb⟩
    replace HV := Lib.hid (HV.out.below hb)
    replace B0 := Lib.hid (B0.out.below hb)
    replace HB := Lib.hid (bC HB.out hb)
    clear hb
    have B0c0 := B0.out.cell 0
    have B0c1 := B0.out.cell 1
    simp at B0c0 B0c1
    go_wp2_with fail
    clear B0c0 B0c1
    refine (Works_any _).mono ?_
    rintro e v2 ⟨rfl, hb⟩
    replace HV := Lib.hid (HV.out.below hb)
    replace B0 := Lib.hid (B0.out.below hb)
    replace HB := Lib.hid (bC HB.out hb)
    clear hb
    go_wp2
    go_ret
    exact ⟨rfl, HB.out⟩
  have HYD := Lib.hid hyd
  have hl10 := hyd.count
  clear hyd
  go_enter Try.func10, Try.ntmps10
  go_wp2_with fail
  generalize w.alloc (.cells #[.int .i64 y.load, .slice sa y.logs.length cap] 24) = W0 at *
  refine (fine_yes (.agg #[.int .i64 y.load, .slice sa y.logs.length cap]) y _ HV.out HYD.out).mono ?_
  rintro e v1 ⟨rfl, hb⟩
  replace HV := Lib.hid (HV.out.below hb)
  replace B0 := Lib.hid (B0.out.below hb)
  replace HB := Lib.hid (bC HB.out hb)
  clear hb
  have B0c0 := B0.out.cell 0
  have B0c1 := B0.out.cell 1
  simp at B0c0 B0c1
  go_wp2_with fail
  clear B0c0 B0c1
  refine (rBack_any (.agg #[.int .i64 y.load, .slice sa y.logs.length cap]) y _ HV.out HYD.out).mono ?_
  rintro e v2 ⟨xv, rfl, hx, hb⟩
  replace HV := Lib.hid (HV.out.below hb)
  replace B0 := Lib.hid (B0.out.below hb)
  replace HB := Lib.hid (bC HB.out hb)
  clear hb
  have HZO := Lib.hid (back_ok HYD.out)
  have HUT := Lib.hid (U_turn HYD.out)
  have HER := Lib.hid (early_rev y)
  have HEN := Lib.hid (early_len y)
  have HEB := Lib.hid (fun (i : Nat) (a : Int) h => early_bd (y := y) (i := i) (a := a) h)
  have HU10 := Lib.hid (U_len HYD.out 101)
  have HEL := Lib.hid (earlyL_length HYD.out)
  obtain ⟨Z, hZ⟩ : ∃ Z, back y = Z := ⟨_, rfl⟩
  rw [hZ] at hx HZO HUT HER HEN
  clear hZ
  obtain ⟨BL, hBL⟩ : ∃ BL, lateL Z = BL := ⟨_, rfl⟩
  obtain ⟨EL, hEL⟩ : ∃ EL, earlyL y = EL := ⟨_, rfl⟩
  rw [hBL] at HER HEN
  rw [hEL] at HER HEN HEB HEL
  have HBE := Lib.hid hBL
  have HEE := Lib.hid hEL
  clear hBL hEL
  obtain ⟨xsv, rfl, hxp⟩ := hx
  obtain ⟨xa, xc, rfl⟩ := hxp.slice
  have HX := Lib.hid (show YardAt v2 (.agg #[.int .i64 Z.load, .slice xa Z.logs.length xc]) Z from ⟨_, rfl, hxp⟩)
  clear hxp
  obtain ⟨xn, hxn⟩ : ∃ n, Z.logs.length = n := ⟨_, rfl⟩
  obtain ⟨zl, hzl⟩ : ∃ n, Z.load = n := ⟨_, rfl⟩
  rw [hxn, hzl] at HX
  rw [hxn, hzl]
  clear hxn hzl
  have c0 := B0.out.cell 0
  have c1 := B0.out.cell 1
  simp at c0 c1
  have hb := below1 v2 (.cells #[.int .i64 zl, .slice xa xn xc] 24)
  have c2 := cellB c0 hb
  have c3 := cellB c1 hb
  have c4 := B0.out.lt
  have c5 : ¬ w.heap.size = v2.heap.size := by omega
  have BX := Lib.hid (Blk.new v2 (.cells #[.int .i64 zl, .slice xa xn xc] 24))
  replace HX := Lib.hid (HX.out.below hb)
  replace HV := Lib.hid (HV.out.below hb)
  replace B0 := Lib.hid (B0.out.below hb)
  replace HB := Lib.hid (bC HB.out hb)
  clear hb
  go_wp2_with fail
  clear c0 c1 c2 c3 c4 c5
  obtain ⟨bx, hbx⟩ : ∃ bx, v2.heap.size = bx := ⟨_, rfl⟩
  rw [hbx] at BX ⊢
  clear hbx
  generalize v2.alloc (.cells #[.int .i64 zl, .slice xa xn xc] 24) = v3 at *
  have B0c0 := B0.out.cell 0
  have B0c1 := B0.out.cell 1
  have BXc0 := BX.out.cell 0
  have BXc1 := BX.out.cell 1
  simp at B0c0 B0c1 BXc0 BXc1
  go_wp2_with fail
  clear B0c0 B0c1 BXc0 BXc1
  refine (fewest_law (.agg #[.int .i64 y.load, .slice sa y.logs.length cap]) y _ HV.out HYD.out).mono ?_
  rintro e v4 ⟨vh1, xs1, rfl, hi0, hf0, hn0, hb⟩
  replace HV := Lib.hid (HV.out.below hb)
  replace HX := Lib.hid (HX.out.below hb)
  replace B0 := Lib.hid (B0.out.below hb)
  replace BX := Lib.hid (BX.out.below hb)
  replace HB := Lib.hid (bC HB.out hb)
  clear hb
  clear hi0 hf0 hn0
  obtain ⟨F, hF⟩ : ∃ F, U y 101 = F := ⟨_, rfl⟩
  rw [hF] at HUT HU10 HEL ⊢
  clear hF
  have B0c0 := B0.out.cell 0
  have B0c1 := B0.out.cell 1
  have BXc0 := BX.out.cell 0
  have BXc1 := BX.out.cell 1
  simp at B0c0 B0c1 BXc0 BXc1
  go_wp2_with fail
  clear B0c0 B0c1 BXc0 BXc1
  refine (fewest_law (.agg #[.int .i64 zl, .slice xa xn xc]) Z _ HX.out HZO.out).mono ?_
  rintro e v5 ⟨vh2, xs2, rfl, hi0, hf0, hn0, hb⟩
  replace HV := Lib.hid (HV.out.below hb)
  replace HX := Lib.hid (HX.out.below hb)
  replace B0 := Lib.hid (B0.out.below hb)
  replace BX := Lib.hid (BX.out.below hb)
  replace HB := Lib.hid (bC HB.out hb)
  clear hb
  clear hi0 hf0 hn0
  rw [HUT.out]
  have B0c0 := B0.out.cell 0
  have B0c1 := B0.out.cell 1
  have BXc0 := BX.out.cell 0
  have BXc1 := BX.out.cell 1
  simp at B0c0 B0c1 BXc0 BXc1
  go_wp2_with fail
  clear B0c0 B0c1 BXc0 BXc1
  refine (Early_ok (.agg #[.int .i64 y.load, .slice sa y.logs.length cap]) y _ HV.out HYD.out).mono ?_
  rintro e v6 ⟨vv, rfl, hi, hb⟩
  replace HV := Lib.hid (HV.out.below hb)
  replace HX := Lib.hid (HX.out.below hb)
  replace B0 := Lib.hid (B0.out.below hb)
  replace BX := Lib.hid (BX.out.below hb)
  replace HB := Lib.hid (bC HB.out hb)
  clear hb
  rw [HEE.out] at hi
  obtain ⟨ea, eac, rfl⟩ := hi.slice
  have HI0 := Lib.hid hi
  clear hi
  have B0c0 := B0.out.cell 0
  have B0c1 := B0.out.cell 1
  have BXc0 := BX.out.cell 0
  have BXc1 := BX.out.cell 1
  simp at B0c0 B0c1 BXc0 BXc1
  go_wp2_with fail
  clear B0c0 B0c1 BXc0 BXc1
  refine (Late_ok (.agg #[.int .i64 zl, .slice xa xn xc]) Z _ HX.out HZO.out).mono ?_
  rintro e v7 ⟨vv, rfl, hi, hb⟩
  replace HV := Lib.hid (HV.out.below hb)
  replace HX := Lib.hid (HX.out.below hb)
  replace HI0 := Lib.hid (HI0.out.below hb)
  replace B0 := Lib.hid (B0.out.below hb)
  replace BX := Lib.hid (BX.out.below hb)
  replace HB := Lib.hid (bC HB.out hb)
  clear hb
  rw [HBE.out] at hi
  obtain ⟨ba, bac, rfl⟩ := hi.slice
  have HI1 := Lib.hid hi
  clear hi
  have hel10 : EL.length ≤ 10 := by have := HEL.out; have := HU10.out; omega
  have hbl10 : BL.length ≤ 10 := by have := HEN.out; omega
  have d1 : ((EL.length : Int) != (BL.length : Int)) = false := by rw [HEN.out]; simp
  have d2 : decide ((EL.length : Int) = (BL.length : Int)) = true := by rw [HEN.out]; simp
  have d2' : decide (EL.length = BL.length) = true := by rw [HEN.out]; simp
  have d2'' : (EL.length != BL.length) = false := by rw [HEN.out]; simp
  have B0c0 := B0.out.cell 0
  have B0c1 := B0.out.cell 1
  have BXc0 := BX.out.cell 0
  have BXc1 := BX.out.cell 1
  simp at B0c0 B0c1 BXc0 BXc1
  go_wp2_with fail
  clear B0c0 B0c1 BXc0 BXc1
  clear d1 d2 d2' d2''
  go_loopw [14] (fun s wr => ∃ i : Nat, i ≤ EL.length ∧ s = .int .i64 i ∧ Below v7.heap.size v7 wr) (fun s _ => EL.length - (intOf s).toNat)
  case atStart => exact ⟨0, Nat.zero_le _, rfl, Below.refl _ _⟩
  case round =>
    obtain ⟨i, hi, rfl, hbw⟩ := hrel
    have HBW := Lib.hid hbw
    clear hbw
    by_cases hit : i < EL.length
    · obtain ⟨j, hj⟩ : ∃ j, j + i + 1 = BL.length := ⟨BL.length - 1 - i, by have := HEN.out; omega⟩
      have k2 : j < BL.length := by omega
      obtain ⟨b1, o1, c1, e, x1⟩ := (HI0.out.below HBW.out).get i hit
      cases e
      obtain ⟨b2, o2, c2, e, x2⟩ := (HI1.out.below HBW.out).get j k2
      cases e
      obtain ⟨q1, q2⟩ := HEB.out i _ (List.getElem?_eq_getElem (l := EL) (i := i) hit)
      have q3 := rev_get HER.out (List.getElem?_eq_getElem (l := EL) (i := i) hit) hj
      rw [List.getElem?_eq_getElem (l := BL) (i := j) k2] at q3
      obtain ⟨a, ha⟩ : ∃ a, EL[i] = a := ⟨_, rfl⟩
      rw [ha] at x1 q1 q2 q3
      rw [Option.some.inj q3] at x2
      obtain ⟨P, hP⟩ : ∃ P : Int, (BL.length : Int) - 1 = P := ⟨_, rfl⟩
      have w1 : IntKind.i64.wrap ((BL.length : Int) - 1) = P := by rw [hP]; exact IntWalk.i64_in _ (by omega)
      have w2 : IntKind.i64.wrap (P - (i : Int)) = (j : Int) := by rw [show P - (i : Int) = (j : Int) by omega]; exact IntWalk.i64_in _ (by omega)
      have w3 : IntKind.i64.wrap (100 - a) = 100 - a := IntWalk.i64_in _ (by omega)
      have d3 : decide (a < 0) = false := decide_eq_false (by omega)
      have d4 : decide (a > 100) = false := decide_eq_false (by omega)
      have d5 : decide (100 < a) = false := decide_eq_false (by omega)
      have j0 : (i : Int) < (EL.length : Int) := by omega
      have j1 : (j : Int) < (BL.length : Int) := by omega
      have g1 := fun d os => cell_regrown x1 d os
      have g2 := fun d os => cell_regrown x2 d os
      clear x1 x2 hP q1 q2 q3 ha hj
      go_wp2_with fail
      refine wp_region_quiet_below (by kernel_rfl) (by kernel_rfl) ?_
      repeat (with_reducible refine wpQuiet_step (fun K hK => ?_); go_simp; with_reducible refine hK _ ?_; clear hK K)
      refine wpQuiet_nil ?_
      intro _ hw'
      obtain ⟨⟨dq, osq⟩, hw''⟩ := hw'
      subst hw''
      have HB9 := Lib.hid (bC HBW.out (below_regrown wr dq osq))
      clear g1 g2
      generalize grow (redrawn wr dq) osq = w9 at *
      go_wp2
      go_roundw
      case rel => exact ⟨i + 1, by omega, by go_num, HB9.out⟩
      case measure => simp [intOf] <;> omega
    · obtain rfl : i = EL.length := by omega
      go_wp2_with fail
      refine (Works_any _).mono ?_
      rintro e vq ⟨rfl, hb⟩
      have HBQ := Lib.hid (bC (bC HB.out HBW.out) hb)
      clear hb
      go_wp2
      go_ret
      exact ⟨rfl, HBQ.out⟩
end Go.Proofs.Ytemcodfjjdbieaa
