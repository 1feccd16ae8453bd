import Derived.Test.YtjbeoakikdkdaaaTb
namespace Go.Proofs.Ytjbeoakikdkdaaa
open Go.RowKit Go.Vat Go.Sort Go.Shelf
attribute [local go_sem] Oper.semAt_some

/-! ## Early and late loads, and loads between them -/
theorem srt {L : List Int} (h : ∀ i j (hij : i ≤ j) (h : j < L.length), L[i]'(Nat.lt_of_le_of_lt hij h) ≤ L[j]'h) : ∀ (i j : Nat) (a b : Int), i ≤ j → L[i]? = some a → L[j]? = some b → a ≤ b := by
  intro i j a b hij ha hb
  obtain ⟨h2, rfl⟩ := List.getElem?_eq_some_iff.1 hb
  obtain ⟨h1, rfl⟩ := List.getElem?_eq_some_iff.1 ha
  exact h i j hij h2
theorem sorted_e (y : YardD) : ∀ (i j : Nat) (a b : Int), i ≤ j → (earlyL y)[i]? = some a → (earlyL y)[j]? = some b → a ≤ b := srt fun _ _ hij h => earlyL_sorted hij h
theorem sorted_l (y : YardD) : ∀ (i j : Nat) (a b : Int), i ≤ j → (lateL y)[i]? = some a → (lateL y)[j]? = some b → a ≤ b := srt fun _ _ hij h => lateL_sorted hij h
theorem len_of {α : Type} {l : List α} {F : Int} (h : (l.length : Int) = F) {k : List α} (h' : (k.length : Int) = F) : l.length = k.length := by omega
set_option maxRecDepth 100000 in
set_option maxHeartbeats 16000000 in
theorem SteamOrder_any (v : Value) (uv : Value) (us : List Int) (y : YardD) (w : World) (hv : YardAt w v y) (hu : U8At w uv us) (hr : ∀ x ∈ us, 0 ≤ x ∧ x ≤ 255) :
    Calls Try.prog 8 #[v, uv] w fun e w' => e = .returned (.bool true) ∧ Below w.heap.size w w' := by
  obtain ⟨sv, rfl, hp⟩ := hv
  obtain ⟨sa, cap, rfl⟩ := hp.slice
  obtain ⟨ua, uc, rfl⟩ := hu.slice
  have hB0 := below1 w (.cells #[.int .i64 y.load, .slice sa y.logs.length cap] 24)
  have B0 := Lib.hid (Blk.new w (.cells #[.int .i64 y.load, .slice sa y.logs.length cap] 24))
  have HB := Lib.hid hB0
  have HV := Lib.hid (show YardAt _ (.agg #[.int .i64 y.load, .slice sa y.logs.length cap]) y from ⟨_, rfl, hp.below hB0⟩)
  have HU := Lib.hid (hu.below hB0)
  clear hp hB0 hu
  by_cases hyd : y.Ok
  case neg =>
    go_enter Try.func8, Try.ntmps8
    go_wp2_with fail
    generalize w.alloc (.cells #[.int .i64 y.load, .slice sa y.logs.length cap] 24) = W0 at *
    refine (fine_no (.agg #[.int .i64 y.load, .slice sa y.logs.length cap]) y _ HV.out hyd).mono ?_
    rintro e v1 ⟨rfl, hb⟩
    replace HV := Lib.hid (HV.out.below hb)
    replace HU := Lib.hid (HU.out.below hb)
    replace B0 := Lib.hid (B0.out.below hb)
    replace HB := Lib.hid (bC HB.out hb)
    clear hb
    have B0c0 := B0.out.cell 0
    have B0c1 := B0.out.cell 1
    simp at B0c0 B0c1
    go_wp2_with fail
    clear B0c0 B0c1
    refine (Works_any _).mono ?_
    rintro e v2 ⟨rfl, hb⟩
    replace HV := Lib.hid (HV.out.below hb)
    replace HU := Lib.hid (HU.out.below hb)
    replace B0 := Lib.hid (B0.out.below hb)
    replace HB := Lib.hid (bC HB.out hb)
    clear hb
    go_wp2
    go_ret
    exact ⟨rfl, HB.out⟩
  have HYD := Lib.hid hyd
  have hl10 := hyd.count
  clear hyd
  by_cases hls : 20 < us.length
  · have g01 : decide ((us.length : Int) > 20) = true := decide_eq_true (by omega)
    have g02 : decide ((20 : Int) < (us.length : Int)) = true := decide_eq_true (by omega)
    clear hls
    go_enter Try.func8, Try.ntmps8
    go_wp2_with fail
    generalize w.alloc (.cells #[.int .i64 y.load, .slice sa y.logs.length cap] 24) = W0 at *
    refine (fine_yes (.agg #[.int .i64 y.load, .slice sa y.logs.length cap]) y _ HV.out HYD.out).mono ?_
    rintro e v1 ⟨rfl, hb⟩
    replace HV := Lib.hid (HV.out.below hb)
    replace HU := Lib.hid (HU.out.below hb)
    replace B0 := Lib.hid (B0.out.below hb)
    replace HB := Lib.hid (bC HB.out hb)
    clear hb
    have B0c0 := B0.out.cell 0
    have B0c1 := B0.out.cell 1
    simp at B0c0 B0c1
    go_wp2_with fail
    clear B0c0 B0c1
    refine (Works_any _).mono ?_
    rintro e v2 ⟨rfl, hb⟩
    replace HV := Lib.hid (HV.out.below hb)
    replace HU := Lib.hid (HU.out.below hb)
    replace B0 := Lib.hid (B0.out.below hb)
    replace HB := Lib.hid (bC HB.out hb)
    clear hb
    go_wp2
    go_ret
    exact ⟨rfl, HB.out⟩
  have g01 : decide ((us.length : Int) > 20) = false := decide_eq_false (by omega)
  have g02 : decide ((20 : Int) < (us.length : Int)) = false := decide_eq_false (by omega)
  go_enter Try.func8, Try.ntmps8
  go_wp2_with fail
  generalize w.alloc (.cells #[.int .i64 y.load, .slice sa y.logs.length cap] 24) = W0 at *
  refine (fine_yes (.agg #[.int .i64 y.load, .slice sa y.logs.length cap]) y _ HV.out HYD.out).mono ?_
  rintro e v1 ⟨rfl, hb⟩
  replace HV := Lib.hid (HV.out.below hb)
  replace HU := Lib.hid (HU.out.below hb)
  replace B0 := Lib.hid (B0.out.below hb)
  replace HB := Lib.hid (bC HB.out hb)
  clear hb
  have B0c0 := B0.out.cell 0
  have B0c1 := B0.out.cell 1
  simp at B0c0 B0c1
  go_wp2_with fail
  clear B0c0 B0c1
  refine (fewest_law (.agg #[.int .i64 y.load, .slice sa y.logs.length cap]) y _ HV.out HYD.out).mono ?_
  rintro e v2 ⟨vh, xs, rfl, hi, hf, hn, hb⟩
  replace HV := Lib.hid (HV.out.below hb)
  replace HU := Lib.hid (HU.out.below hb)
  replace B0 := Lib.hid (B0.out.below hb)
  replace HB := Lib.hid (bC HB.out hb)
  clear hb
  obtain ⟨ha, hc, rfl⟩ := hi.slice
  have HH := Lib.hid hi
  have hxl := fit_length hf
  have HF1 := Lib.hid (fun (i : Nat) (a x b : Int) h1 h2 h3 => order_between HYD.out hf hn (i := i) (a := a) (x := x) (b := b) h1 h2 h3)
  have HL1 := Lib.hid (show ((orderL y xs).length : Int) = U y 101 by rw [orderL_length HYD.out, hn])
  have hx10 : xs.length ≤ 10 := by omega
  have HU10 := Lib.hid (U_len HYD.out 101)
  have HEL := Lib.hid (earlyL_length HYD.out)
  have HLL := Lib.hid (lateL_length y)
  have HES := Lib.hid (sorted_e y)
  have HLS := Lib.hid (sorted_l y)
  have HF2 := Lib.hid (fun zs (hf : fit zs y.logs) (hn : N y.load zs 101 = U y 101) (i : Nat) (a x b : Int) h1 h2 h3 => order_between HYD.out hf hn (i := i) (a := a) (x := x) (b := b) h1 h2 h3)
  have HL2 := Lib.hid (fun zs (hn : N y.load zs 101 = U y 101) => (show ((orderL y zs).length : Int) = U y 101 by rw [orderL_length HYD.out, hn]))
  clear hi hf hn hxl
  obtain ⟨F, hF⟩ : ∃ F, U y 101 = F := ⟨_, rfl⟩
  obtain ⟨EL, hE⟩ : ∃ EL, earlyL y = EL := ⟨_, rfl⟩
  obtain ⟨LT, hL⟩ : ∃ LT, lateL y = LT := ⟨_, rfl⟩
  rw [hF] at HL1 HEL HLL HF2 HL2 HU10 ⊢
  rw [hE] at HEL HES HF1 HF2
  rw [hL] at HLL HLS HF1 HF2
  have HEE := Lib.hid hE
  have hel10 : EL.length ≤ 10 := by have := HEL.out; have := HU10.out; omega
  have HLE := Lib.hid hL
  clear hF hE hL
  have B0c0 := B0.out.cell 0
  have B0c1 := B0.out.cell 1
  simp at B0c0 B0c1
  go_wp2_with fail
  clear B0c0 B0c1
  refine (Early_ok (.agg #[.int .i64 y.load, .slice sa y.logs.length cap]) y _ HV.out HYD.out).mono ?_
  rintro e v3 ⟨vv, rfl, hi, hb⟩
  replace HV := Lib.hid (HV.out.below hb)
  replace HU := Lib.hid (HU.out.below hb)
  replace HH := Lib.hid (HH.out.below hb)
  replace B0 := Lib.hid (B0.out.below hb)
  replace HB := Lib.hid (bC HB.out hb)
  clear hb
  rw [HEE.out] at hi
  obtain ⟨ea, eac, rfl⟩ := hi.slice
  have HI0 := Lib.hid hi
  clear hi
  have B0c0 := B0.out.cell 0
  have B0c1 := B0.out.cell 1
  simp at B0c0 B0c1
  go_wp2_with fail
  clear B0c0 B0c1
  refine (Late_ok (.agg #[.int .i64 y.load, .slice sa y.logs.length cap]) y _ HV.out HYD.out).mono ?_
  rintro e v4 ⟨vv, rfl, hi, hb⟩
  replace HV := Lib.hid (HV.out.below hb)
  replace HU := Lib.hid (HU.out.below hb)
  replace HH := Lib.hid (HH.out.below hb)
  replace HI0 := Lib.hid (HI0.out.below hb)
  replace B0 := Lib.hid (B0.out.below hb)
  replace HB := Lib.hid (bC HB.out hb)
  clear hb
  rw [HLE.out] at hi
  obtain ⟨la, lac, rfl⟩ := hi.slice
  have HI1 := Lib.hid hi
  clear hi
  have hq1 := HEL.out
  have hq2 := HLL.out
  have d11 : ((EL.length : Int) != F) = false := by simp only [bne_eq_false_iff_eq]; omega
  have d12 : decide ((EL.length : Int) = F) = true := decide_eq_true (by omega)
  have d21 : ((LT.length : Int) != F) = false := by simp only [bne_eq_false_iff_eq]; omega
  have d22 : decide ((LT.length : Int) = F) = true := decide_eq_true (by omega)
  clear hq1 hq2
  have B0c0 := B0.out.cell 0
  have B0c1 := B0.out.cell 1
  simp at B0c0 B0c1
  go_wp2_with fail
  clear B0c0 B0c1
  refine (Chosen_any (.agg #[.int .i64 y.load, .slice sa y.logs.length cap]) (.slice ua us.length uc) us y _ HV.out HU.out hr HYD.out).mono ?_
  rintro e v5 ⟨vz, zs, rfl, hi, hf, hb⟩
  replace HV := Lib.hid (HV.out.below hb)
  replace HU := Lib.hid (HU.out.below hb)
  replace HH := Lib.hid (HH.out.below hb)
  replace HI0 := Lib.hid (HI0.out.below hb)
  replace HI1 := Lib.hid (HI1.out.below hb)
  replace B0 := Lib.hid (B0.out.below hb)
  replace HB := Lib.hid (bC HB.out hb)
  clear hb
  obtain ⟨za, zc, rfl⟩ := hi.slice
  have HZ := Lib.hid hi
  obtain ⟨e1, e2⟩ := hours_of HYD.out hf
  have hzl := fit_length hf
  have hz10 : zs.length ≤ 10 := by omega
  replace HF2 := Lib.hid (HF2.out zs hf)
  replace HL2 := Lib.hid (HL2.out zs)
  obtain ⟨A, hA⟩ : ∃ A, N y.load zs 101 = A := ⟨_, rfl⟩
  rw [hA] at e2 HF2 HL2
  have HE := Lib.hid (And.intro e1 e2)
  clear hf hA e1 e2 hi hzl
  have B0c0 := B0.out.cell 0
  have B0c1 := B0.out.cell 1
  simp at B0c0 B0c1
  go_wp2_with fail
  clear B0c0 B0c1
  refine (CheckHours_ok (.agg #[.int .i64 y.load, .slice sa y.logs.length cap]) (.slice za zs.length zc) y zs _ HV.out HYD.out HZ.out).mono ?_
  rintro e v6 ⟨rfl, hb⟩
  replace HV := Lib.hid (HV.out.below hb)
  replace HU := Lib.hid (HU.out.below hb)
  replace HH := Lib.hid (HH.out.below hb)
  replace HI0 := Lib.hid (HI0.out.below hb)
  replace HI1 := Lib.hid (HI1.out.below hb)
  replace HZ := Lib.hid (HZ.out.below hb)
  replace B0 := Lib.hid (B0.out.below hb)
  replace HB := Lib.hid (bC HB.out hb)
  clear hb
  rw [HE.out.1, HE.out.2]
  have B0c0 := B0.out.cell 0
  have B0c1 := B0.out.cell 1
  simp at B0c0 B0c1
  go_wp2_with fail
  clear B0c0 B0c1
  have B0c0 := B0.out.cell 0
  have B0c1 := B0.out.cell 1
  simp at B0c0 B0c1
  have y0 : v6.drew.cell? ⟨w.heap.size, 0, none⟩ = some (.int .i64 y.load) := B0c0
  have y1 : v6.drew.cell? ⟨w.heap.size, 1, none⟩ = some (.slice sa y.logs.length cap) := B0c1
  have hvw : YardAt v6.drew (.agg #[.int .i64 y.load, .slice sa y.logs.length cap]) y := HV.out.below ((Below.refl _ _).drew)
  have hhw : IntsAt v6.drew (.slice ha xs.length hc) xs := HH.out.below ((Below.refl _ _).drew)
  have hzw : IntsAt v6.drew (.slice za zs.length zc) zs := HZ.out.below ((Below.refl _ _).drew)
  have ew : IntsAt v6.drew (.slice ea EL.length eac) EL := HI0.out.below ((Below.refl _ _).drew)
  have lw : IntsAt v6.drew (.slice la LT.length lac) LT := HI1.out.below ((Below.refl _ _).drew)
  have hbw : Below w.heap.size w v6.drew := HB.out.drew
  clear HV HU HH HZ HI0 HI1 B0 HB B0c0 B0c1
  refine (wp_region_T 6 (fun W' => W'.cell? ⟨w.heap.size, 0, none⟩ = some (.int .i64 y.load) ∧ W'.cell? ⟨w.heap.size, 1, none⟩ = some (.slice sa y.logs.length cap)) (by kernel_rfl) (by kernel_rfl) ⟨y0, y1⟩ ?_)
  intro inv hS
  clear y0 y1
  generalize v6.drew = V0 at *
  refine wpAnyT_take inv (by kernel_rfl) (by omega) (i := 0) (v := .agg #[.int .i64 y.load, .slice sa y.logs.length cap]) rfl (by kernel_rfl) (by kernel_rfl) (fun _ _ _ h => h) (Or.inl ⟨by kernel_rfl, ?_⟩) (by assumption) ?_
  · rintro W' ⟨q0, q1⟩
    go_simp
  intro inv2
  clear inv
  have inv := inv2
  clear inv2
  simp only [Act.put, List.setIfInBounds_toArray]
  refine wpAnyT_take inv (by kernel_rfl) (by omega) (i := 1) (v := .slice ha xs.length hc) rfl (by kernel_rfl) (by kernel_rfl) (fun _ _ _ h => h) (Or.inl ⟨by kernel_rfl, ?_⟩) (by assumption) ?_
  · rintro W' ⟨q0, q1⟩
    go_simp
  intro inv2
  clear inv
  have inv := inv2
  clear inv2
  simp only [Act.put]
  refine wpAnyT_take inv (by kernel_rfl) (by omega) (i := 3) (v := .agg #[.int .i64 y.load, .slice sa y.logs.length cap]) rfl (by kernel_rfl) (by kernel_rfl) (fun _ _ _ h => h) (Or.inl ⟨by kernel_rfl, ?_⟩) (by assumption) ?_
  · rintro W' ⟨q0, q1⟩
    go_simp
  intro inv2
  clear inv
  have inv := inv2
  clear inv2
  simp only [Act.put]
  refine wpAnyT_take inv (by kernel_rfl) (by omega) (i := 4) (v := .slice za zs.length zc) rfl (by kernel_rfl) (by kernel_rfl) (fun _ _ _ h => h) (Or.inl ⟨by kernel_rfl, ?_⟩) (by assumption) ?_
  · rintro W' ⟨q0, q1⟩
    go_simp
  intro inv2
  clear inv
  have inv := inv2
  clear inv2
  simp only [Act.put]
  refine wpAnyT_ready [2] (by kernel_rfl) (by simp) ?_
  refine AllReadyT.cons rfl (fun K hK => ?_) AllReadyT.nil
  go_simp
  refine (order_any (.agg #[.int .i64 y.load, .slice sa y.logs.length cap]) (.slice ha xs.length hc) xs y _ hvw hhw HYD.out (by omega)).mono ?_
  rintro e z1 ⟨vo, rfl, ho1, hb⟩
  obtain ⟨OX, hOX⟩ : ∃ OX, orderL y xs = OX := ⟨_, rfl⟩
  rw [hOX] at HF1 HL1 ho1
  obtain ⟨oa, oc, rfl⟩ := ho1.slice
  clear hOX
  refine hK.out _ _ (fun _ => ⟨cellB hS.1 hb, cellB hS.2 hb⟩) (fun _ => ?_)
  replace inv := HeadM.step inv 2 (by kernel_rfl) (by omega)
  clear hK K
  try simp only [Act.put]
  replace hS := And.intro (cellB hS.1 hb) (cellB hS.2 hb)
  replace hvw := hvw.below hb
  replace hhw := hhw.below hb
  replace hzw := hzw.below hb
  replace ew := ew.below hb
  replace lw := lw.below hb
  replace hbw := hbw.trans (hb.mono (by have := hbw.size; omega))
  clear hb
  refine wpAnyT_ready [5] (by kernel_rfl) (by simp) ?_
  refine AllReadyT.cons rfl (fun K hK => ?_) AllReadyT.nil
  go_simp
  refine (order_any (.agg #[.int .i64 y.load, .slice sa y.logs.length cap]) (.slice za zs.length zc) zs y _ hvw hzw HYD.out (by omega)).mono ?_
  rintro e z2 ⟨vo, rfl, ho2, hb⟩
  obtain ⟨OZ, hOZ⟩ : ∃ OZ, orderL y zs = OZ := ⟨_, rfl⟩
  rw [hOZ] at HF2 HL2 ho2
  obtain ⟨pa, pc, rfl⟩ := ho2.slice
  clear hOZ
  refine hK.out _ _ (fun _ => ⟨cellB hS.1 hb, cellB hS.2 hb⟩) (fun _ => ?_)
  replace inv := HeadM.step inv 5 (by kernel_rfl) (by omega)
  clear hK K
  try simp only [Act.put]
  replace hS := And.intro (cellB hS.1 hb) (cellB hS.2 hb)
  replace hvw := hvw.below hb
  replace hhw := hhw.below hb
  replace hzw := hzw.below hb
  replace ew := ew.below hb
  replace lw := lw.below hb
  replace hbw := hbw.trans (hb.mono (by have := hbw.size; omega))
  replace ho1 := ho1.below hb
  clear hb
  clear inv hS
  refine wpAnyT_chain (fuel := 2) rfl (by kernel_rfl) ?_
  simp only [List.drop_succ_cons, List.drop_zero]
  have HX := Lib.hid ho1
  have HZ := Lib.hid ho2
  have HE0 := Lib.hid ew
  have HL0 := Lib.hid lw
  have HB := Lib.hid hbw
  clear ho1 ho2 ew lw hbw hvw hhw hzw
  go_wp2_with fail
  have HLX := Lib.hid (len_of HEL.out HL1.out)
  have HLL2 := Lib.hid (len_of HEL.out HLL.out)
  have HLZ := Lib.hid (fun h => len_of HEL.out (HL2.out h))
  go_loopw [17] (fun s wr => ∃ i : Nat, i ≤ EL.length ∧ s = .int .i64 i ∧ Below z2.heap.size z2 wr) (fun s _ => EL.length - (intOf s).toNat)
  case atStart => exact ⟨0, Nat.zero_le _, rfl, Below.refl _ _⟩
  case round =>
    obtain ⟨i, hi, rfl, hbw⟩ := hrel
    have HBW := Lib.hid hbw
    clear hbw
    by_cases hit : i < EL.length
    · have i1 : i < OX.length := by have := HLX.out; omega
      have i2 : i < LT.length := by have := HLL2.out; omega
      obtain ⟨b1, o1, c1, e, x1⟩ := (HE0.out.below HBW.out).get i hit
      cases e
      obtain ⟨b2, o2, c2, e, x2⟩ := (HL0.out.below HBW.out).get i i2
      cases e
      obtain ⟨b3, o3, c3, e, x3⟩ := (HX.out.below HBW.out).get i i1
      cases e
      obtain ⟨q1, q2⟩ := HF1.out i _ _ _ (List.getElem?_eq_getElem (l := EL) (i := i) hit) (List.getElem?_eq_getElem (l := OX) (i := i) i1) (List.getElem?_eq_getElem (l := LT) (i := i) i2)
      obtain ⟨e1, he1⟩ : ∃ e1, EL[i] = e1 := ⟨_, rfl⟩
      obtain ⟨l1, hl1⟩ : ∃ l1, LT[i] = l1 := ⟨_, rfl⟩
      obtain ⟨o1', ho1⟩ : ∃ o1', OX[i] = o1' := ⟨_, rfl⟩
      have HZF := Lib.hid (fun hn (h2 : i < OZ.length) => HF2.out hn i _ _ _ (List.getElem?_eq_getElem (l := EL) (i := i) hit) (List.getElem?_eq_getElem (l := OZ) (i := i) h2) (List.getElem?_eq_getElem (l := LT) (i := i) i2))
      rw [he1] at x1 q1 HZF
      rw [hl1] at x2 q2 HZF
      rw [ho1] at x3 q1 q2
      have HPV := Lib.hid (fun j (hj : j + 1 = i) (hk : j < EL.length) => HES.out j i _ _ (by omega) (List.getElem?_eq_getElem (l := EL) (i := j) hk) (List.getElem?_eq_getElem (l := EL) (i := i) hit))
      have HPL := Lib.hid (fun j (hj : j + 1 = i) (hk : j < LT.length) => HLS.out j i _ _ (by omega) (List.getElem?_eq_getElem (l := LT) (i := j) hk) (List.getElem?_eq_getElem (l := LT) (i := i) i2))
      rw [he1] at HPV
      rw [hl1] at HPL
      have d3 : decide (o1' < e1) = false := decide_eq_false (by omega)
      have d4 : decide (o1' > l1) = false := decide_eq_false (by omega)
      have d5 : decide (l1 < o1') = false := decide_eq_false (by omega)
      have j0 : (i : Int) < (EL.length : Int) := by omega
      have j1 : (i : Int) < (OX.length : Int) := by omega
      have j2 : (i : Int) < (LT.length : Int) := by omega
      clear he1 hl1 ho1 q1 q2
      by_cases hi0 : i = 0
      · subst hi0
        rw [Nat.add_zero] at x1 x2 x3
        have t0 : (0 : Int) < (EL.length : Int) := by omega
        have t1 : (0 : Int) < (OX.length : Int) := by omega
        have t2 : (0 : Int) < (LT.length : Int) := by omega
        by_cases hAF : A = F
        · have hlz := HLZ.out hAF
          have i3 : 0 < OZ.length := by omega
          obtain ⟨b6, o6, c6, e, x6⟩ := (HZ.out.below HBW.out).get 0 i3
          cases e
          obtain ⟨q1, q2⟩ := HZF.out hAF i3
          obtain ⟨p1, hp1⟩ : ∃ p1, OZ[0] = p1 := ⟨_, rfl⟩
          rw [hp1] at x6 q1 q2
          rw [Nat.add_zero] at x6
          have t3 : (0 : Int) < (OZ.length : Int) := by omega
          have f1 : (A == F) = true := by simpa using hAF
          have f2 : decide (A = F) = true := by simpa using hAF
          have d8 : decide (p1 < e1) = false := decide_eq_false (by omega)
          have d9 : decide (p1 > l1) = false := decide_eq_false (by omega)
          have dA : decide (l1 < p1) = false := decide_eq_false (by omega)
          have j6 : ((0 : Nat) : Int) < (OZ.length : Int) := by omega
          clear hp1 q1 q2 hlz hAF
          as_aux_lemma =>
            go_wp2_with fail
            have g1 := fun d os => cell_regrown x1 d os
            have g2 := fun d os => cell_regrown x2 d os
            have g3 := fun d os => cell_regrown x3 d os
            have g6 := fun d os => cell_regrown x6 d os
            clear x1 x2 x3 x6
            refine wp_region_quiet_below (by kernel_rfl) (by kernel_rfl) ?_
            simp only [List.append_eq, List.cons_append, List.nil_append]
            have hun : undef = Value.tuple #[] := rfl
            repeat (with_reducible refine wpQuiet_step (fun K hK => ?_); go_simp; with_reducible refine hK _ ?_; clear hK K)
            refine wpQuiet_nil ?_
            intro _ hw'
            obtain ⟨⟨dq, osq⟩, hw''⟩ := hw'
            subst hw''
            have HB9 := Lib.hid (bC HBW.out (below_regrown wr dq osq))
            rw [← hun]
            clear hun
            clear g1 g2 g3 g6
            generalize grow (redrawn wr dq) osq = w9 at *
            go_wp2
            go_roundw
            case rel => exact ⟨0 + 1, by omega, by go_num, HB9.out⟩
            case measure => simp [intOf] <;> omega
        · have f1 : (A == F) = false := by simpa using hAF
          have f2 : decide (A = F) = false := by simpa using hAF
          clear hAF
          as_aux_lemma =>
            go_wp2_with fail
            have g1 := fun d os => cell_regrown x1 d os
            have g2 := fun d os => cell_regrown x2 d os
            have g3 := fun d os => cell_regrown x3 d os
            clear x1 x2 x3
            refine wp_region_quiet_below (by kernel_rfl) (by kernel_rfl) ?_
            simp only [List.append_eq, List.cons_append, List.nil_append]
            have hun : undef = Value.tuple #[] := rfl
            repeat (with_reducible refine wpQuiet_step (fun K hK => ?_); go_simp; with_reducible refine hK _ ?_; clear hK K)
            refine wpQuiet_nil ?_
            intro _ hw'
            obtain ⟨⟨dq, osq⟩, hw''⟩ := hw'
            subst hw''
            have HB9 := Lib.hid (bC HBW.out (below_regrown wr dq osq))
            rw [← hun]
            clear hun
            clear g1 g2 g3
            generalize grow (redrawn wr dq) osq = w9 at *
            go_wp2
            go_roundw
            case rel => exact ⟨0 + 1, by omega, by go_num, HB9.out⟩
            case measure => simp [intOf] <;> omega
      · obtain ⟨j, hj⟩ : ∃ j, j + 1 = i := ⟨i - 1, by omega⟩
        have z1 : decide ((i : Int) > 0) = true := decide_eq_true (by omega)
        have z2' : decide ((0 : Int) < (i : Int)) = true := decide_eq_true (by omega)
        have z3 : decide (0 < i) = true := decide_eq_true (by omega)
        have k1 : j < EL.length := by omega
        have k2 : j < LT.length := by omega
        have hv1 := HPV.out j hj k1
        have hv2 := HPL.out j hj k2
        obtain ⟨b4, o4, c4, e, x4⟩ := (HE0.out.below HBW.out).get j k1
        cases e
        obtain ⟨b5, o5, c5, e, x5⟩ := (HL0.out.below HBW.out).get j k2
        cases e
        obtain ⟨e2, he2⟩ : ∃ e2, EL[j] = e2 := ⟨_, rfl⟩
        obtain ⟨l2, hl2⟩ : ∃ l2, LT[j] = l2 := ⟨_, rfl⟩
        rw [he2] at hv1 x4
        rw [hl2] at hv2 x5
        have d6 : decide (e1 < e2) = false := decide_eq_false (by omega)
        have d7 : decide (l1 < l2) = false := decide_eq_false (by omega)
        have w1 : IntKind.i64.wrap ((i : Int) - 1) = (j : Int) := by rw [IntWalk.i64_in _ (by omega)]; omega
        have w2 : IntKind.i64.wrap (j : Int) = (j : Int) := IntWalk.i64_in _ (by omega)
        have j3 : (j : Int) < (EL.length : Int) := by omega
        have j4 : (j : Int) < (LT.length : Int) := by omega
        have j5 : (i : Int) - 1 = (j : Int) := by omega
        clear he2 hl2 hv1 hv2
        by_cases hAF : A = F
        · have hlz := HLZ.out hAF
          have i3 : i < OZ.length := by omega
          obtain ⟨b6, o6, c6, e, x6⟩ := (HZ.out.below HBW.out).get i i3
          cases e
          obtain ⟨q1, q2⟩ := HZF.out hAF i3
          obtain ⟨p1, hp1⟩ : ∃ p1, OZ[i] = p1 := ⟨_, rfl⟩
          rw [hp1] at x6 q1 q2
          have f1 : (A == F) = true := by simpa using hAF
          have f2 : decide (A = F) = true := by simpa using hAF
          have d8 : decide (p1 < e1) = false := decide_eq_false (by omega)
          have d9 : decide (p1 > l1) = false := decide_eq_false (by omega)
          have dA : decide (l1 < p1) = false := decide_eq_false (by omega)
          have j6 : (i : Int) < (OZ.length : Int) := by omega
          clear hp1 q1 q2 hlz hAF
          as_aux_lemma =>
            go_wp2_with fail
            have g1 := fun d os => cell_regrown x1 d os
            have g2 := fun d os => cell_regrown x2 d os
            have g3 := fun d os => cell_regrown x3 d os
            have g4 := fun d os => cell_regrown x4 d os
            have g5 := fun d os => cell_regrown x5 d os
            have g6 := fun d os => cell_regrown x6 d os
            clear x1 x2 x3 x4 x5 x6
            refine wp_region_quiet_below (by kernel_rfl) (by kernel_rfl) ?_
            simp only [List.append_eq, List.cons_append, List.nil_append]
            repeat (with_reducible refine wpQuiet_step (fun K hK => ?_); go_simp; with_reducible refine hK _ ?_; clear hK K)
            refine wpQuiet_nil ?_
            intro _ hw'
            obtain ⟨⟨dq, osq⟩, hw''⟩ := hw'
            subst hw''
            have HB9 := Lib.hid (bC HBW.out (below_regrown wr dq osq))
            clear g1 g2 g3 g4 g5 g6
            generalize grow (redrawn wr dq) osq = w9 at *
            go_wp2
            go_roundw
            case rel => exact ⟨i + 1, by omega, by go_num, HB9.out⟩
            case measure => simp [intOf] <;> omega
        · have f1 : (A == F) = false := by simpa using hAF
          have f2 : decide (A = F) = false := by simpa using hAF
          clear hAF
          as_aux_lemma =>
            go_wp2_with fail
            have g1 := fun d os => cell_regrown x1 d os
            have g2 := fun d os => cell_regrown x2 d os
            have g3 := fun d os => cell_regrown x3 d os
            have g4 := fun d os => cell_regrown x4 d os
            have g5 := fun d os => cell_regrown x5 d os
            clear x1 x2 x3 x4 x5
            refine wp_region_quiet_below (by kernel_rfl) (by kernel_rfl) ?_
            simp only [List.append_eq, List.cons_append, List.nil_append]
            have hun : undef = Value.tuple #[] := rfl
            repeat (with_reducible refine wpQuiet_step (fun K hK => ?_); go_simp; with_reducible refine hK _ ?_; clear hK K)
            refine wpQuiet_nil ?_
            intro _ hw'
            obtain ⟨⟨dq, osq⟩, hw''⟩ := hw'
            subst hw''
            have HB9 := Lib.hid (bC HBW.out (below_regrown wr dq osq))
            rw [← hun]
            clear hun
            clear g1 g2 g3 g4 g5
            generalize grow (redrawn wr dq) osq = w9 at *
            go_wp2
            go_roundw
            case rel => exact ⟨i + 1, by omega, by go_num, HB9.out⟩
            case measure => simp [intOf] <;> omega
    · obtain rfl : i = EL.length := by omega
      go_wp2_with fail
      refine (Works_any _).mono ?_
      rintro e vq ⟨rfl, hb⟩
      have HBQ := Lib.hid (bC (bC HB.out HBW.out) hb)
      clear hb
      go_wp2
      go_ret
      exact ⟨rfl, HBQ.out⟩
end Go.Proofs.Ytjbeoakikdkdaaa
