import Derived.Test.YtkggjpdjjnnhaaaDoorOh
namespace Go.Proofs.YtkggjpdjjnnhaaaDoor
open Go.RowKit Go.Shelf Go.Sort
attribute [local go_sem] Oper.semAt_some

/-! ## The law PeelKept, from the first test on -/
noncomputable def keptB : Code := dropSeq 6 ((Tryd.f9.body).getD .skip)
set_option maxRecDepth 1000000 in
set_option maxHeartbeats 40000000 in
theorem kept_b (w W0 : World) (l : LogD) (a a' : Option Addr) (cap cap' : Nat) (D s t x : Int) (c d m : Rat) (cn cd dn dd mn md : Int) (BL0 BA BC BD BM : Nat)
    (hV : LogAt w (.agg #[.slice a l.at_.length cap, .slice a' l.edges.length cap']) l) (hN : NoneAt w) (hB : Below w.heap.size w W0) (h0 : logErr l = 0)
    (hD : 0 < D ∧ D ≤ 100) (hs : -400000 ≤ s ∧ s ≤ 400000) (ht : -4000 ≤ t ∧ t ≤ 4000) (hx : 0 ≤ x ∧ x ≤ 100) (hc : coreOf l D s t = c)
    (hcn : c.num = cn) (hcd : (c.den : Int) = cd) (hcb : cd ≤ 100 ∧ -5000 * cd ≤ cn ∧ cn ≤ 5000 * cd)
    (hdn : d.num = dn) (hdd : (d.den : Int) = dd) (hdb : dd ≤ 100 ∧ -5000 * dd ≤ dn ∧ dn ≤ 5000 * dd)
    (hmn : m.num = mn) (hmd : (m.den : Int) = md) (hmb : md ≤ 200 ∧ -5000 * md ≤ mn ∧ mn ≤ 5000 * md) (hm : ¬ (m < c ∧ m < d))
    (hL : Blk W0 BL0 (.cells #[.slice a l.at_.length cap, .slice a' l.edges.length cap'] 25)) (hA : Blk W0 BA (.cells #[.int .i64 D, .int .i64 s, .int .i64 t] 27))
    (hC : Blk W0 BC (.cells #[.int .i64 cn, .int .i64 cd] 31)) (hDD : Blk W0 BD (.cells #[.int .i64 dn, .int .i64 dd] 31)) (hM : CellsAt W0 BM [.int .i64 mn, .int .i64 md])
    (u0 u1 u2 u3 u4 u5 u7 u8 u9 u10 u11 u14 u22 u23 u24 u25 u26 u27 u28 u29 u30 u31 u32 u33 u34 u35 u36 u37 u38 u39 u40 u41 u42 u43 u44 u45 u46 u47 u48 u49 u50 u51 u52 u53 u54 u55 u56 u57 u58 u59 u60 u61 u62 u63 u64 u65 u66 u67 u68 u69 u70 u71 u72 u73 u74 u75 u76 u77 u78 u79 u80 u81 u82 u83 u84 u85 u86 u87 u88 u89 u90 u91 u92 u93 u94 u95 u96 u97 u98 u99 u100 u101 u102 u103 u104 u105 u106 u107 u108 u109 u110 u111 u112 u113 u114 u115 u116 u117 u118 u119 u120 u121 u122 u123 u124 u125 u126 u127 u128 u129 u130 u131 u132 u133 u134 u135 u136 u137 u138 u139 u140 u141 u142 u143 u144 u145 u146 u147 u148 u149 u150 u151 u152 u153 u154 u155 u156 u157 u158 u159 u160 u161 u162 u163 u164 u165 u166 u167 u168 u169 u170 u171 u172 u173 u174 u175 u176 u177 u178 u179 u180 u181 u182 u183 u184 u185 u186 u187 u188 u189 u190 u191 u192 u193 u194 u195 u196 : Value) :
    Code.wp Tryd.prog keptB (bodyPost Tryd.prog Tryd.f9 fun e w' => e = .returned (.bool true) ∧ Below w.heap.size w w') ⟨#[u0, u1, u2, u3, u4, u5, .pointer (some ⟨BL0, 0, none⟩), u7, u8, u9, u10, u11, .bool false, .pointer (some ⟨BA, 0, none⟩), u14, .int .i64 x, .pointer (some ⟨BC, 0, none⟩), .int .i64 0, .pointer (some ⟨BD, 0, none⟩), .int .i64 0, .pointer (some ⟨BM, 0, none⟩), .int .i64 0, u22, u23, u24, u25, u26, u27, u28, u29, u30, u31, u32, u33, u34, u35, u36, u37, u38, u39, u40, u41, u42, u43, u44, u45, u46, u47, u48, u49, u50, u51, u52, u53, u54, u55, u56, u57, u58, u59, u60, u61, u62, u63, u64, u65, u66, u67, u68, u69, u70, u71, u72, u73, u74, u75, u76, u77, u78, u79, u80, u81, u82, u83, u84, u85, u86, u87, u88, u89, u90, u91, u92, u93, u94, u95, u96, u97, u98, u99, u100, u101, u102, u103, u104, u105, u106, u107, u108, u109, u110, u111, u112, u113, u114, u115, u116, u117, u118, u119, u120, u121, u122, u123, u124, u125, u126, u127, u128, u129, u130, u131, u132, u133, u134, u135, u136, u137, u138, u139, u140, u141, u142, u143, u144, u145, u146, u147, u148, u149, u150, u151, u152, u153, u154, u155, u156, u157, u158, u159, u160, u161, u162, u163, u164, u165, u166, u167, u168, u169, u170, u171, u172, u173, u174, u175, u176, u177, u178, u179, u180, u181, u182, u183, u184, u185, u186, u187, u188, u189, u190, u191, u192, u193, u194, u195, u196], []⟩ W0 := by
  have hf := logErr_fit' h0
  have HS := Lib.hid (show l.small by unfold LogD.small; have := hf.eight; have := hf.lens _ (List.mem_singleton.2 rfl); omega)
  have cd1 : 1 ≤ cd := by have := c.den_pos; omega
  have dd1 : 1 ≤ dd := by have := d.den_pos; omega
  have md1 : 1 ≤ md := by have := m.den_pos; omega
  have fc : Fine c := by exact ⟨by omega, by omega, by omega⟩
  have fd : Fine d := by exact ⟨by omega, by omega, by omega⟩
  have fm : Fine m := by exact ⟨by omega, by omega, by omega⟩
  have HL1 : Hid (∀ W, Calls Tryd.prog 45 #[.agg #[.int .i64 mn, .int .i64 md], .agg #[.int .i64 cn, .int .i64 cd]] W (Gets (.bool (decide (m < c))) W)) := Lib.hid (fun W => by have := rless_any m c W fm fc; rw [qv, qv, hmn, hmd, hcn, hcd] at this; exact this)
  have HL2 : Hid (m < c → ∀ W, Calls Tryd.prog 45 #[.agg #[.int .i64 mn, .int .i64 md], .agg #[.int .i64 dn, .int .i64 dd]] W (Gets (.bool false) W)) := Lib.hid (fun hmc W => by have := rless_any m d W fm fd; rw [decide_eq_false (fun h => hm ⟨hmc, h⟩), qv, qv, hmn, hmd, hdn, hdd] at this; exact this)
  have HV := Lib.hid hV
  have HN := Lib.hid hN
  have HB0 := Lib.hid hB
  have HL0 := Lib.hid hL
  have HA0 := Lib.hid hA
  have HC0 := Lib.hid hC
  have HD0 := Lib.hid hDD
  have HM0 := Lib.hid hM
  have k1 : decide (cd < 1) = false := decide_eq_false (by omega)
  have k2 : decide (dd < 1) = false := decide_eq_false (by omega)
  have k3 : decide (md < 1) = false := decide_eq_false (by omega)
  obtain ⟨MX, hMX⟩ : ∃ MX, max (max cd dd) md = MX := ⟨_, rfl⟩
  have k4 : decide (200 < MX) = false := decide_eq_false (by omega)
  have hmaxr : ∀ (ts : Array TypeId) (t : TypeId) (w : World), (Builtin.max_ ts t #[.int .i64 cd, .int .i64 dd, .int .i64 md]).run Tryd.prog w = .ok (.int .i64 MX) w := fun ts t w => by rw [run_max_w3, hMX]
  have k5 : (cd == 0) = false := by simp; omega
  have k5' : ¬ cd = 0 := by omega
  have k6 : (cd == -1) = false := by simp; omega
  obtain ⟨tm, htm⟩ : ∃ tm, cn.tmod cd = tm := ⟨_, rfl⟩
  obtain ⟨qq, hqq⟩ : ∃ qq, (cn - tm).tdiv cd = qq := ⟨_, rfl⟩
  have FP := floor_pos (n := cn) (d := cd) (by omega)
  have FN := floor_neg (n := cn) (d := cd) (by omega)
  have TN := tmod_neg (n := cn) (d := cd) (by omega)
  have TP := tmodN cn cd
  rw [htm, hqq] at FP FN
  rw [htm] at TN TP
  have btm : -100 ≤ tm ∧ tm ≤ 100 := by
    rcases Int.lt_or_le cn 0 with h | h
    · have := TN h; omega
    · have := TP h (by omega); omega
  have bqq : -600000 ≤ qq ∧ qq ≤ 600000 := by
    rcases Int.lt_or_le cn 0 with h | h
    · obtain ⟨z1, z2, z3⟩ := FN h; split at z2 <;> omega
    · obtain ⟨z1, z2, z3⟩ := FP h; omega
  have r1 : IntKind.i64.wrap tm = tm := IntWalk.i64_in _ (by omega)
  have r2 : IntKind.i64.wrap (cn - tm) = cn - tm := IntWalk.i64_in _ (by omega)
  have r3 : IntKind.i64.wrap qq = qq := IntWalk.i64_in _ (by omega)
  have r4 : IntKind.i64.wrap (qq - 1) = qq - 1 := IntWalk.i64_in _ (by omega)
  have q1 := mul_bd t x 4000 100 ht.1 ht.2 hx.1 hx.2 (by decide)
  have r5 : IntKind.i64.wrap (t * x) = t * x := IntWalk.i64_in _ (by omega)
  have r6 : IntKind.i64.wrap (s + t * x) = s + t * x := IntWalk.i64_in _ (by omega)
  have bh : -800000 ≤ s + t * x ∧ s + t * x ≤ 800000 := by omega
  have HQ : Hid (∀ core : Int, (core = qq ∧ (0 ≤ cn ∨ tm = 0) ∨ core = qq - 1 ∧ cn < 0 ∧ tm ≠ 0) → core * cd ≤ cn) := Lib.hid fun core h => by
    rcases Int.lt_or_le cn 0 with h1 | h1
    · obtain ⟨z1, z2, z3⟩ := FN h1
      rcases h with ⟨rfl, h2 | h2⟩ | ⟨rfl, _, h2⟩
      · omega
      · rw [if_pos h2, Int.sub_zero] at z1; exact z1
      · rw [if_neg h2] at z1; exact z1
    · rcases h with ⟨rfl, _⟩ | ⟨rfl, h2, _⟩
      · exact (FP h1).1
      · omega
  clear hMX
  clear hV hN hB hL hA hC hDD hM cd1 dd1 md1 fc fd fm FP FN TN TP hm
  have HLE : Hid (∀ b : Bool, decide (m < c) = b → ∀ W, Calls Tryd.prog 45 #[.agg #[.int .i64 mn, .int .i64 md], .agg #[.int .i64 cn, .int .i64 cd]] W (Gets (.bool b) W)) := Lib.hid (fun b hb W => by rw [← hb]; exact HL1.out W)
  clear HL1
  by_cases hmc : m < c
  · have HLT : Hid (∀ W, Calls Tryd.prog 45 #[.agg #[.int .i64 mn, .int .i64 md], .agg #[.int .i64 cn, .int .i64 cd]] W (Gets (.bool true) W)) := Lib.hid (HLE.out true (decide_eq_true hmc))
    have HLF : Hid (∀ W, Calls Tryd.prog 45 #[.agg #[.int .i64 mn, .int .i64 md], .agg #[.int .i64 dn, .int .i64 dd]] W (Gets (.bool false) W)) := Lib.hid (HL2.out hmc)
    clear hmc HLE HL2
    by_cases hcn0 : 0 ≤ cn
    · have k7 : decide (cn < 0) = false := decide_eq_false (by omega)
      have hcore := HQ.out (qq) (.inl ⟨rfl, .inl hcn0⟩)
      by_cases hlow : qq < -2000
      · have k9 : decide (qq < -2000) = true := decide_eq_true hlow
        clear hlow hcore hcn0
        clear hf h0 hD hs ht hx hc hcn hcd hcb hdn hdd hdb hmn hmd hmb btm bqq bh q1 HQ
        conv => arg 2; whnf
        have Cc0 := HC0.out.cell 0
        have Cc1 := HC0.out.cell 1
        have Dc0 := HD0.out.cell 0
        have Dc1 := HD0.out.cell 1
        have Mc0 := HM0.out.cell 0
        have Mc1 := HM0.out.cell 1
        simp at Cc0 Cc1 Dc0 Dc1 Mc0 Mc1
        have Cl := HC0.out.lt
        have Dl := HD0.out.lt
        have Ml := HM0.out.lt
        go_wp2_with fail
        clear Cc0 Cc1 Dc0 Dc1 Mc0 Mc1 Cl Dl Ml
        refine (HLT.out _).mono ?_
        rintro e w1x ⟨rfl, hb⟩
        have HB1 := Lib.hid (bC HB0.out hb)
        have HL1 := Lib.hid (HL0.out.below hb)
        have HA1 := Lib.hid (HA0.out.below hb)
        have HC1 := Lib.hid (HC0.out.below hb)
        have HD1 := Lib.hid (HD0.out.below hb)
        have HM1 := Lib.hid (HM0.out.below hb)
        clear hb HB0 HL0 HA0 HC0 HD0 HM0
        have Mc0 := HM1.out.cell 0
        have Mc1 := HM1.out.cell 1
        have Dc0 := HD1.out.cell 0
        have Dc1 := HD1.out.cell 1
        simp at Mc0 Mc1 Dc0 Dc1
        have Ml := HM1.out.lt
        have Dl := HD1.out.lt
        go_wp2_with fail
        clear Mc0 Mc1 Dc0 Dc1 Ml Dl
        refine (HLF.out _).mono ?_
        rintro e w2x ⟨rfl, hb⟩
        have HB2 := Lib.hid (bC HB1.out hb)
        have HL2 := Lib.hid (HL1.out.below hb)
        have HA2 := Lib.hid (HA1.out.below hb)
        have HC2 := Lib.hid (HC1.out.below hb)
        have HD2 := Lib.hid (HD1.out.below hb)
        have HM2 := Lib.hid (HM1.out.below hb)
        clear hb HB1 HL1 HA1 HC1 HD1 HM1
        go_wp2_with fail
        have e0 := HC2.out.cell 0
        have e1 := HC2.out.cell 1
        simp at e0 e1
        have g1 := fun d os => cell_regrown e0 d os
        have g2 := fun d os => cell_regrown e1 d os
        refine wp_region_quiet_below (by kernel_rfl) (by kernel_rfl) ?_
        repeat (quiet_step (fail))
        refine wpQuiet_nil ?_
        intro _ hw'
        obtain ⟨⟨dq, osq⟩, hw''⟩ := hw'
        subst hw''
        have hb := below_regrown w2x dq osq
        clear g1 g2 e0 e1
        generalize grow (redrawn w2x dq) osq = w3x at *
        have HB3 := Lib.hid (bC HB2.out hb)
        have HL3 := Lib.hid (HL2.out.below hb)
        have HA3 := Lib.hid (HA2.out.below hb)
        have HC3 := Lib.hid (HC2.out.below hb)
        have HD3 := Lib.hid (HD2.out.below hb)
        have HM3 := Lib.hid (HM2.out.below hb)
        clear hb HB2 HL2 HA2 HC2 HD2 HM2
        have Cc0 := HC3.out.cell 0
        have Cc1 := HC3.out.cell 1
        simp at Cc0 Cc1
        have Cl := HC3.out.lt
        go_wp2_with fail
        clear Cc0 Cc1 Cl
        refine (Works_any _ (HN.out.below HB3.out)).mono ?_
        rintro e w4x ⟨rfl, hb⟩
        have HB4 := Lib.hid (bC HB3.out hb)
        have HL4 := Lib.hid (HL3.out.below hb)
        have HA4 := Lib.hid (HA3.out.below hb)
        have HC4 := Lib.hid (HC3.out.below hb)
        have HD4 := Lib.hid (HD3.out.below hb)
        have HM4 := Lib.hid (HM3.out.below hb)
        clear hb HB3 HL3 HA3 HC3 HD3 HM3
        go_wp2_with fail
        go_ret
        exact ⟨rfl, HB4.out⟩
      · have k9 : decide (qq < -2000) = false := decide_eq_false hlow
        rw [← hcn, ← hcd] at hcore
        obtain ⟨hcb1, hcb2⟩ := floor_best hf hD.1 hc hcore
        obtain ⟨an, ad, bn, bd, eHH, V⟩ := he_kept h0 (core := qq) (x := x) (by omega) (by omega) hx.1 hx.2 hcb1
        have hfl := floor_ok hf hD.1 hc hcore V
        have HH : Hid (∀ W, LogAt W (.agg #[.slice a l.at_.length cap, .slice a' l.edges.length cap']) l → Calls Tryd.prog 34 #[(.agg #[.slice a l.at_.length cap, .slice a' l.edges.length cap']), .int .i64 (qq), .int .i64 x] W (Gets (.tuple #[.agg #[.int .i64 an, .int .i64 ad], .agg #[.int .i64 bn, .int .i64 bd], .int .i64 0]) W)) := Lib.hid (fun W h => by have := Heights_any _ l (qq) x W h HS.out; rw [eHH] at this; exact this)
        obtain ⟨V0, v1, v2, v3, v4⟩ := V
        have fa := heights_fits hf (core := qq) (x := x) (by omega) (by omega) (by omega) (by omega) V0 (fun y hy => (best_least hy).1)
        have fb := heights_fits hf (core := qq) (x := x) (by omega) (by omega) (by omega) (by omega) V0 (fun y hy => (best_most hy).1)
        have HFA : Hid (∀ W, Calls Tryd.prog 48 #[.agg #[.int .i64 an, .int .i64 ad]] W (Gets (.bool true) W)) := Lib.hid (fun W => by have := fit_yes _ W fa; rw [v1, v2] at this; exact this)
        have HFB : Hid (∀ W, Calls Tryd.prog 48 #[.agg #[.int .i64 bn, .int .i64 bd]] W (Gets (.bool true) W)) := Lib.hid (fun W => by have := fit_yes _ W fb; rw [v3, v4] at this; exact this)
        obtain ⟨fa1, fa2, fa3⟩ := fa
        obtain ⟨fb1, fb2, fb3⟩ := fb
        rw [v2] at fa1 fa2 fa3
        rw [v1] at fa2 fa3
        rw [v4] at fb1 fb2 fb3
        rw [v3] at fb2 fb3
        have ad1 : 0 ≤ ad := by rw [← v2]; omega
        have bd1 : 0 ≤ bd := by rw [← v4]; omega
        obtain ⟨hh, hhe⟩ : ∃ hh, s + t * x = hh := ⟨_, rfl⟩
        rw [hhe] at hfl bh r6
        have p1 := mul_bd an D 200000000 100 (by omega) (by omega) (by omega) (by omega) (by decide)
        have p2 := mul_bd hh ad 800000 200 (by omega) (by omega) (by omega) (by omega) (by decide)
        have p3 := mul_bd hh bd 800000 200 (by omega) (by omega) (by omega) (by omega) (by decide)
        have p4 := mul_bd bn D 200000000 100 (by omega) (by omega) (by omega) (by omega) (by decide)
        have y1 : IntKind.i64.wrap (an * D) = an * D := IntWalk.i64_in _ (by omega)
        have y2 : IntKind.i64.wrap (hh * ad) = hh * ad := IntWalk.i64_in _ (by omega)
        have y3 : IntKind.i64.wrap (hh * bd) = hh * bd := IntWalk.i64_in _ (by omega)
        have y4 : IntKind.i64.wrap (bn * D) = bn * D := IntWalk.i64_in _ (by omega)
        have z1 : decide (an * D ≤ hh * ad) = true := decide_eq_true hfl.1
        have z2 : decide (hh * bd ≤ bn * D) = true := decide_eq_true hfl.2
        clear hlow hcore hcn0 hcb1 hcb2 eHH V0 v1 v2 v3 v4 fa1 fa2 fa3 fb1 fb2 fb3 ad1 bd1 p1 p2 p3 p4 hfl
        clear hf h0 hD hs ht hx hc hcn hcd hcb hdn hdd hdb hmn hmd hmb btm bqq bh q1 HQ
        conv => arg 2; whnf
        have Cc0 := HC0.out.cell 0
        have Cc1 := HC0.out.cell 1
        have Dc0 := HD0.out.cell 0
        have Dc1 := HD0.out.cell 1
        have Mc0 := HM0.out.cell 0
        have Mc1 := HM0.out.cell 1
        simp at Cc0 Cc1 Dc0 Dc1 Mc0 Mc1
        have Cl := HC0.out.lt
        have Dl := HD0.out.lt
        have Ml := HM0.out.lt
        go_wp2_with fail
        clear Cc0 Cc1 Dc0 Dc1 Mc0 Mc1 Cl Dl Ml
        refine (HLT.out _).mono ?_
        rintro e w1x ⟨rfl, hb⟩
        have HB1 := Lib.hid (bC HB0.out hb)
        have HL1 := Lib.hid (HL0.out.below hb)
        have HA1 := Lib.hid (HA0.out.below hb)
        have HC1 := Lib.hid (HC0.out.below hb)
        have HD1 := Lib.hid (HD0.out.below hb)
        have HM1 := Lib.hid (HM0.out.below hb)
        clear hb HB0 HL0 HA0 HC0 HD0 HM0
        have Mc0 := HM1.out.cell 0
        have Mc1 := HM1.out.cell 1
        have Dc0 := HD1.out.cell 0
        have Dc1 := HD1.out.cell 1
        simp at Mc0 Mc1 Dc0 Dc1
        have Ml := HM1.out.lt
        have Dl := HD1.out.lt
        go_wp2_with fail
        clear Mc0 Mc1 Dc0 Dc1 Ml Dl
        refine (HLF.out _).mono ?_
        rintro e w2x ⟨rfl, hb⟩
        have HB2 := Lib.hid (bC HB1.out hb)
        have HL2 := Lib.hid (HL1.out.below hb)
        have HA2 := Lib.hid (HA1.out.below hb)
        have HC2 := Lib.hid (HC1.out.below hb)
        have HD2 := Lib.hid (HD1.out.below hb)
        have HM2 := Lib.hid (HM1.out.below hb)
        clear hb HB1 HL1 HA1 HC1 HD1 HM1
        go_wp2_with fail
        have e0 := HC2.out.cell 0
        have e1 := HC2.out.cell 1
        simp at e0 e1
        have g1 := fun d os => cell_regrown e0 d os
        have g2 := fun d os => cell_regrown e1 d os
        refine wp_region_quiet_below (by kernel_rfl) (by kernel_rfl) ?_
        repeat (quiet_step (fail))
        refine wpQuiet_nil ?_
        intro _ hw'
        obtain ⟨⟨dq, osq⟩, hw''⟩ := hw'
        subst hw''
        have hb := below_regrown w2x dq osq
        clear g1 g2 e0 e1
        generalize grow (redrawn w2x dq) osq = w3x at *
        have HB3 := Lib.hid (bC HB2.out hb)
        have HL3 := Lib.hid (HL2.out.below hb)
        have HA3 := Lib.hid (HA2.out.below hb)
        have HC3 := Lib.hid (HC2.out.below hb)
        have HD3 := Lib.hid (HD2.out.below hb)
        have HM3 := Lib.hid (HM2.out.below hb)
        clear hb HB2 HL2 HA2 HC2 HD2 HM2
        have Cc0 := HC3.out.cell 0
        have Cc1 := HC3.out.cell 1
        have Lc0 := HL3.out.cell 0
        have Lc1 := HL3.out.cell 1
        simp at Cc0 Cc1 Lc0 Lc1
        have Cl := HC3.out.lt
        have Ll := HL3.out.lt
        go_wp2_with fail
        clear Cc0 Cc1 Lc0 Lc1 Cl Ll
        refine (HH.out _ (HV.out.below HB3.out)).mono ?_
        rintro e w4x ⟨rfl, hb⟩
        have HB4 := Lib.hid (bC HB3.out hb)
        have HL4 := Lib.hid (HL3.out.below hb)
        have HA4 := Lib.hid (HA3.out.below hb)
        have HC4 := Lib.hid (HC3.out.below hb)
        have HD4 := Lib.hid (HD3.out.below hb)
        have HM4 := Lib.hid (HM3.out.below hb)
        clear hb HB3 HL3 HA3 HC3 HD3 HM3
        go_wp2_with fail
        have hQ := (Blk.new w4x (.cells #[.int .i64 an, .int .i64 ad] 31)).alloc (.cells #[.int .i64 bn, .int .i64 bd] 31)
        have hT := Blk.new (w4x.alloc (.cells #[.int .i64 an, .int .i64 ad] 31)) (.cells #[.int .i64 bn, .int .i64 bd] 31)
        rw [World.size_alloc] at hT
        have hA := below2 w4x (.cells #[.int .i64 an, .int .i64 ad] 31) (.cells #[.int .i64 bn, .int .i64 bd] 31)
        generalize (w4x.alloc (.cells #[.int .i64 an, .int .i64 ad] 31)).alloc (.cells #[.int .i64 bn, .int .i64 bd] 31) = W4x at *
        have HQ5 := Lib.hid hQ
        have HT5 := Lib.hid hT
        clear hQ hT
        have HB5 := Lib.hid (bC HB4.out hA)
        have HL5 := Lib.hid (HL4.out.below hA)
        have HA5 := Lib.hid (HA4.out.below hA)
        have HC5 := Lib.hid (HC4.out.below hA)
        have HD5 := Lib.hid (HD4.out.below hA)
        have HM5 := Lib.hid (HM4.out.below hA)
        clear hA HB4 HL4 HA4 HC4 HD4 HM4
        refine (HFA.out _).mono ?_
        rintro e w6x ⟨rfl, hb⟩
        have HB6 := Lib.hid (bC HB5.out hb)
        have HL6 := Lib.hid (HL5.out.below hb)
        have HA6 := Lib.hid (HA5.out.below hb)
        have HC6 := Lib.hid (HC5.out.below hb)
        have HD6 := Lib.hid (HD5.out.below hb)
        have HM6 := Lib.hid (HM5.out.below hb)
        have HQ6 := Lib.hid (HQ5.out.below hb)
        have HT6 := Lib.hid (HT5.out.below hb)
        clear hb HB5 HL5 HA5 HC5 HD5 HM5 HQ5 HT5
        have Tc0 := HT6.out.cell 0
        have Tc1 := HT6.out.cell 1
        simp at Tc0 Tc1
        have Tl := HT6.out.lt
        go_wp2_with fail
        clear Tc0 Tc1 Tl
        refine (HFB.out _).mono ?_
        rintro e w7x ⟨rfl, hb⟩
        have HB7 := Lib.hid (bC HB6.out hb)
        have HL7 := Lib.hid (HL6.out.below hb)
        have HA7 := Lib.hid (HA6.out.below hb)
        have HC7 := Lib.hid (HC6.out.below hb)
        have HD7 := Lib.hid (HD6.out.below hb)
        have HM7 := Lib.hid (HM6.out.below hb)
        have HQ7 := Lib.hid (HQ6.out.below hb)
        have HT7 := Lib.hid (HT6.out.below hb)
        clear hb HB6 HL6 HA6 HC6 HD6 HM6 HQ6 HT6
        have Ac0 := HA7.out.cell 0
        have Ac1 := HA7.out.cell 1
        have Ac2 := HA7.out.cell 2
        have Qc0 := HQ7.out.cell 0
        have Qc1 := HQ7.out.cell 1
        have Tc0 := HT7.out.cell 0
        have Tc1 := HT7.out.cell 1
        simp at Ac0 Ac1 Ac2 Qc0 Qc1 Tc0 Tc1
        have Al := HA7.out.lt
        have Ql := HQ7.out.lt
        have Tl := HT7.out.lt
        go_wp2_with fail
        clear Ac0 Ac1 Ac2 Qc0 Qc1 Tc0 Tc1 Al Ql Tl
        refine (Works_any _ (HN.out.below HB7.out)).mono ?_
        rintro e w8x ⟨rfl, hb⟩
        have HB8 := Lib.hid (bC HB7.out hb)
        have HL8 := Lib.hid (HL7.out.below hb)
        have HA8 := Lib.hid (HA7.out.below hb)
        have HC8 := Lib.hid (HC7.out.below hb)
        have HD8 := Lib.hid (HD7.out.below hb)
        have HM8 := Lib.hid (HM7.out.below hb)
        have HQ8 := Lib.hid (HQ7.out.below hb)
        have HT8 := Lib.hid (HT7.out.below hb)
        clear hb HB7 HL7 HA7 HC7 HD7 HM7 HQ7 HT7
        go_wp2_with fail
        go_ret
        exact ⟨rfl, HB8.out⟩
    · by_cases htm0 : tm = 0
      · have k7 : decide (cn < 0) = true := decide_eq_true (by omega)
        have k8 : (tm != 0) = false := by simp [htm0]
        have hcore := HQ.out (qq) (.inl ⟨rfl, .inr htm0⟩)
        by_cases hlow : qq < -2000
        · have k9 : decide (qq < -2000) = true := decide_eq_true hlow
          clear hlow hcore hcn0 htm0
          clear hf h0 hD hs ht hx hc hcn hcd hcb hdn hdd hdb hmn hmd hmb btm bqq bh q1 HQ
          conv => arg 2; whnf
          have Cc0 := HC0.out.cell 0
          have Cc1 := HC0.out.cell 1
          have Dc0 := HD0.out.cell 0
          have Dc1 := HD0.out.cell 1
          have Mc0 := HM0.out.cell 0
          have Mc1 := HM0.out.cell 1
          simp at Cc0 Cc1 Dc0 Dc1 Mc0 Mc1
          have Cl := HC0.out.lt
          have Dl := HD0.out.lt
          have Ml := HM0.out.lt
          go_wp2_with fail
          clear Cc0 Cc1 Dc0 Dc1 Mc0 Mc1 Cl Dl Ml
          refine (HLT.out _).mono ?_
          rintro e w1x ⟨rfl, hb⟩
          have HB1 := Lib.hid (bC HB0.out hb)
          have HL1 := Lib.hid (HL0.out.below hb)
          have HA1 := Lib.hid (HA0.out.below hb)
          have HC1 := Lib.hid (HC0.out.below hb)
          have HD1 := Lib.hid (HD0.out.below hb)
          have HM1 := Lib.hid (HM0.out.below hb)
          clear hb HB0 HL0 HA0 HC0 HD0 HM0
          have Mc0 := HM1.out.cell 0
          have Mc1 := HM1.out.cell 1
          have Dc0 := HD1.out.cell 0
          have Dc1 := HD1.out.cell 1
          simp at Mc0 Mc1 Dc0 Dc1
          have Ml := HM1.out.lt
          have Dl := HD1.out.lt
          go_wp2_with fail
          clear Mc0 Mc1 Dc0 Dc1 Ml Dl
          refine (HLF.out _).mono ?_
          rintro e w2x ⟨rfl, hb⟩
          have HB2 := Lib.hid (bC HB1.out hb)
          have HL2 := Lib.hid (HL1.out.below hb)
          have HA2 := Lib.hid (HA1.out.below hb)
          have HC2 := Lib.hid (HC1.out.below hb)
          have HD2 := Lib.hid (HD1.out.below hb)
          have HM2 := Lib.hid (HM1.out.below hb)
          clear hb HB1 HL1 HA1 HC1 HD1 HM1
          go_wp2_with fail
          have e0 := HC2.out.cell 0
          have e1 := HC2.out.cell 1
          simp at e0 e1
          have g1 := fun d os => cell_regrown e0 d os
          have g2 := fun d os => cell_regrown e1 d os
          refine wp_region_quiet_below (by kernel_rfl) (by kernel_rfl) ?_
          repeat (quiet_step (fail))
          refine wpQuiet_nil ?_
          intro _ hw'
          obtain ⟨⟨dq, osq⟩, hw''⟩ := hw'
          subst hw''
          have hb := below_regrown w2x dq osq
          clear g1 g2 e0 e1
          generalize grow (redrawn w2x dq) osq = w3x at *
          have HB3 := Lib.hid (bC HB2.out hb)
          have HL3 := Lib.hid (HL2.out.below hb)
          have HA3 := Lib.hid (HA2.out.below hb)
          have HC3 := Lib.hid (HC2.out.below hb)
          have HD3 := Lib.hid (HD2.out.below hb)
          have HM3 := Lib.hid (HM2.out.below hb)
          clear hb HB2 HL2 HA2 HC2 HD2 HM2
          have Cc0 := HC3.out.cell 0
          have Cc1 := HC3.out.cell 1
          simp at Cc0 Cc1
          have Cl := HC3.out.lt
          go_wp2_with fail
          clear Cc0 Cc1 Cl
          refine (Works_any _ (HN.out.below HB3.out)).mono ?_
          rintro e w4x ⟨rfl, hb⟩
          have HB4 := Lib.hid (bC HB3.out hb)
          have HL4 := Lib.hid (HL3.out.below hb)
          have HA4 := Lib.hid (HA3.out.below hb)
          have HC4 := Lib.hid (HC3.out.below hb)
          have HD4 := Lib.hid (HD3.out.below hb)
          have HM4 := Lib.hid (HM3.out.below hb)
          clear hb HB3 HL3 HA3 HC3 HD3 HM3
          go_wp2_with fail
          go_ret
          exact ⟨rfl, HB4.out⟩
        · have k9 : decide (qq < -2000) = false := decide_eq_false hlow
          rw [← hcn, ← hcd] at hcore
          obtain ⟨hcb1, hcb2⟩ := floor_best hf hD.1 hc hcore
          obtain ⟨an, ad, bn, bd, eHH, V⟩ := he_kept h0 (core := qq) (x := x) (by omega) (by omega) hx.1 hx.2 hcb1
          have hfl := floor_ok hf hD.1 hc hcore V
          have HH : Hid (∀ W, LogAt W (.agg #[.slice a l.at_.length cap, .slice a' l.edges.length cap']) l → Calls Tryd.prog 34 #[(.agg #[.slice a l.at_.length cap, .slice a' l.edges.length cap']), .int .i64 (qq), .int .i64 x] W (Gets (.tuple #[.agg #[.int .i64 an, .int .i64 ad], .agg #[.int .i64 bn, .int .i64 bd], .int .i64 0]) W)) := Lib.hid (fun W h => by have := Heights_any _ l (qq) x W h HS.out; rw [eHH] at this; exact this)
          obtain ⟨V0, v1, v2, v3, v4⟩ := V
          have fa := heights_fits hf (core := qq) (x := x) (by omega) (by omega) (by omega) (by omega) V0 (fun y hy => (best_least hy).1)
          have fb := heights_fits hf (core := qq) (x := x) (by omega) (by omega) (by omega) (by omega) V0 (fun y hy => (best_most hy).1)
          have HFA : Hid (∀ W, Calls Tryd.prog 48 #[.agg #[.int .i64 an, .int .i64 ad]] W (Gets (.bool true) W)) := Lib.hid (fun W => by have := fit_yes _ W fa; rw [v1, v2] at this; exact this)
          have HFB : Hid (∀ W, Calls Tryd.prog 48 #[.agg #[.int .i64 bn, .int .i64 bd]] W (Gets (.bool true) W)) := Lib.hid (fun W => by have := fit_yes _ W fb; rw [v3, v4] at this; exact this)
          obtain ⟨fa1, fa2, fa3⟩ := fa
          obtain ⟨fb1, fb2, fb3⟩ := fb
          rw [v2] at fa1 fa2 fa3
          rw [v1] at fa2 fa3
          rw [v4] at fb1 fb2 fb3
          rw [v3] at fb2 fb3
          have ad1 : 0 ≤ ad := by rw [← v2]; omega
          have bd1 : 0 ≤ bd := by rw [← v4]; omega
          obtain ⟨hh, hhe⟩ : ∃ hh, s + t * x = hh := ⟨_, rfl⟩
          rw [hhe] at hfl bh r6
          have p1 := mul_bd an D 200000000 100 (by omega) (by omega) (by omega) (by omega) (by decide)
          have p2 := mul_bd hh ad 800000 200 (by omega) (by omega) (by omega) (by omega) (by decide)
          have p3 := mul_bd hh bd 800000 200 (by omega) (by omega) (by omega) (by omega) (by decide)
          have p4 := mul_bd bn D 200000000 100 (by omega) (by omega) (by omega) (by omega) (by decide)
          have y1 : IntKind.i64.wrap (an * D) = an * D := IntWalk.i64_in _ (by omega)
          have y2 : IntKind.i64.wrap (hh * ad) = hh * ad := IntWalk.i64_in _ (by omega)
          have y3 : IntKind.i64.wrap (hh * bd) = hh * bd := IntWalk.i64_in _ (by omega)
          have y4 : IntKind.i64.wrap (bn * D) = bn * D := IntWalk.i64_in _ (by omega)
          have z1 : decide (an * D ≤ hh * ad) = true := decide_eq_true hfl.1
          have z2 : decide (hh * bd ≤ bn * D) = true := decide_eq_true hfl.2
          clear hlow hcore hcn0 htm0 hcb1 hcb2 eHH V0 v1 v2 v3 v4 fa1 fa2 fa3 fb1 fb2 fb3 ad1 bd1 p1 p2 p3 p4 hfl
          clear hf h0 hD hs ht hx hc hcn hcd hcb hdn hdd hdb hmn hmd hmb btm bqq bh q1 HQ
          conv => arg 2; whnf
          have Cc0 := HC0.out.cell 0
          have Cc1 := HC0.out.cell 1
          have Dc0 := HD0.out.cell 0
          have Dc1 := HD0.out.cell 1
          have Mc0 := HM0.out.cell 0
          have Mc1 := HM0.out.cell 1
          simp at Cc0 Cc1 Dc0 Dc1 Mc0 Mc1
          have Cl := HC0.out.lt
          have Dl := HD0.out.lt
          have Ml := HM0.out.lt
          go_wp2_with fail
          clear Cc0 Cc1 Dc0 Dc1 Mc0 Mc1 Cl Dl Ml
          refine (HLT.out _).mono ?_
          rintro e w1x ⟨rfl, hb⟩
          have HB1 := Lib.hid (bC HB0.out hb)
          have HL1 := Lib.hid (HL0.out.below hb)
          have HA1 := Lib.hid (HA0.out.below hb)
          have HC1 := Lib.hid (HC0.out.below hb)
          have HD1 := Lib.hid (HD0.out.below hb)
          have HM1 := Lib.hid (HM0.out.below hb)
          clear hb HB0 HL0 HA0 HC0 HD0 HM0
          have Mc0 := HM1.out.cell 0
          have Mc1 := HM1.out.cell 1
          have Dc0 := HD1.out.cell 0
          have Dc1 := HD1.out.cell 1
          simp at Mc0 Mc1 Dc0 Dc1
          have Ml := HM1.out.lt
          have Dl := HD1.out.lt
          go_wp2_with fail
          clear Mc0 Mc1 Dc0 Dc1 Ml Dl
          refine (HLF.out _).mono ?_
          rintro e w2x ⟨rfl, hb⟩
          have HB2 := Lib.hid (bC HB1.out hb)
          have HL2 := Lib.hid (HL1.out.below hb)
          have HA2 := Lib.hid (HA1.out.below hb)
          have HC2 := Lib.hid (HC1.out.below hb)
          have HD2 := Lib.hid (HD1.out.below hb)
          have HM2 := Lib.hid (HM1.out.below hb)
          clear hb HB1 HL1 HA1 HC1 HD1 HM1
          go_wp2_with fail
          have e0 := HC2.out.cell 0
          have e1 := HC2.out.cell 1
          simp at e0 e1
          have g1 := fun d os => cell_regrown e0 d os
          have g2 := fun d os => cell_regrown e1 d os
          refine wp_region_quiet_below (by kernel_rfl) (by kernel_rfl) ?_
          repeat (quiet_step (fail))
          refine wpQuiet_nil ?_
          intro _ hw'
          obtain ⟨⟨dq, osq⟩, hw''⟩ := hw'
          subst hw''
          have hb := below_regrown w2x dq osq
          clear g1 g2 e0 e1
          generalize grow (redrawn w2x dq) osq = w3x at *
          have HB3 := Lib.hid (bC HB2.out hb)
          have HL3 := Lib.hid (HL2.out.below hb)
          have HA3 := Lib.hid (HA2.out.below hb)
          have HC3 := Lib.hid (HC2.out.below hb)
          have HD3 := Lib.hid (HD2.out.below hb)
          have HM3 := Lib.hid (HM2.out.below hb)
          clear hb HB2 HL2 HA2 HC2 HD2 HM2
          have Cc0 := HC3.out.cell 0
          have Cc1 := HC3.out.cell 1
          have Lc0 := HL3.out.cell 0
          have Lc1 := HL3.out.cell 1
          simp at Cc0 Cc1 Lc0 Lc1
          have Cl := HC3.out.lt
          have Ll := HL3.out.lt
          go_wp2_with fail
          clear Cc0 Cc1 Lc0 Lc1 Cl Ll
          refine (HH.out _ (HV.out.below HB3.out)).mono ?_
          rintro e w4x ⟨rfl, hb⟩
          have HB4 := Lib.hid (bC HB3.out hb)
          have HL4 := Lib.hid (HL3.out.below hb)
          have HA4 := Lib.hid (HA3.out.below hb)
          have HC4 := Lib.hid (HC3.out.below hb)
          have HD4 := Lib.hid (HD3.out.below hb)
          have HM4 := Lib.hid (HM3.out.below hb)
          clear hb HB3 HL3 HA3 HC3 HD3 HM3
          go_wp2_with fail
          have hQ := (Blk.new w4x (.cells #[.int .i64 an, .int .i64 ad] 31)).alloc (.cells #[.int .i64 bn, .int .i64 bd] 31)
          have hT := Blk.new (w4x.alloc (.cells #[.int .i64 an, .int .i64 ad] 31)) (.cells #[.int .i64 bn, .int .i64 bd] 31)
          rw [World.size_alloc] at hT
          have hA := below2 w4x (.cells #[.int .i64 an, .int .i64 ad] 31) (.cells #[.int .i64 bn, .int .i64 bd] 31)
          generalize (w4x.alloc (.cells #[.int .i64 an, .int .i64 ad] 31)).alloc (.cells #[.int .i64 bn, .int .i64 bd] 31) = W4x at *
          have HQ5 := Lib.hid hQ
          have HT5 := Lib.hid hT
          clear hQ hT
          have HB5 := Lib.hid (bC HB4.out hA)
          have HL5 := Lib.hid (HL4.out.below hA)
          have HA5 := Lib.hid (HA4.out.below hA)
          have HC5 := Lib.hid (HC4.out.below hA)
          have HD5 := Lib.hid (HD4.out.below hA)
          have HM5 := Lib.hid (HM4.out.below hA)
          clear hA HB4 HL4 HA4 HC4 HD4 HM4
          refine (HFA.out _).mono ?_
          rintro e w6x ⟨rfl, hb⟩
          have HB6 := Lib.hid (bC HB5.out hb)
          have HL6 := Lib.hid (HL5.out.below hb)
          have HA6 := Lib.hid (HA5.out.below hb)
          have HC6 := Lib.hid (HC5.out.below hb)
          have HD6 := Lib.hid (HD5.out.below hb)
          have HM6 := Lib.hid (HM5.out.below hb)
          have HQ6 := Lib.hid (HQ5.out.below hb)
          have HT6 := Lib.hid (HT5.out.below hb)
          clear hb HB5 HL5 HA5 HC5 HD5 HM5 HQ5 HT5
          have Tc0 := HT6.out.cell 0
          have Tc1 := HT6.out.cell 1
          simp at Tc0 Tc1
          have Tl := HT6.out.lt
          go_wp2_with fail
          clear Tc0 Tc1 Tl
          refine (HFB.out _).mono ?_
          rintro e w7x ⟨rfl, hb⟩
          have HB7 := Lib.hid (bC HB6.out hb)
          have HL7 := Lib.hid (HL6.out.below hb)
          have HA7 := Lib.hid (HA6.out.below hb)
          have HC7 := Lib.hid (HC6.out.below hb)
          have HD7 := Lib.hid (HD6.out.below hb)
          have HM7 := Lib.hid (HM6.out.below hb)
          have HQ7 := Lib.hid (HQ6.out.below hb)
          have HT7 := Lib.hid (HT6.out.below hb)
          clear hb HB6 HL6 HA6 HC6 HD6 HM6 HQ6 HT6
          have Ac0 := HA7.out.cell 0
          have Ac1 := HA7.out.cell 1
          have Ac2 := HA7.out.cell 2
          have Qc0 := HQ7.out.cell 0
          have Qc1 := HQ7.out.cell 1
          have Tc0 := HT7.out.cell 0
          have Tc1 := HT7.out.cell 1
          simp at Ac0 Ac1 Ac2 Qc0 Qc1 Tc0 Tc1
          have Al := HA7.out.lt
          have Ql := HQ7.out.lt
          have Tl := HT7.out.lt
          go_wp2_with fail
          clear Ac0 Ac1 Ac2 Qc0 Qc1 Tc0 Tc1 Al Ql Tl
          refine (Works_any _ (HN.out.below HB7.out)).mono ?_
          rintro e w8x ⟨rfl, hb⟩
          have HB8 := Lib.hid (bC HB7.out hb)
          have HL8 := Lib.hid (HL7.out.below hb)
          have HA8 := Lib.hid (HA7.out.below hb)
          have HC8 := Lib.hid (HC7.out.below hb)
          have HD8 := Lib.hid (HD7.out.below hb)
          have HM8 := Lib.hid (HM7.out.below hb)
          have HQ8 := Lib.hid (HQ7.out.below hb)
          have HT8 := Lib.hid (HT7.out.below hb)
          clear hb HB7 HL7 HA7 HC7 HD7 HM7 HQ7 HT7
          go_wp2_with fail
          go_ret
          exact ⟨rfl, HB8.out⟩
      · have k7 : decide (cn < 0) = true := decide_eq_true (by omega)
        have k8 : (tm != 0) = true := by simp [htm0]
        have hcore := HQ.out (qq - 1) (.inr ⟨rfl, by omega, htm0⟩)
        by_cases hlow : qq - 1 < -2000
        · have k9 : decide (qq - 1 < -2000) = true := decide_eq_true hlow
          clear hlow hcore hcn0 htm0
          clear hf h0 hD hs ht hx hc hcn hcd hcb hdn hdd hdb hmn hmd hmb btm bqq bh q1 HQ
          conv => arg 2; whnf
          have Cc0 := HC0.out.cell 0
          have Cc1 := HC0.out.cell 1
          have Dc0 := HD0.out.cell 0
          have Dc1 := HD0.out.cell 1
          have Mc0 := HM0.out.cell 0
          have Mc1 := HM0.out.cell 1
          simp at Cc0 Cc1 Dc0 Dc1 Mc0 Mc1
          have Cl := HC0.out.lt
          have Dl := HD0.out.lt
          have Ml := HM0.out.lt
          go_wp2_with fail
          clear Cc0 Cc1 Dc0 Dc1 Mc0 Mc1 Cl Dl Ml
          refine (HLT.out _).mono ?_
          rintro e w1x ⟨rfl, hb⟩
          have HB1 := Lib.hid (bC HB0.out hb)
          have HL1 := Lib.hid (HL0.out.below hb)
          have HA1 := Lib.hid (HA0.out.below hb)
          have HC1 := Lib.hid (HC0.out.below hb)
          have HD1 := Lib.hid (HD0.out.below hb)
          have HM1 := Lib.hid (HM0.out.below hb)
          clear hb HB0 HL0 HA0 HC0 HD0 HM0
          have Mc0 := HM1.out.cell 0
          have Mc1 := HM1.out.cell 1
          have Dc0 := HD1.out.cell 0
          have Dc1 := HD1.out.cell 1
          simp at Mc0 Mc1 Dc0 Dc1
          have Ml := HM1.out.lt
          have Dl := HD1.out.lt
          go_wp2_with fail
          clear Mc0 Mc1 Dc0 Dc1 Ml Dl
          refine (HLF.out _).mono ?_
          rintro e w2x ⟨rfl, hb⟩
          have HB2 := Lib.hid (bC HB1.out hb)
          have HL2 := Lib.hid (HL1.out.below hb)
          have HA2 := Lib.hid (HA1.out.below hb)
          have HC2 := Lib.hid (HC1.out.below hb)
          have HD2 := Lib.hid (HD1.out.below hb)
          have HM2 := Lib.hid (HM1.out.below hb)
          clear hb HB1 HL1 HA1 HC1 HD1 HM1
          go_wp2_with fail
          have e0 := HC2.out.cell 0
          have e1 := HC2.out.cell 1
          simp at e0 e1
          have g1 := fun d os => cell_regrown e0 d os
          have g2 := fun d os => cell_regrown e1 d os
          refine wp_region_quiet_below (by kernel_rfl) (by kernel_rfl) ?_
          repeat (quiet_step (fail))
          refine wpQuiet_nil ?_
          intro _ hw'
          obtain ⟨⟨dq, osq⟩, hw''⟩ := hw'
          subst hw''
          have hb := below_regrown w2x dq osq
          clear g1 g2 e0 e1
          generalize grow (redrawn w2x dq) osq = w3x at *
          have HB3 := Lib.hid (bC HB2.out hb)
          have HL3 := Lib.hid (HL2.out.below hb)
          have HA3 := Lib.hid (HA2.out.below hb)
          have HC3 := Lib.hid (HC2.out.below hb)
          have HD3 := Lib.hid (HD2.out.below hb)
          have HM3 := Lib.hid (HM2.out.below hb)
          clear hb HB2 HL2 HA2 HC2 HD2 HM2
          have Cc0 := HC3.out.cell 0
          have Cc1 := HC3.out.cell 1
          simp at Cc0 Cc1
          have Cl := HC3.out.lt
          go_wp2_with fail
          clear Cc0 Cc1 Cl
          refine (Works_any _ (HN.out.below HB3.out)).mono ?_
          rintro e w4x ⟨rfl, hb⟩
          have HB4 := Lib.hid (bC HB3.out hb)
          have HL4 := Lib.hid (HL3.out.below hb)
          have HA4 := Lib.hid (HA3.out.below hb)
          have HC4 := Lib.hid (HC3.out.below hb)
          have HD4 := Lib.hid (HD3.out.below hb)
          have HM4 := Lib.hid (HM3.out.below hb)
          clear hb HB3 HL3 HA3 HC3 HD3 HM3
          go_wp2_with fail
          go_ret
          exact ⟨rfl, HB4.out⟩
        · have k9 : decide (qq - 1 < -2000) = false := decide_eq_false hlow
          rw [← hcn, ← hcd] at hcore
          obtain ⟨hcb1, hcb2⟩ := floor_best hf hD.1 hc hcore
          obtain ⟨an, ad, bn, bd, eHH, V⟩ := he_kept h0 (core := qq - 1) (x := x) (by omega) (by omega) hx.1 hx.2 hcb1
          have hfl := floor_ok hf hD.1 hc hcore V
          have HH : Hid (∀ W, LogAt W (.agg #[.slice a l.at_.length cap, .slice a' l.edges.length cap']) l → Calls Tryd.prog 34 #[(.agg #[.slice a l.at_.length cap, .slice a' l.edges.length cap']), .int .i64 (qq - 1), .int .i64 x] W (Gets (.tuple #[.agg #[.int .i64 an, .int .i64 ad], .agg #[.int .i64 bn, .int .i64 bd], .int .i64 0]) W)) := Lib.hid (fun W h => by have := Heights_any _ l (qq - 1) x W h HS.out; rw [eHH] at this; exact this)
          obtain ⟨V0, v1, v2, v3, v4⟩ := V
          have fa := heights_fits hf (core := qq - 1) (x := x) (by omega) (by omega) (by omega) (by omega) V0 (fun y hy => (best_least hy).1)
          have fb := heights_fits hf (core := qq - 1) (x := x) (by omega) (by omega) (by omega) (by omega) V0 (fun y hy => (best_most hy).1)
          have HFA : Hid (∀ W, Calls Tryd.prog 48 #[.agg #[.int .i64 an, .int .i64 ad]] W (Gets (.bool true) W)) := Lib.hid (fun W => by have := fit_yes _ W fa; rw [v1, v2] at this; exact this)
          have HFB : Hid (∀ W, Calls Tryd.prog 48 #[.agg #[.int .i64 bn, .int .i64 bd]] W (Gets (.bool true) W)) := Lib.hid (fun W => by have := fit_yes _ W fb; rw [v3, v4] at this; exact this)
          obtain ⟨fa1, fa2, fa3⟩ := fa
          obtain ⟨fb1, fb2, fb3⟩ := fb
          rw [v2] at fa1 fa2 fa3
          rw [v1] at fa2 fa3
          rw [v4] at fb1 fb2 fb3
          rw [v3] at fb2 fb3
          have ad1 : 0 ≤ ad := by rw [← v2]; omega
          have bd1 : 0 ≤ bd := by rw [← v4]; omega
          obtain ⟨hh, hhe⟩ : ∃ hh, s + t * x = hh := ⟨_, rfl⟩
          rw [hhe] at hfl bh r6
          have p1 := mul_bd an D 200000000 100 (by omega) (by omega) (by omega) (by omega) (by decide)
          have p2 := mul_bd hh ad 800000 200 (by omega) (by omega) (by omega) (by omega) (by decide)
          have p3 := mul_bd hh bd 800000 200 (by omega) (by omega) (by omega) (by omega) (by decide)
          have p4 := mul_bd bn D 200000000 100 (by omega) (by omega) (by omega) (by omega) (by decide)
          have y1 : IntKind.i64.wrap (an * D) = an * D := IntWalk.i64_in _ (by omega)
          have y2 : IntKind.i64.wrap (hh * ad) = hh * ad := IntWalk.i64_in _ (by omega)
          have y3 : IntKind.i64.wrap (hh * bd) = hh * bd := IntWalk.i64_in _ (by omega)
          have y4 : IntKind.i64.wrap (bn * D) = bn * D := IntWalk.i64_in _ (by omega)
          have z1 : decide (an * D ≤ hh * ad) = true := decide_eq_true hfl.1
          have z2 : decide (hh * bd ≤ bn * D) = true := decide_eq_true hfl.2
          clear hlow hcore hcn0 htm0 hcb1 hcb2 eHH V0 v1 v2 v3 v4 fa1 fa2 fa3 fb1 fb2 fb3 ad1 bd1 p1 p2 p3 p4 hfl
          clear hf h0 hD hs ht hx hc hcn hcd hcb hdn hdd hdb hmn hmd hmb btm bqq bh q1 HQ
          conv => arg 2; whnf
          have Cc0 := HC0.out.cell 0
          have Cc1 := HC0.out.cell 1
          have Dc0 := HD0.out.cell 0
          have Dc1 := HD0.out.cell 1
          have Mc0 := HM0.out.cell 0
          have Mc1 := HM0.out.cell 1
          simp at Cc0 Cc1 Dc0 Dc1 Mc0 Mc1
          have Cl := HC0.out.lt
          have Dl := HD0.out.lt
          have Ml := HM0.out.lt
          go_wp2_with fail
          clear Cc0 Cc1 Dc0 Dc1 Mc0 Mc1 Cl Dl Ml
          refine (HLT.out _).mono ?_
          rintro e w1x ⟨rfl, hb⟩
          have HB1 := Lib.hid (bC HB0.out hb)
          have HL1 := Lib.hid (HL0.out.below hb)
          have HA1 := Lib.hid (HA0.out.below hb)
          have HC1 := Lib.hid (HC0.out.below hb)
          have HD1 := Lib.hid (HD0.out.below hb)
          have HM1 := Lib.hid (HM0.out.below hb)
          clear hb HB0 HL0 HA0 HC0 HD0 HM0
          have Mc0 := HM1.out.cell 0
          have Mc1 := HM1.out.cell 1
          have Dc0 := HD1.out.cell 0
          have Dc1 := HD1.out.cell 1
          simp at Mc0 Mc1 Dc0 Dc1
          have Ml := HM1.out.lt
          have Dl := HD1.out.lt
          go_wp2_with fail
          clear Mc0 Mc1 Dc0 Dc1 Ml Dl
          refine (HLF.out _).mono ?_
          rintro e w2x ⟨rfl, hb⟩
          have HB2 := Lib.hid (bC HB1.out hb)
          have HL2 := Lib.hid (HL1.out.below hb)
          have HA2 := Lib.hid (HA1.out.below hb)
          have HC2 := Lib.hid (HC1.out.below hb)
          have HD2 := Lib.hid (HD1.out.below hb)
          have HM2 := Lib.hid (HM1.out.below hb)
          clear hb HB1 HL1 HA1 HC1 HD1 HM1
          go_wp2_with fail
          have e0 := HC2.out.cell 0
          have e1 := HC2.out.cell 1
          simp at e0 e1
          have g1 := fun d os => cell_regrown e0 d os
          have g2 := fun d os => cell_regrown e1 d os
          refine wp_region_quiet_below (by kernel_rfl) (by kernel_rfl) ?_
          repeat (quiet_step (fail))
          refine wpQuiet_nil ?_
          intro _ hw'
          obtain ⟨⟨dq, osq⟩, hw''⟩ := hw'
          subst hw''
          have hb := below_regrown w2x dq osq
          clear g1 g2 e0 e1
          generalize grow (redrawn w2x dq) osq = w3x at *
          have HB3 := Lib.hid (bC HB2.out hb)
          have HL3 := Lib.hid (HL2.out.below hb)
          have HA3 := Lib.hid (HA2.out.below hb)
          have HC3 := Lib.hid (HC2.out.below hb)
          have HD3 := Lib.hid (HD2.out.below hb)
          have HM3 := Lib.hid (HM2.out.below hb)
          clear hb HB2 HL2 HA2 HC2 HD2 HM2
          have Cc0 := HC3.out.cell 0
          have Cc1 := HC3.out.cell 1
          have Lc0 := HL3.out.cell 0
          have Lc1 := HL3.out.cell 1
          simp at Cc0 Cc1 Lc0 Lc1
          have Cl := HC3.out.lt
          have Ll := HL3.out.lt
          go_wp2_with fail
          clear Cc0 Cc1 Lc0 Lc1 Cl Ll
          refine (HH.out _ (HV.out.below HB3.out)).mono ?_
          rintro e w4x ⟨rfl, hb⟩
          have HB4 := Lib.hid (bC HB3.out hb)
          have HL4 := Lib.hid (HL3.out.below hb)
          have HA4 := Lib.hid (HA3.out.below hb)
          have HC4 := Lib.hid (HC3.out.below hb)
          have HD4 := Lib.hid (HD3.out.below hb)
          have HM4 := Lib.hid (HM3.out.below hb)
          clear hb HB3 HL3 HA3 HC3 HD3 HM3
          go_wp2_with fail
          have hQ := (Blk.new w4x (.cells #[.int .i64 an, .int .i64 ad] 31)).alloc (.cells #[.int .i64 bn, .int .i64 bd] 31)
          have hT := Blk.new (w4x.alloc (.cells #[.int .i64 an, .int .i64 ad] 31)) (.cells #[.int .i64 bn, .int .i64 bd] 31)
          rw [World.size_alloc] at hT
          have hA := below2 w4x (.cells #[.int .i64 an, .int .i64 ad] 31) (.cells #[.int .i64 bn, .int .i64 bd] 31)
          generalize (w4x.alloc (.cells #[.int .i64 an, .int .i64 ad] 31)).alloc (.cells #[.int .i64 bn, .int .i64 bd] 31) = W4x at *
          have HQ5 := Lib.hid hQ
          have HT5 := Lib.hid hT
          clear hQ hT
          have HB5 := Lib.hid (bC HB4.out hA)
          have HL5 := Lib.hid (HL4.out.below hA)
          have HA5 := Lib.hid (HA4.out.below hA)
          have HC5 := Lib.hid (HC4.out.below hA)
          have HD5 := Lib.hid (HD4.out.below hA)
          have HM5 := Lib.hid (HM4.out.below hA)
          clear hA HB4 HL4 HA4 HC4 HD4 HM4
          refine (HFA.out _).mono ?_
          rintro e w6x ⟨rfl, hb⟩
          have HB6 := Lib.hid (bC HB5.out hb)
          have HL6 := Lib.hid (HL5.out.below hb)
          have HA6 := Lib.hid (HA5.out.below hb)
          have HC6 := Lib.hid (HC5.out.below hb)
          have HD6 := Lib.hid (HD5.out.below hb)
          have HM6 := Lib.hid (HM5.out.below hb)
          have HQ6 := Lib.hid (HQ5.out.below hb)
          have HT6 := Lib.hid (HT5.out.below hb)
          clear hb HB5 HL5 HA5 HC5 HD5 HM5 HQ5 HT5
          have Tc0 := HT6.out.cell 0
          have Tc1 := HT6.out.cell 1
          simp at Tc0 Tc1
          have Tl := HT6.out.lt
          go_wp2_with fail
          clear Tc0 Tc1 Tl
          refine (HFB.out _).mono ?_
          rintro e w7x ⟨rfl, hb⟩
          have HB7 := Lib.hid (bC HB6.out hb)
          have HL7 := Lib.hid (HL6.out.below hb)
          have HA7 := Lib.hid (HA6.out.below hb)
          have HC7 := Lib.hid (HC6.out.below hb)
          have HD7 := Lib.hid (HD6.out.below hb)
          have HM7 := Lib.hid (HM6.out.below hb)
          have HQ7 := Lib.hid (HQ6.out.below hb)
          have HT7 := Lib.hid (HT6.out.below hb)
          clear hb HB6 HL6 HA6 HC6 HD6 HM6 HQ6 HT6
          have Ac0 := HA7.out.cell 0
          have Ac1 := HA7.out.cell 1
          have Ac2 := HA7.out.cell 2
          have Qc0 := HQ7.out.cell 0
          have Qc1 := HQ7.out.cell 1
          have Tc0 := HT7.out.cell 0
          have Tc1 := HT7.out.cell 1
          simp at Ac0 Ac1 Ac2 Qc0 Qc1 Tc0 Tc1
          have Al := HA7.out.lt
          have Ql := HQ7.out.lt
          have Tl := HT7.out.lt
          go_wp2_with fail
          clear Ac0 Ac1 Ac2 Qc0 Qc1 Tc0 Tc1 Al Ql Tl
          refine (Works_any _ (HN.out.below HB7.out)).mono ?_
          rintro e w8x ⟨rfl, hb⟩
          have HB8 := Lib.hid (bC HB7.out hb)
          have HL8 := Lib.hid (HL7.out.below hb)
          have HA8 := Lib.hid (HA7.out.below hb)
          have HC8 := Lib.hid (HC7.out.below hb)
          have HD8 := Lib.hid (HD7.out.below hb)
          have HM8 := Lib.hid (HM7.out.below hb)
          have HQ8 := Lib.hid (HQ7.out.below hb)
          have HT8 := Lib.hid (HT7.out.below hb)
          clear hb HB7 HL7 HA7 HC7 HD7 HM7 HQ7 HT7
          go_wp2_with fail
          go_ret
          exact ⟨rfl, HB8.out⟩
  · have HLT : Hid (∀ W, Calls Tryd.prog 45 #[.agg #[.int .i64 mn, .int .i64 md], .agg #[.int .i64 cn, .int .i64 cd]] W (Gets (.bool false) W)) := Lib.hid (HLE.out false (decide_eq_false hmc))
    clear hmc HLE HL2
    by_cases hcn0 : 0 ≤ cn
    · have k7 : decide (cn < 0) = false := decide_eq_false (by omega)
      have hcore := HQ.out (qq) (.inl ⟨rfl, .inl hcn0⟩)
      by_cases hlow : qq < -2000
      · have k9 : decide (qq < -2000) = true := decide_eq_true hlow
        clear hlow hcore hcn0
        clear hf h0 hD hs ht hx hc hcn hcd hcb hdn hdd hdb hmn hmd hmb btm bqq bh q1 HQ
        conv => arg 2; whnf
        have Cc0 := HC0.out.cell 0
        have Cc1 := HC0.out.cell 1
        have Dc0 := HD0.out.cell 0
        have Dc1 := HD0.out.cell 1
        have Mc0 := HM0.out.cell 0
        have Mc1 := HM0.out.cell 1
        simp at Cc0 Cc1 Dc0 Dc1 Mc0 Mc1
        have Cl := HC0.out.lt
        have Dl := HD0.out.lt
        have Ml := HM0.out.lt
        go_wp2_with fail
        clear Cc0 Cc1 Dc0 Dc1 Mc0 Mc1 Cl Dl Ml
        refine (HLT.out _).mono ?_
        rintro e w1x ⟨rfl, hb⟩
        have HB1 := Lib.hid (bC HB0.out hb)
        have HL1 := Lib.hid (HL0.out.below hb)
        have HA1 := Lib.hid (HA0.out.below hb)
        have HC1 := Lib.hid (HC0.out.below hb)
        have HD1 := Lib.hid (HD0.out.below hb)
        have HM1 := Lib.hid (HM0.out.below hb)
        clear hb HB0 HL0 HA0 HC0 HD0 HM0
        go_wp2_with fail
        have e0 := HC1.out.cell 0
        have e1 := HC1.out.cell 1
        simp at e0 e1
        have g1 := fun d os => cell_regrown e0 d os
        have g2 := fun d os => cell_regrown e1 d os
        refine wp_region_quiet_below (by kernel_rfl) (by kernel_rfl) ?_
        repeat (quiet_step (fail))
        refine wpQuiet_nil ?_
        intro _ hw'
        obtain ⟨⟨dq, osq⟩, hw''⟩ := hw'
        subst hw''
        have hb := below_regrown w1x dq osq
        clear g1 g2 e0 e1
        generalize grow (redrawn w1x dq) osq = w2x at *
        have HB2 := Lib.hid (bC HB1.out hb)
        have HL2 := Lib.hid (HL1.out.below hb)
        have HA2 := Lib.hid (HA1.out.below hb)
        have HC2 := Lib.hid (HC1.out.below hb)
        have HD2 := Lib.hid (HD1.out.below hb)
        have HM2 := Lib.hid (HM1.out.below hb)
        clear hb HB1 HL1 HA1 HC1 HD1 HM1
        have Cc0 := HC2.out.cell 0
        have Cc1 := HC2.out.cell 1
        simp at Cc0 Cc1
        have Cl := HC2.out.lt
        go_wp2_with fail
        clear Cc0 Cc1 Cl
        refine (Works_any _ (HN.out.below HB2.out)).mono ?_
        rintro e w3x ⟨rfl, hb⟩
        have HB3 := Lib.hid (bC HB2.out hb)
        have HL3 := Lib.hid (HL2.out.below hb)
        have HA3 := Lib.hid (HA2.out.below hb)
        have HC3 := Lib.hid (HC2.out.below hb)
        have HD3 := Lib.hid (HD2.out.below hb)
        have HM3 := Lib.hid (HM2.out.below hb)
        clear hb HB2 HL2 HA2 HC2 HD2 HM2
        go_wp2_with fail
        go_ret
        exact ⟨rfl, HB3.out⟩
      · have k9 : decide (qq < -2000) = false := decide_eq_false hlow
        rw [← hcn, ← hcd] at hcore
        obtain ⟨hcb1, hcb2⟩ := floor_best hf hD.1 hc hcore
        obtain ⟨an, ad, bn, bd, eHH, V⟩ := he_kept h0 (core := qq) (x := x) (by omega) (by omega) hx.1 hx.2 hcb1
        have hfl := floor_ok hf hD.1 hc hcore V
        have HH : Hid (∀ W, LogAt W (.agg #[.slice a l.at_.length cap, .slice a' l.edges.length cap']) l → Calls Tryd.prog 34 #[(.agg #[.slice a l.at_.length cap, .slice a' l.edges.length cap']), .int .i64 (qq), .int .i64 x] W (Gets (.tuple #[.agg #[.int .i64 an, .int .i64 ad], .agg #[.int .i64 bn, .int .i64 bd], .int .i64 0]) W)) := Lib.hid (fun W h => by have := Heights_any _ l (qq) x W h HS.out; rw [eHH] at this; exact this)
        obtain ⟨V0, v1, v2, v3, v4⟩ := V
        have fa := heights_fits hf (core := qq) (x := x) (by omega) (by omega) (by omega) (by omega) V0 (fun y hy => (best_least hy).1)
        have fb := heights_fits hf (core := qq) (x := x) (by omega) (by omega) (by omega) (by omega) V0 (fun y hy => (best_most hy).1)
        have HFA : Hid (∀ W, Calls Tryd.prog 48 #[.agg #[.int .i64 an, .int .i64 ad]] W (Gets (.bool true) W)) := Lib.hid (fun W => by have := fit_yes _ W fa; rw [v1, v2] at this; exact this)
        have HFB : Hid (∀ W, Calls Tryd.prog 48 #[.agg #[.int .i64 bn, .int .i64 bd]] W (Gets (.bool true) W)) := Lib.hid (fun W => by have := fit_yes _ W fb; rw [v3, v4] at this; exact this)
        obtain ⟨fa1, fa2, fa3⟩ := fa
        obtain ⟨fb1, fb2, fb3⟩ := fb
        rw [v2] at fa1 fa2 fa3
        rw [v1] at fa2 fa3
        rw [v4] at fb1 fb2 fb3
        rw [v3] at fb2 fb3
        have ad1 : 0 ≤ ad := by rw [← v2]; omega
        have bd1 : 0 ≤ bd := by rw [← v4]; omega
        obtain ⟨hh, hhe⟩ : ∃ hh, s + t * x = hh := ⟨_, rfl⟩
        rw [hhe] at hfl bh r6
        have p1 := mul_bd an D 200000000 100 (by omega) (by omega) (by omega) (by omega) (by decide)
        have p2 := mul_bd hh ad 800000 200 (by omega) (by omega) (by omega) (by omega) (by decide)
        have p3 := mul_bd hh bd 800000 200 (by omega) (by omega) (by omega) (by omega) (by decide)
        have p4 := mul_bd bn D 200000000 100 (by omega) (by omega) (by omega) (by omega) (by decide)
        have y1 : IntKind.i64.wrap (an * D) = an * D := IntWalk.i64_in _ (by omega)
        have y2 : IntKind.i64.wrap (hh * ad) = hh * ad := IntWalk.i64_in _ (by omega)
        have y3 : IntKind.i64.wrap (hh * bd) = hh * bd := IntWalk.i64_in _ (by omega)
        have y4 : IntKind.i64.wrap (bn * D) = bn * D := IntWalk.i64_in _ (by omega)
        have z1 : decide (an * D ≤ hh * ad) = true := decide_eq_true hfl.1
        have z2 : decide (hh * bd ≤ bn * D) = true := decide_eq_true hfl.2
        clear hlow hcore hcn0 hcb1 hcb2 eHH V0 v1 v2 v3 v4 fa1 fa2 fa3 fb1 fb2 fb3 ad1 bd1 p1 p2 p3 p4 hfl
        clear hf h0 hD hs ht hx hc hcn hcd hcb hdn hdd hdb hmn hmd hmb btm bqq bh q1 HQ
        conv => arg 2; whnf
        have Cc0 := HC0.out.cell 0
        have Cc1 := HC0.out.cell 1
        have Dc0 := HD0.out.cell 0
        have Dc1 := HD0.out.cell 1
        have Mc0 := HM0.out.cell 0
        have Mc1 := HM0.out.cell 1
        simp at Cc0 Cc1 Dc0 Dc1 Mc0 Mc1
        have Cl := HC0.out.lt
        have Dl := HD0.out.lt
        have Ml := HM0.out.lt
        go_wp2_with fail
        clear Cc0 Cc1 Dc0 Dc1 Mc0 Mc1 Cl Dl Ml
        refine (HLT.out _).mono ?_
        rintro e w1x ⟨rfl, hb⟩
        have HB1 := Lib.hid (bC HB0.out hb)
        have HL1 := Lib.hid (HL0.out.below hb)
        have HA1 := Lib.hid (HA0.out.below hb)
        have HC1 := Lib.hid (HC0.out.below hb)
        have HD1 := Lib.hid (HD0.out.below hb)
        have HM1 := Lib.hid (HM0.out.below hb)
        clear hb HB0 HL0 HA0 HC0 HD0 HM0
        go_wp2_with fail
        have e0 := HC1.out.cell 0
        have e1 := HC1.out.cell 1
        simp at e0 e1
        have g1 := fun d os => cell_regrown e0 d os
        have g2 := fun d os => cell_regrown e1 d os
        refine wp_region_quiet_below (by kernel_rfl) (by kernel_rfl) ?_
        repeat (quiet_step (fail))
        refine wpQuiet_nil ?_
        intro _ hw'
        obtain ⟨⟨dq, osq⟩, hw''⟩ := hw'
        subst hw''
        have hb := below_regrown w1x dq osq
        clear g1 g2 e0 e1
        generalize grow (redrawn w1x dq) osq = w2x at *
        have HB2 := Lib.hid (bC HB1.out hb)
        have HL2 := Lib.hid (HL1.out.below hb)
        have HA2 := Lib.hid (HA1.out.below hb)
        have HC2 := Lib.hid (HC1.out.below hb)
        have HD2 := Lib.hid (HD1.out.below hb)
        have HM2 := Lib.hid (HM1.out.below hb)
        clear hb HB1 HL1 HA1 HC1 HD1 HM1
        have Cc0 := HC2.out.cell 0
        have Cc1 := HC2.out.cell 1
        have Lc0 := HL2.out.cell 0
        have Lc1 := HL2.out.cell 1
        simp at Cc0 Cc1 Lc0 Lc1
        have Cl := HC2.out.lt
        have Ll := HL2.out.lt
        go_wp2_with fail
        clear Cc0 Cc1 Lc0 Lc1 Cl Ll
        refine (HH.out _ (HV.out.below HB2.out)).mono ?_
        rintro e w3x ⟨rfl, hb⟩
        have HB3 := Lib.hid (bC HB2.out hb)
        have HL3 := Lib.hid (HL2.out.below hb)
        have HA3 := Lib.hid (HA2.out.below hb)
        have HC3 := Lib.hid (HC2.out.below hb)
        have HD3 := Lib.hid (HD2.out.below hb)
        have HM3 := Lib.hid (HM2.out.below hb)
        clear hb HB2 HL2 HA2 HC2 HD2 HM2
        go_wp2_with fail
        have hQ := (Blk.new w3x (.cells #[.int .i64 an, .int .i64 ad] 31)).alloc (.cells #[.int .i64 bn, .int .i64 bd] 31)
        have hT := Blk.new (w3x.alloc (.cells #[.int .i64 an, .int .i64 ad] 31)) (.cells #[.int .i64 bn, .int .i64 bd] 31)
        rw [World.size_alloc] at hT
        have hA := below2 w3x (.cells #[.int .i64 an, .int .i64 ad] 31) (.cells #[.int .i64 bn, .int .i64 bd] 31)
        generalize (w3x.alloc (.cells #[.int .i64 an, .int .i64 ad] 31)).alloc (.cells #[.int .i64 bn, .int .i64 bd] 31) = W3x at *
        have HQ4 := Lib.hid hQ
        have HT4 := Lib.hid hT
        clear hQ hT
        have HB4 := Lib.hid (bC HB3.out hA)
        have HL4 := Lib.hid (HL3.out.below hA)
        have HA4 := Lib.hid (HA3.out.below hA)
        have HC4 := Lib.hid (HC3.out.below hA)
        have HD4 := Lib.hid (HD3.out.below hA)
        have HM4 := Lib.hid (HM3.out.below hA)
        clear hA HB3 HL3 HA3 HC3 HD3 HM3
        refine (HFA.out _).mono ?_
        rintro e w5x ⟨rfl, hb⟩
        have HB5 := Lib.hid (bC HB4.out hb)
        have HL5 := Lib.hid (HL4.out.below hb)
        have HA5 := Lib.hid (HA4.out.below hb)
        have HC5 := Lib.hid (HC4.out.below hb)
        have HD5 := Lib.hid (HD4.out.below hb)
        have HM5 := Lib.hid (HM4.out.below hb)
        have HQ5 := Lib.hid (HQ4.out.below hb)
        have HT5 := Lib.hid (HT4.out.below hb)
        clear hb HB4 HL4 HA4 HC4 HD4 HM4 HQ4 HT4
        have Tc0 := HT5.out.cell 0
        have Tc1 := HT5.out.cell 1
        simp at Tc0 Tc1
        have Tl := HT5.out.lt
        go_wp2_with fail
        clear Tc0 Tc1 Tl
        refine (HFB.out _).mono ?_
        rintro e w6x ⟨rfl, hb⟩
        have HB6 := Lib.hid (bC HB5.out hb)
        have HL6 := Lib.hid (HL5.out.below hb)
        have HA6 := Lib.hid (HA5.out.below hb)
        have HC6 := Lib.hid (HC5.out.below hb)
        have HD6 := Lib.hid (HD5.out.below hb)
        have HM6 := Lib.hid (HM5.out.below hb)
        have HQ6 := Lib.hid (HQ5.out.below hb)
        have HT6 := Lib.hid (HT5.out.below hb)
        clear hb HB5 HL5 HA5 HC5 HD5 HM5 HQ5 HT5
        have Ac0 := HA6.out.cell 0
        have Ac1 := HA6.out.cell 1
        have Ac2 := HA6.out.cell 2
        have Qc0 := HQ6.out.cell 0
        have Qc1 := HQ6.out.cell 1
        have Tc0 := HT6.out.cell 0
        have Tc1 := HT6.out.cell 1
        simp at Ac0 Ac1 Ac2 Qc0 Qc1 Tc0 Tc1
        have Al := HA6.out.lt
        have Ql := HQ6.out.lt
        have Tl := HT6.out.lt
        go_wp2_with fail
        clear Ac0 Ac1 Ac2 Qc0 Qc1 Tc0 Tc1 Al Ql Tl
        refine (Works_any _ (HN.out.below HB6.out)).mono ?_
        rintro e w7x ⟨rfl, hb⟩
        have HB7 := Lib.hid (bC HB6.out hb)
        have HL7 := Lib.hid (HL6.out.below hb)
        have HA7 := Lib.hid (HA6.out.below hb)
        have HC7 := Lib.hid (HC6.out.below hb)
        have HD7 := Lib.hid (HD6.out.below hb)
        have HM7 := Lib.hid (HM6.out.below hb)
        have HQ7 := Lib.hid (HQ6.out.below hb)
        have HT7 := Lib.hid (HT6.out.below hb)
        clear hb HB6 HL6 HA6 HC6 HD6 HM6 HQ6 HT6
        go_wp2_with fail
        go_ret
        exact ⟨rfl, HB7.out⟩
    · by_cases htm0 : tm = 0
      · have k7 : decide (cn < 0) = true := decide_eq_true (by omega)
        have k8 : (tm != 0) = false := by simp [htm0]
        have hcore := HQ.out (qq) (.inl ⟨rfl, .inr htm0⟩)
        by_cases hlow : qq < -2000
        · have k9 : decide (qq < -2000) = true := decide_eq_true hlow
          clear hlow hcore hcn0 htm0
          clear hf h0 hD hs ht hx hc hcn hcd hcb hdn hdd hdb hmn hmd hmb btm bqq bh q1 HQ
          conv => arg 2; whnf
          have Cc0 := HC0.out.cell 0
          have Cc1 := HC0.out.cell 1
          have Dc0 := HD0.out.cell 0
          have Dc1 := HD0.out.cell 1
          have Mc0 := HM0.out.cell 0
          have Mc1 := HM0.out.cell 1
          simp at Cc0 Cc1 Dc0 Dc1 Mc0 Mc1
          have Cl := HC0.out.lt
          have Dl := HD0.out.lt
          have Ml := HM0.out.lt
          go_wp2_with fail
          clear Cc0 Cc1 Dc0 Dc1 Mc0 Mc1 Cl Dl Ml
          refine (HLT.out _).mono ?_
          rintro e w1x ⟨rfl, hb⟩
          have HB1 := Lib.hid (bC HB0.out hb)
          have HL1 := Lib.hid (HL0.out.below hb)
          have HA1 := Lib.hid (HA0.out.below hb)
          have HC1 := Lib.hid (HC0.out.below hb)
          have HD1 := Lib.hid (HD0.out.below hb)
          have HM1 := Lib.hid (HM0.out.below hb)
          clear hb HB0 HL0 HA0 HC0 HD0 HM0
          go_wp2_with fail
          have e0 := HC1.out.cell 0
          have e1 := HC1.out.cell 1
          simp at e0 e1
          have g1 := fun d os => cell_regrown e0 d os
          have g2 := fun d os => cell_regrown e1 d os
          refine wp_region_quiet_below (by kernel_rfl) (by kernel_rfl) ?_
          repeat (quiet_step (fail))
          refine wpQuiet_nil ?_
          intro _ hw'
          obtain ⟨⟨dq, osq⟩, hw''⟩ := hw'
          subst hw''
          have hb := below_regrown w1x dq osq
          clear g1 g2 e0 e1
          generalize grow (redrawn w1x dq) osq = w2x at *
          have HB2 := Lib.hid (bC HB1.out hb)
          have HL2 := Lib.hid (HL1.out.below hb)
          have HA2 := Lib.hid (HA1.out.below hb)
          have HC2 := Lib.hid (HC1.out.below hb)
          have HD2 := Lib.hid (HD1.out.below hb)
          have HM2 := Lib.hid (HM1.out.below hb)
          clear hb HB1 HL1 HA1 HC1 HD1 HM1
          have Cc0 := HC2.out.cell 0
          have Cc1 := HC2.out.cell 1
          simp at Cc0 Cc1
          have Cl := HC2.out.lt
          go_wp2_with fail
          clear Cc0 Cc1 Cl
          refine (Works_any _ (HN.out.below HB2.out)).mono ?_
          rintro e w3x ⟨rfl, hb⟩
          have HB3 := Lib.hid (bC HB2.out hb)
          have HL3 := Lib.hid (HL2.out.below hb)
          have HA3 := Lib.hid (HA2.out.below hb)
          have HC3 := Lib.hid (HC2.out.below hb)
          have HD3 := Lib.hid (HD2.out.below hb)
          have HM3 := Lib.hid (HM2.out.below hb)
          clear hb HB2 HL2 HA2 HC2 HD2 HM2
          go_wp2_with fail
          go_ret
          exact ⟨rfl, HB3.out⟩
        · have k9 : decide (qq < -2000) = false := decide_eq_false hlow
          rw [← hcn, ← hcd] at hcore
          obtain ⟨hcb1, hcb2⟩ := floor_best hf hD.1 hc hcore
          obtain ⟨an, ad, bn, bd, eHH, V⟩ := he_kept h0 (core := qq) (x := x) (by omega) (by omega) hx.1 hx.2 hcb1
          have hfl := floor_ok hf hD.1 hc hcore V
          have HH : Hid (∀ W, LogAt W (.agg #[.slice a l.at_.length cap, .slice a' l.edges.length cap']) l → Calls Tryd.prog 34 #[(.agg #[.slice a l.at_.length cap, .slice a' l.edges.length cap']), .int .i64 (qq), .int .i64 x] W (Gets (.tuple #[.agg #[.int .i64 an, .int .i64 ad], .agg #[.int .i64 bn, .int .i64 bd], .int .i64 0]) W)) := Lib.hid (fun W h => by have := Heights_any _ l (qq) x W h HS.out; rw [eHH] at this; exact this)
          obtain ⟨V0, v1, v2, v3, v4⟩ := V
          have fa := heights_fits hf (core := qq) (x := x) (by omega) (by omega) (by omega) (by omega) V0 (fun y hy => (best_least hy).1)
          have fb := heights_fits hf (core := qq) (x := x) (by omega) (by omega) (by omega) (by omega) V0 (fun y hy => (best_most hy).1)
          have HFA : Hid (∀ W, Calls Tryd.prog 48 #[.agg #[.int .i64 an, .int .i64 ad]] W (Gets (.bool true) W)) := Lib.hid (fun W => by have := fit_yes _ W fa; rw [v1, v2] at this; exact this)
          have HFB : Hid (∀ W, Calls Tryd.prog 48 #[.agg #[.int .i64 bn, .int .i64 bd]] W (Gets (.bool true) W)) := Lib.hid (fun W => by have := fit_yes _ W fb; rw [v3, v4] at this; exact this)
          obtain ⟨fa1, fa2, fa3⟩ := fa
          obtain ⟨fb1, fb2, fb3⟩ := fb
          rw [v2] at fa1 fa2 fa3
          rw [v1] at fa2 fa3
          rw [v4] at fb1 fb2 fb3
          rw [v3] at fb2 fb3
          have ad1 : 0 ≤ ad := by rw [← v2]; omega
          have bd1 : 0 ≤ bd := by rw [← v4]; omega
          obtain ⟨hh, hhe⟩ : ∃ hh, s + t * x = hh := ⟨_, rfl⟩
          rw [hhe] at hfl bh r6
          have p1 := mul_bd an D 200000000 100 (by omega) (by omega) (by omega) (by omega) (by decide)
          have p2 := mul_bd hh ad 800000 200 (by omega) (by omega) (by omega) (by omega) (by decide)
          have p3 := mul_bd hh bd 800000 200 (by omega) (by omega) (by omega) (by omega) (by decide)
          have p4 := mul_bd bn D 200000000 100 (by omega) (by omega) (by omega) (by omega) (by decide)
          have y1 : IntKind.i64.wrap (an * D) = an * D := IntWalk.i64_in _ (by omega)
          have y2 : IntKind.i64.wrap (hh * ad) = hh * ad := IntWalk.i64_in _ (by omega)
          have y3 : IntKind.i64.wrap (hh * bd) = hh * bd := IntWalk.i64_in _ (by omega)
          have y4 : IntKind.i64.wrap (bn * D) = bn * D := IntWalk.i64_in _ (by omega)
          have z1 : decide (an * D ≤ hh * ad) = true := decide_eq_true hfl.1
          have z2 : decide (hh * bd ≤ bn * D) = true := decide_eq_true hfl.2
          clear hlow hcore hcn0 htm0 hcb1 hcb2 eHH V0 v1 v2 v3 v4 fa1 fa2 fa3 fb1 fb2 fb3 ad1 bd1 p1 p2 p3 p4 hfl
          clear hf h0 hD hs ht hx hc hcn hcd hcb hdn hdd hdb hmn hmd hmb btm bqq bh q1 HQ
          conv => arg 2; whnf
          have Cc0 := HC0.out.cell 0
          have Cc1 := HC0.out.cell 1
          have Dc0 := HD0.out.cell 0
          have Dc1 := HD0.out.cell 1
          have Mc0 := HM0.out.cell 0
          have Mc1 := HM0.out.cell 1
          simp at Cc0 Cc1 Dc0 Dc1 Mc0 Mc1
          have Cl := HC0.out.lt
          have Dl := HD0.out.lt
          have Ml := HM0.out.lt
          go_wp2_with fail
          clear Cc0 Cc1 Dc0 Dc1 Mc0 Mc1 Cl Dl Ml
          refine (HLT.out _).mono ?_
          rintro e w1x ⟨rfl, hb⟩
          have HB1 := Lib.hid (bC HB0.out hb)
          have HL1 := Lib.hid (HL0.out.below hb)
          have HA1 := Lib.hid (HA0.out.below hb)
          have HC1 := Lib.hid (HC0.out.below hb)
          have HD1 := Lib.hid (HD0.out.below hb)
          have HM1 := Lib.hid (HM0.out.below hb)
          clear hb HB0 HL0 HA0 HC0 HD0 HM0
          go_wp2_with fail
          have e0 := HC1.out.cell 0
          have e1 := HC1.out.cell 1
          simp at e0 e1
          have g1 := fun d os => cell_regrown e0 d os
          have g2 := fun d os => cell_regrown e1 d os
          refine wp_region_quiet_below (by kernel_rfl) (by kernel_rfl) ?_
          repeat (quiet_step (fail))
          refine wpQuiet_nil ?_
          intro _ hw'
          obtain ⟨⟨dq, osq⟩, hw''⟩ := hw'
          subst hw''
          have hb := below_regrown w1x dq osq
          clear g1 g2 e0 e1
          generalize grow (redrawn w1x dq) osq = w2x at *
          have HB2 := Lib.hid (bC HB1.out hb)
          have HL2 := Lib.hid (HL1.out.below hb)
          have HA2 := Lib.hid (HA1.out.below hb)
          have HC2 := Lib.hid (HC1.out.below hb)
          have HD2 := Lib.hid (HD1.out.below hb)
          have HM2 := Lib.hid (HM1.out.below hb)
          clear hb HB1 HL1 HA1 HC1 HD1 HM1
          have Cc0 := HC2.out.cell 0
          have Cc1 := HC2.out.cell 1
          have Lc0 := HL2.out.cell 0
          have Lc1 := HL2.out.cell 1
          simp at Cc0 Cc1 Lc0 Lc1
          have Cl := HC2.out.lt
          have Ll := HL2.out.lt
          go_wp2_with fail
          clear Cc0 Cc1 Lc0 Lc1 Cl Ll
          refine (HH.out _ (HV.out.below HB2.out)).mono ?_
          rintro e w3x ⟨rfl, hb⟩
          have HB3 := Lib.hid (bC HB2.out hb)
          have HL3 := Lib.hid (HL2.out.below hb)
          have HA3 := Lib.hid (HA2.out.below hb)
          have HC3 := Lib.hid (HC2.out.below hb)
          have HD3 := Lib.hid (HD2.out.below hb)
          have HM3 := Lib.hid (HM2.out.below hb)
          clear hb HB2 HL2 HA2 HC2 HD2 HM2
          go_wp2_with fail
          have hQ := (Blk.new w3x (.cells #[.int .i64 an, .int .i64 ad] 31)).alloc (.cells #[.int .i64 bn, .int .i64 bd] 31)
          have hT := Blk.new (w3x.alloc (.cells #[.int .i64 an, .int .i64 ad] 31)) (.cells #[.int .i64 bn, .int .i64 bd] 31)
          rw [World.size_alloc] at hT
          have hA := below2 w3x (.cells #[.int .i64 an, .int .i64 ad] 31) (.cells #[.int .i64 bn, .int .i64 bd] 31)
          generalize (w3x.alloc (.cells #[.int .i64 an, .int .i64 ad] 31)).alloc (.cells #[.int .i64 bn, .int .i64 bd] 31) = W3x at *
          have HQ4 := Lib.hid hQ
          have HT4 := Lib.hid hT
          clear hQ hT
          have HB4 := Lib.hid (bC HB3.out hA)
          have HL4 := Lib.hid (HL3.out.below hA)
          have HA4 := Lib.hid (HA3.out.below hA)
          have HC4 := Lib.hid (HC3.out.below hA)
          have HD4 := Lib.hid (HD3.out.below hA)
          have HM4 := Lib.hid (HM3.out.below hA)
          clear hA HB3 HL3 HA3 HC3 HD3 HM3
          refine (HFA.out _).mono ?_
          rintro e w5x ⟨rfl, hb⟩
          have HB5 := Lib.hid (bC HB4.out hb)
          have HL5 := Lib.hid (HL4.out.below hb)
          have HA5 := Lib.hid (HA4.out.below hb)
          have HC5 := Lib.hid (HC4.out.below hb)
          have HD5 := Lib.hid (HD4.out.below hb)
          have HM5 := Lib.hid (HM4.out.below hb)
          have HQ5 := Lib.hid (HQ4.out.below hb)
          have HT5 := Lib.hid (HT4.out.below hb)
          clear hb HB4 HL4 HA4 HC4 HD4 HM4 HQ4 HT4
          have Tc0 := HT5.out.cell 0
          have Tc1 := HT5.out.cell 1
          simp at Tc0 Tc1
          have Tl := HT5.out.lt
          go_wp2_with fail
          clear Tc0 Tc1 Tl
          refine (HFB.out _).mono ?_
          rintro e w6x ⟨rfl, hb⟩
          have HB6 := Lib.hid (bC HB5.out hb)
          have HL6 := Lib.hid (HL5.out.below hb)
          have HA6 := Lib.hid (HA5.out.below hb)
          have HC6 := Lib.hid (HC5.out.below hb)
          have HD6 := Lib.hid (HD5.out.below hb)
          have HM6 := Lib.hid (HM5.out.below hb)
          have HQ6 := Lib.hid (HQ5.out.below hb)
          have HT6 := Lib.hid (HT5.out.below hb)
          clear hb HB5 HL5 HA5 HC5 HD5 HM5 HQ5 HT5
          have Ac0 := HA6.out.cell 0
          have Ac1 := HA6.out.cell 1
          have Ac2 := HA6.out.cell 2
          have Qc0 := HQ6.out.cell 0
          have Qc1 := HQ6.out.cell 1
          have Tc0 := HT6.out.cell 0
          have Tc1 := HT6.out.cell 1
          simp at Ac0 Ac1 Ac2 Qc0 Qc1 Tc0 Tc1
          have Al := HA6.out.lt
          have Ql := HQ6.out.lt
          have Tl := HT6.out.lt
          go_wp2_with fail
          clear Ac0 Ac1 Ac2 Qc0 Qc1 Tc0 Tc1 Al Ql Tl
          refine (Works_any _ (HN.out.below HB6.out)).mono ?_
          rintro e w7x ⟨rfl, hb⟩
          have HB7 := Lib.hid (bC HB6.out hb)
          have HL7 := Lib.hid (HL6.out.below hb)
          have HA7 := Lib.hid (HA6.out.below hb)
          have HC7 := Lib.hid (HC6.out.below hb)
          have HD7 := Lib.hid (HD6.out.below hb)
          have HM7 := Lib.hid (HM6.out.below hb)
          have HQ7 := Lib.hid (HQ6.out.below hb)
          have HT7 := Lib.hid (HT6.out.below hb)
          clear hb HB6 HL6 HA6 HC6 HD6 HM6 HQ6 HT6
          go_wp2_with fail
          go_ret
          exact ⟨rfl, HB7.out⟩
      · have k7 : decide (cn < 0) = true := decide_eq_true (by omega)
        have k8 : (tm != 0) = true := by simp [htm0]
        have hcore := HQ.out (qq - 1) (.inr ⟨rfl, by omega, htm0⟩)
        by_cases hlow : qq - 1 < -2000
        · have k9 : decide (qq - 1 < -2000) = true := decide_eq_true hlow
          clear hlow hcore hcn0 htm0
          clear hf h0 hD hs ht hx hc hcn hcd hcb hdn hdd hdb hmn hmd hmb btm bqq bh q1 HQ
          conv => arg 2; whnf
          have Cc0 := HC0.out.cell 0
          have Cc1 := HC0.out.cell 1
          have Dc0 := HD0.out.cell 0
          have Dc1 := HD0.out.cell 1
          have Mc0 := HM0.out.cell 0
          have Mc1 := HM0.out.cell 1
          simp at Cc0 Cc1 Dc0 Dc1 Mc0 Mc1
          have Cl := HC0.out.lt
          have Dl := HD0.out.lt
          have Ml := HM0.out.lt
          go_wp2_with fail
          clear Cc0 Cc1 Dc0 Dc1 Mc0 Mc1 Cl Dl Ml
          refine (HLT.out _).mono ?_
          rintro e w1x ⟨rfl, hb⟩
          have HB1 := Lib.hid (bC HB0.out hb)
          have HL1 := Lib.hid (HL0.out.below hb)
          have HA1 := Lib.hid (HA0.out.below hb)
          have HC1 := Lib.hid (HC0.out.below hb)
          have HD1 := Lib.hid (HD0.out.below hb)
          have HM1 := Lib.hid (HM0.out.below hb)
          clear hb HB0 HL0 HA0 HC0 HD0 HM0
          go_wp2_with fail
          have e0 := HC1.out.cell 0
          have e1 := HC1.out.cell 1
          simp at e0 e1
          have g1 := fun d os => cell_regrown e0 d os
          have g2 := fun d os => cell_regrown e1 d os
          refine wp_region_quiet_below (by kernel_rfl) (by kernel_rfl) ?_
          repeat (quiet_step (fail))
          refine wpQuiet_nil ?_
          intro _ hw'
          obtain ⟨⟨dq, osq⟩, hw''⟩ := hw'
          subst hw''
          have hb := below_regrown w1x dq osq
          clear g1 g2 e0 e1
          generalize grow (redrawn w1x dq) osq = w2x at *
          have HB2 := Lib.hid (bC HB1.out hb)
          have HL2 := Lib.hid (HL1.out.below hb)
          have HA2 := Lib.hid (HA1.out.below hb)
          have HC2 := Lib.hid (HC1.out.below hb)
          have HD2 := Lib.hid (HD1.out.below hb)
          have HM2 := Lib.hid (HM1.out.below hb)
          clear hb HB1 HL1 HA1 HC1 HD1 HM1
          have Cc0 := HC2.out.cell 0
          have Cc1 := HC2.out.cell 1
          simp at Cc0 Cc1
          have Cl := HC2.out.lt
          go_wp2_with fail
          clear Cc0 Cc1 Cl
          refine (Works_any _ (HN.out.below HB2.out)).mono ?_
          rintro e w3x ⟨rfl, hb⟩
          have HB3 := Lib.hid (bC HB2.out hb)
          have HL3 := Lib.hid (HL2.out.below hb)
          have HA3 := Lib.hid (HA2.out.below hb)
          have HC3 := Lib.hid (HC2.out.below hb)
          have HD3 := Lib.hid (HD2.out.below hb)
          have HM3 := Lib.hid (HM2.out.below hb)
          clear hb HB2 HL2 HA2 HC2 HD2 HM2
          go_wp2_with fail
          go_ret
          exact ⟨rfl, HB3.out⟩
        · have k9 : decide (qq - 1 < -2000) = false := decide_eq_false hlow
          rw [← hcn, ← hcd] at hcore
          obtain ⟨hcb1, hcb2⟩ := floor_best hf hD.1 hc hcore
          obtain ⟨an, ad, bn, bd, eHH, V⟩ := he_kept h0 (core := qq - 1) (x := x) (by omega) (by omega) hx.1 hx.2 hcb1
          have hfl := floor_ok hf hD.1 hc hcore V
          have HH : Hid (∀ W, LogAt W (.agg #[.slice a l.at_.length cap, .slice a' l.edges.length cap']) l → Calls Tryd.prog 34 #[(.agg #[.slice a l.at_.length cap, .slice a' l.edges.length cap']), .int .i64 (qq - 1), .int .i64 x] W (Gets (.tuple #[.agg #[.int .i64 an, .int .i64 ad], .agg #[.int .i64 bn, .int .i64 bd], .int .i64 0]) W)) := Lib.hid (fun W h => by have := Heights_any _ l (qq - 1) x W h HS.out; rw [eHH] at this; exact this)
          obtain ⟨V0, v1, v2, v3, v4⟩ := V
          have fa := heights_fits hf (core := qq - 1) (x := x) (by omega) (by omega) (by omega) (by omega) V0 (fun y hy => (best_least hy).1)
          have fb := heights_fits hf (core := qq - 1) (x := x) (by omega) (by omega) (by omega) (by omega) V0 (fun y hy => (best_most hy).1)
          have HFA : Hid (∀ W, Calls Tryd.prog 48 #[.agg #[.int .i64 an, .int .i64 ad]] W (Gets (.bool true) W)) := Lib.hid (fun W => by have := fit_yes _ W fa; rw [v1, v2] at this; exact this)
          have HFB : Hid (∀ W, Calls Tryd.prog 48 #[.agg #[.int .i64 bn, .int .i64 bd]] W (Gets (.bool true) W)) := Lib.hid (fun W => by have := fit_yes _ W fb; rw [v3, v4] at this; exact this)
          obtain ⟨fa1, fa2, fa3⟩ := fa
          obtain ⟨fb1, fb2, fb3⟩ := fb
          rw [v2] at fa1 fa2 fa3
          rw [v1] at fa2 fa3
          rw [v4] at fb1 fb2 fb3
          rw [v3] at fb2 fb3
          have ad1 : 0 ≤ ad := by rw [← v2]; omega
          have bd1 : 0 ≤ bd := by rw [← v4]; omega
          obtain ⟨hh, hhe⟩ : ∃ hh, s + t * x = hh := ⟨_, rfl⟩
          rw [hhe] at hfl bh r6
          have p1 := mul_bd an D 200000000 100 (by omega) (by omega) (by omega) (by omega) (by decide)
          have p2 := mul_bd hh ad 800000 200 (by omega) (by omega) (by omega) (by omega) (by decide)
          have p3 := mul_bd hh bd 800000 200 (by omega) (by omega) (by omega) (by omega) (by decide)
          have p4 := mul_bd bn D 200000000 100 (by omega) (by omega) (by omega) (by omega) (by decide)
          have y1 : IntKind.i64.wrap (an * D) = an * D := IntWalk.i64_in _ (by omega)
          have y2 : IntKind.i64.wrap (hh * ad) = hh * ad := IntWalk.i64_in _ (by omega)
          have y3 : IntKind.i64.wrap (hh * bd) = hh * bd := IntWalk.i64_in _ (by omega)
          have y4 : IntKind.i64.wrap (bn * D) = bn * D := IntWalk.i64_in _ (by omega)
          have z1 : decide (an * D ≤ hh * ad) = true := decide_eq_true hfl.1
          have z2 : decide (hh * bd ≤ bn * D) = true := decide_eq_true hfl.2
          clear hlow hcore hcn0 htm0 hcb1 hcb2 eHH V0 v1 v2 v3 v4 fa1 fa2 fa3 fb1 fb2 fb3 ad1 bd1 p1 p2 p3 p4 hfl
          clear hf h0 hD hs ht hx hc hcn hcd hcb hdn hdd hdb hmn hmd hmb btm bqq bh q1 HQ
          conv => arg 2; whnf
          have Cc0 := HC0.out.cell 0
          have Cc1 := HC0.out.cell 1
          have Dc0 := HD0.out.cell 0
          have Dc1 := HD0.out.cell 1
          have Mc0 := HM0.out.cell 0
          have Mc1 := HM0.out.cell 1
          simp at Cc0 Cc1 Dc0 Dc1 Mc0 Mc1
          have Cl := HC0.out.lt
          have Dl := HD0.out.lt
          have Ml := HM0.out.lt
          go_wp2_with fail
          clear Cc0 Cc1 Dc0 Dc1 Mc0 Mc1 Cl Dl Ml
          refine (HLT.out _).mono ?_
          rintro e w1x ⟨rfl, hb⟩
          have HB1 := Lib.hid (bC HB0.out hb)
          have HL1 := Lib.hid (HL0.out.below hb)
          have HA1 := Lib.hid (HA0.out.below hb)
          have HC1 := Lib.hid (HC0.out.below hb)
          have HD1 := Lib.hid (HD0.out.below hb)
          have HM1 := Lib.hid (HM0.out.below hb)
          clear hb HB0 HL0 HA0 HC0 HD0 HM0
          go_wp2_with fail
          have e0 := HC1.out.cell 0
          have e1 := HC1.out.cell 1
          simp at e0 e1
          have g1 := fun d os => cell_regrown e0 d os
          have g2 := fun d os => cell_regrown e1 d os
          refine wp_region_quiet_below (by kernel_rfl) (by kernel_rfl) ?_
          repeat (quiet_step (fail))
          refine wpQuiet_nil ?_
          intro _ hw'
          obtain ⟨⟨dq, osq⟩, hw''⟩ := hw'
          subst hw''
          have hb := below_regrown w1x dq osq
          clear g1 g2 e0 e1
          generalize grow (redrawn w1x dq) osq = w2x at *
          have HB2 := Lib.hid (bC HB1.out hb)
          have HL2 := Lib.hid (HL1.out.below hb)
          have HA2 := Lib.hid (HA1.out.below hb)
          have HC2 := Lib.hid (HC1.out.below hb)
          have HD2 := Lib.hid (HD1.out.below hb)
          have HM2 := Lib.hid (HM1.out.below hb)
          clear hb HB1 HL1 HA1 HC1 HD1 HM1
          have Cc0 := HC2.out.cell 0
          have Cc1 := HC2.out.cell 1
          have Lc0 := HL2.out.cell 0
          have Lc1 := HL2.out.cell 1
          simp at Cc0 Cc1 Lc0 Lc1
          have Cl := HC2.out.lt
          have Ll := HL2.out.lt
          go_wp2_with fail
          clear Cc0 Cc1 Lc0 Lc1 Cl Ll
          refine (HH.out _ (HV.out.below HB2.out)).mono ?_
          rintro e w3x ⟨rfl, hb⟩
          have HB3 := Lib.hid (bC HB2.out hb)
          have HL3 := Lib.hid (HL2.out.below hb)
          have HA3 := Lib.hid (HA2.out.below hb)
          have HC3 := Lib.hid (HC2.out.below hb)
          have HD3 := Lib.hid (HD2.out.below hb)
          have HM3 := Lib.hid (HM2.out.below hb)
          clear hb HB2 HL2 HA2 HC2 HD2 HM2
          go_wp2_with fail
          have hQ := (Blk.new w3x (.cells #[.int .i64 an, .int .i64 ad] 31)).alloc (.cells #[.int .i64 bn, .int .i64 bd] 31)
          have hT := Blk.new (w3x.alloc (.cells #[.int .i64 an, .int .i64 ad] 31)) (.cells #[.int .i64 bn, .int .i64 bd] 31)
          rw [World.size_alloc] at hT
          have hA := below2 w3x (.cells #[.int .i64 an, .int .i64 ad] 31) (.cells #[.int .i64 bn, .int .i64 bd] 31)
          generalize (w3x.alloc (.cells #[.int .i64 an, .int .i64 ad] 31)).alloc (.cells #[.int .i64 bn, .int .i64 bd] 31) = W3x at *
          have HQ4 := Lib.hid hQ
          have HT4 := Lib.hid hT
          clear hQ hT
          have HB4 := Lib.hid (bC HB3.out hA)
          have HL4 := Lib.hid (HL3.out.below hA)
          have HA4 := Lib.hid (HA3.out.below hA)
          have HC4 := Lib.hid (HC3.out.below hA)
          have HD4 := Lib.hid (HD3.out.below hA)
          have HM4 := Lib.hid (HM3.out.below hA)
          clear hA HB3 HL3 HA3 HC3 HD3 HM3
          refine (HFA.out _).mono ?_
          rintro e w5x ⟨rfl, hb⟩
          have HB5 := Lib.hid (bC HB4.out hb)
          have HL5 := Lib.hid (HL4.out.below hb)
          have HA5 := Lib.hid (HA4.out.below hb)
          have HC5 := Lib.hid (HC4.out.below hb)
          have HD5 := Lib.hid (HD4.out.below hb)
          have HM5 := Lib.hid (HM4.out.below hb)
          have HQ5 := Lib.hid (HQ4.out.below hb)
          have HT5 := Lib.hid (HT4.out.below hb)
          clear hb HB4 HL4 HA4 HC4 HD4 HM4 HQ4 HT4
          have Tc0 := HT5.out.cell 0
          have Tc1 := HT5.out.cell 1
          simp at Tc0 Tc1
          have Tl := HT5.out.lt
          go_wp2_with fail
          clear Tc0 Tc1 Tl
          refine (HFB.out _).mono ?_
          rintro e w6x ⟨rfl, hb⟩
          have HB6 := Lib.hid (bC HB5.out hb)
          have HL6 := Lib.hid (HL5.out.below hb)
          have HA6 := Lib.hid (HA5.out.below hb)
          have HC6 := Lib.hid (HC5.out.below hb)
          have HD6 := Lib.hid (HD5.out.below hb)
          have HM6 := Lib.hid (HM5.out.below hb)
          have HQ6 := Lib.hid (HQ5.out.below hb)
          have HT6 := Lib.hid (HT5.out.below hb)
          clear hb HB5 HL5 HA5 HC5 HD5 HM5 HQ5 HT5
          have Ac0 := HA6.out.cell 0
          have Ac1 := HA6.out.cell 1
          have Ac2 := HA6.out.cell 2
          have Qc0 := HQ6.out.cell 0
          have Qc1 := HQ6.out.cell 1
          have Tc0 := HT6.out.cell 0
          have Tc1 := HT6.out.cell 1
          simp at Ac0 Ac1 Ac2 Qc0 Qc1 Tc0 Tc1
          have Al := HA6.out.lt
          have Ql := HQ6.out.lt
          have Tl := HT6.out.lt
          go_wp2_with fail
          clear Ac0 Ac1 Ac2 Qc0 Qc1 Tc0 Tc1 Al Ql Tl
          refine (Works_any _ (HN.out.below HB6.out)).mono ?_
          rintro e w7x ⟨rfl, hb⟩
          have HB7 := Lib.hid (bC HB6.out hb)
          have HL7 := Lib.hid (HL6.out.below hb)
          have HA7 := Lib.hid (HA6.out.below hb)
          have HC7 := Lib.hid (HC6.out.below hb)
          have HD7 := Lib.hid (HD6.out.below hb)
          have HM7 := Lib.hid (HM6.out.below hb)
          have HQ7 := Lib.hid (HQ6.out.below hb)
          have HT7 := Lib.hid (HT6.out.below hb)
          clear hb HB6 HL6 HA6 HC6 HD6 HM6 HQ6 HT6
          go_wp2_with fail
          go_ret
          exact ⟨rfl, HB7.out⟩
end Go.Proofs.YtkggjpdjjnnhaaaDoor
