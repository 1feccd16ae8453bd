import Derived.Test.YtlhldkiggmlegaaDoorOx
namespace Go.Proofs.YtlhldkiggmlegaaDoor
open Go.RowKit Go.Shelf Go.Sort
attribute [local go_sem] Oper.semAt_some

/-! ## PeelKnown: the last region -/
noncomputable def known_eC : Code := dropSeq 10 ((Tryd.f17.body).getD .skip)
set_option maxRecDepth 1000000 in
set_option maxHeartbeats 40000000 in
theorem known_e (w W0 : World) (B1 : Nat) (a1 a2 a3 a4 : Option Addr) (k1 k2 k3 k4 : Nat) (hK : Wk w B1 (B1 + 1) (.slice a1 3 k1) (.slice a2 3 k2) (.slice a3 2 k3) (.slice a4 2 k4) W0) (c3 c5 c7 c9 c11 c13 c14 c16 c17 : Nat)
    (a3 : W0.cell? ⟨c3, 0, none⟩ = some (.int .i64 2) ∧ W0.cell? ⟨c3, 1, none⟩ = some (.int .i64 1))
    (a5 : W0.cell? ⟨c5, 0, none⟩ = some (.int .i64 0) ∧ W0.cell? ⟨c5, 1, none⟩ = some (.int .i64 1))
    (a7 : W0.cell? ⟨c7, 0, none⟩ = some (.int .i64 4) ∧ W0.cell? ⟨c7, 1, none⟩ = some (.int .i64 1))
    (a9 : W0.cell? ⟨c9, 0, none⟩ = some (.int .i64 7) ∧ W0.cell? ⟨c9, 1, none⟩ = some (.int .i64 2))
    (a11 : W0.cell? ⟨c11, 0, none⟩ = some (.int .i64 2) ∧ W0.cell? ⟨c11, 1, none⟩ = some (.int .i64 1))
    (a13 : W0.cell? ⟨c13, 0, none⟩ = some (.int .i64 2) ∧ W0.cell? ⟨c13, 1, none⟩ = some (.int .i64 1))
    (a14 : W0.cell? ⟨c14, 0, none⟩ = some (.int .i64 4) ∧ W0.cell? ⟨c14, 1, none⟩ = some (.int .i64 1))
    (a16 : W0.cell? ⟨c16, 0, none⟩ = some (.int .i64 4) ∧ W0.cell? ⟨c16, 1, none⟩ = some (.int .i64 1))
    (a17 : W0.cell? ⟨c17, 0, none⟩ = some (.int .i64 8) ∧ W0.cell? ⟨c17, 1, none⟩ = some (.int .i64 1))
    (u21 u22 u23 u24 u25 u26 u27 u28 u29 u30 u31 u32 u33 u34 u35 u36 u37 u38 u39 u40 u41 u42 u43 u44 u45 u46 u47 u48 u49 u50 u51 u52 u53 u54 u55 u56 u57 u58 u59 u60 u61 u62 u63 u64 u65 u66 u67 u68 u69 u70 u71 u72 u73 u74 u75 u76 u77 u78 u79 u80 u81 u82 u83 u84 u85 u86 u87 u88 u89 u90 u91 u92 u93 u94 u95 u96 u97 u98 u99 u100 u101 u102 u103 u104 u105 u106 u107 u108 u109 u110 u111 u112 u113 u114 u115 u116 u117 u118 u119 u120 u121 u122 u123 u124 u125 u126 u127 u128 u129 u130 u131 u132 u133 u134 u135 u136 u137 u138 u139 u140 u141 u142 u143 u144 u145 u146 u147 u148 u149 u150 u151 u152 u153 u154 u155 u156 u157 u158 u159 u160 u161 u162 u163 u164 u165 u166 : Value) :
    Code.wp Tryd.prog known_eC (bodyPost Tryd.prog Tryd.f17 fun e w' => e = .returned (.bool true) ∧ Below w.heap.size w w') ⟨#[.bool false, .pointer (some ⟨B1, 0, none⟩), .pointer (some ⟨B1 + 1, 0, none⟩), .pointer (some ⟨c3, 0, none⟩), .int .i64 0, .pointer (some ⟨c5, 0, none⟩), .int .i64 0, .pointer (some ⟨c7, 0, none⟩), .int .i64 0, .pointer (some ⟨c9, 0, none⟩), .int .i64 0, .pointer (some ⟨c11, 0, none⟩), .int .i64 0, .pointer (some ⟨c13, 0, none⟩), .pointer (some ⟨c14, 0, none⟩), .int .i64 0, .pointer (some ⟨c16, 0, none⟩), .pointer (some ⟨c17, 0, none⟩), .int .i64 0, .int .i64 1, .int .i64 0, u21, u22, u23, u24, u25, u26, u27, u28, u29, u30, u31, u32, u33, u34, u35, u36, u37, u38, u39, u40, u41, u42, u43, u44, u45, u46, u47, u48, u49, u50, u51, u52, u53, u54, u55, u56, u57, u58, u59, u60, u61, u62, u63, u64, u65, u66, u67, u68, u69, u70, u71, u72, u73, u74, u75, u76, u77, u78, u79, u80, u81, u82, u83, u84, u85, u86, u87, u88, u89, u90, u91, u92, u93, u94, u95, u96, u97, u98, u99, u100, u101, u102, u103, u104, u105, u106, u107, u108, u109, u110, u111, u112, u113, u114, u115, u116, u117, u118, u119, u120, u121, u122, u123, u124, u125, u126, u127, u128, u129, u130, u131, u132, u133, u134, u135, u136, u137, u138, u139, u140, u141, u142, u143, u144, u145, u146, u147, u148, u149, u150, u151, u152, u153, u154, u155, u156, u157, u158, u159, u160, u161, u162, u163, u164, u165, u166], []⟩ W0 := by
  have A3 := Lib.hid a3
  clear a3
  have A5 := Lib.hid a5
  clear a5
  have A7 := Lib.hid a7
  clear a7
  have A9 := Lib.hid a9
  clear a9
  have A11 := Lib.hid a11
  clear a11
  have A13 := Lib.hid a13
  clear a13
  have A14 := Lib.hid a14
  clear a14
  have A16 := Lib.hid a16
  clear a16
  have A17 := Lib.hid a17
  clear a17
  have K := Lib.hid hK
  clear hK
  conv => arg 2; whnf
  go_wp2_with fail
  have heq2 := fun w => pair_eq 2 1 w
  have heq0 := fun w => pair_eq 0 1 w
  have heq4 := fun w => pair_eq 4 1 w
  have heq7 := fun w => pair_eq 7 2 w
  have heq8 := fun w => pair_eq 8 1 w
  have hby2 := fun (dr : Nat) (os : Array Obj) => Calls.regrown_of (by_any 2 1 (grow (redrawn W0 dr) os))
  have hby0 := fun (dr : Nat) (os : Array Obj) => Calls.regrown_of (by_any 0 1 (grow (redrawn W0 dr) os))
  have hby4 := fun (dr : Nat) (os : Array Obj) => Calls.regrown_of (by_any 4 1 (grow (redrawn W0 dr) os))
  have hby7 := fun (dr : Nat) (os : Array Obj) => Calls.regrown_of (by_any 7 2 (grow (redrawn W0 dr) os))
  have hby8 := fun (dr : Nat) (os : Array Obj) => Calls.regrown_of (by_any 8 1 (grow (redrawn W0 dr) os))
  have hlog := fun (dr : Nat) (os : Array Obj) => Calls.regrown_of (k_log (K.out.lb.below (below_regrown W0 dr os)))
  have hli := fun (dr : Nat) (os : Array Obj) => Calls.regrown_of (line_any 1 0 0 (grow (redrawn W0 dr) os))
  have hcl := fun (dr : Nat) (os : Array Obj) => Calls.regrown_of (k_line (W := grow (redrawn W0 dr) os))
  have g0 := A3.out
  have G00 := fun d os => cell_regrown (g0.1) d os
  have G01 := fun d os => cell_regrown (g0.2) d os
  clear g0
  have g1 := A5.out
  have G10 := fun d os => cell_regrown (g1.1) d os
  have G11 := fun d os => cell_regrown (g1.2) d os
  clear g1
  have g2 := A7.out
  have G20 := fun d os => cell_regrown (g2.1) d os
  have G21 := fun d os => cell_regrown (g2.2) d os
  clear g2
  have g3 := A9.out
  have G30 := fun d os => cell_regrown (g3.1) d os
  have G31 := fun d os => cell_regrown (g3.2) d os
  clear g3
  have g4 := A11.out
  have G40 := fun d os => cell_regrown (g4.1) d os
  have G41 := fun d os => cell_regrown (g4.2) d os
  clear g4
  have g5 := A13.out
  have G50 := fun d os => cell_regrown (g5.1) d os
  have G51 := fun d os => cell_regrown (g5.2) d os
  clear g5
  have g6 := A14.out
  have G60 := fun d os => cell_regrown (g6.1) d os
  have G61 := fun d os => cell_regrown (g6.2) d os
  clear g6
  have g7 := A16.out
  have G70 := fun d os => cell_regrown (g7.1) d os
  have G71 := fun d os => cell_regrown (g7.2) d os
  clear g7
  have g8 := A17.out
  have G80 := fun d os => cell_regrown (g8.1) d os
  have G81 := fun d os => cell_regrown (g8.2) d os
  clear g8
  obtain ⟨⟨u0, u1⟩, ⟨u2, u3⟩, hl1, hl2⟩ := K.out.cells
  have GB0 := fun d os => cell_regrown u2 d os
  have GB1 := fun d os => cell_regrown u3 d os
  clear u0 u1 u2 u3 hl1 hl2
  refine wp_region_tail_at 90 knownOps 98 (by kernel_rfl) (by kernel_rfl) (by kernel_rfl) known_tail ?_
  simp only [List.take_succ_cons, List.take_zero, List.drop_succ_cons, List.drop_zero]
  repeat (quiet_step (first | (go_at_call 57; first | (with_reducible exact hby2 _ _) | (with_reducible exact hby0 _ _) | (with_reducible exact hby4 _ _) | (with_reducible exact hby7 _ _) | (with_reducible exact hby8 _ _)) | (go_at_call 22; (with_reducible exact hlog _ _)) | (go_at_call 47; (with_reducible exact hli _ _)) | (go_at_call 24; (with_reducible exact hcl _ _))))
  refine wpQuiet_nil ?_
  intro _ hw'
  obtain ⟨⟨dq, osq⟩, hw''⟩ := hw'
  subst hw''
  have HBF := Lib.hid (K.out.old.trans ((below_regrown W0 dq osq).mono K.out.old.size))
  have HNF := Lib.hid (K.out.non.below (below_regrown W0 dq osq))
  clear G00 G01 G10 G11 G20 G21 G30 G31 G40 G41 G50 G51 G60 G61 G70 G71 G80 G81 GB0 GB1 hlog hli hcl heq2 hby2 heq0 hby0 heq4 hby4 heq7 hby7 heq8 hby8
  generalize grow (redrawn W0 dq) osq = WF at *
  go_wp2_with fail
  refine (rough_any _).mono ?_
  rintro e wr ⟨vr, rfl, hRO, hpre⟩
  obtain ⟨x1, x2, x3, rfl, hr1, hr2, hr3⟩ := hRO
  obtain ⟨y1, z1, rfl⟩ := hr1.slice
  obtain ⟨y2, z2, rfl⟩ := hr2.slice
  obtain ⟨y3, z3, rfl⟩ := hr3.slice
  have HRO := Lib.hid (show RoughAt wr _ roughD from ⟨_, _, _, rfl, hr1, hr2, hr3⟩)
  clear hr1 hr2 hr3
  go_wp2_with fail
  refine (k_rough HRO.out).mono ?_
  rintro e wy ⟨rfl, hb⟩
  have hb := hpre.trans (hb.mono hpre.size)
  have HNG := Lib.hid (HNF.out.below hb)
  have HBG := Lib.hid (HBF.out.trans (hb.mono HBF.out.size))
  clear hb hpre
  go_wp2_with fail
  refine (Works_any _ HNG.out).mono ?_
  rintro e wz ⟨rfl, hb⟩
  have HBH := Lib.hid (HBG.out.trans (hb.mono HBG.out.size))
  clear hb
  go_wp2_with fail
  go_ret
  exact ⟨rfl, HBH.out⟩
end Go.Proofs.YtlhldkiggmlegaaDoor
