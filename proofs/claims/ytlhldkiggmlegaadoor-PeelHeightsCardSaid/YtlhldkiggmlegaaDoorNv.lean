import Derived.Test.YtlhldkiggmlegaaDoorNu
namespace Go.Proofs.YtlhldkiggmlegaaDoor
open Go.RowKit Go.Shelf Go.Sort
attribute [local go_sem] Oper.semAt_some

/-! ## The examples hold: from the ninth region on -/
def dropSeq : Nat → Code → Code
  | 0, c => c
  | n + 1, .seq _ b => dropSeq n b
  | _ + 1, c => c
noncomputable def worksB : Code := dropSeq 9 ((Tryd.f19.body).getD .skip)
set_option maxRecDepth 1000000 in
set_option maxHeartbeats 40000000 in
theorem works_b (w W0 : World) (B1 : Nat) (a1 a2 a3 a4 : Option Addr) (k1 k2 k3 k4 : Nat) (hK : Wk w B1 (B1 + 1) (.slice a1 3 k1) (.slice a2 3 k2) (.slice a3 2 k3) (.slice a4 2 k4) W0) (c3 c7 c9 c11 c13 c15 : Nat)
    (a3 : W0.cell? ⟨c3, 0, none⟩ = some (.int .i64 5) ∧ W0.cell? ⟨c3, 1, none⟩ = some (.int .i64 2))
    (a7 : W0.cell? ⟨c7, 0, none⟩ = some (.int .i64 5) ∧ W0.cell? ⟨c7, 1, none⟩ = some (.int .i64 2))
    (a9 : W0.cell? ⟨c9, 0, none⟩ = some (.int .i64 2) ∧ W0.cell? ⟨c9, 1, none⟩ = some (.int .i64 1))
    (a11 : W0.cell? ⟨c11, 0, none⟩ = some (.int .i64 2) ∧ W0.cell? ⟨c11, 1, none⟩ = some (.int .i64 7) ∧ W0.cell? ⟨c11, 2, none⟩ = some (.int .i64 0))
    (a13 : W0.cell? ⟨c13, 0, none⟩ = some (.int .i64 5) ∧ W0.cell? ⟨c13, 1, none⟩ = some (.int .i64 2))
    (u5 u17 u18 u19 u20 u21 u22 u23 u24 u25 u26 u27 u28 u29 u30 u31 u32 u33 u34 u35 u36 u37 u38 u39 u40 u41 u42 u43 u44 u45 u46 u47 u48 u49 u50 u51 u52 u53 u54 u55 u56 u57 u58 u59 u60 u61 u62 u63 u64 u65 u66 u67 u68 u69 u70 u71 u72 u73 u74 u75 u76 u77 u78 u79 u80 u81 u82 u83 u84 u85 u86 u87 u88 u89 u90 u91 u92 u93 u94 u95 u96 u97 u98 u99 u100 u101 u102 u103 u104 u105 u106 u107 u108 u109 u110 u111 u112 u113 u114 u115 u116 u117 u118 u119 u120 u121 u122 u123 u124 u125 u126 u127 u128 u129 u130 u131 u132 u133 u134 u135 u136 u137 u138 u139 u140 u141 u142 u143 u144 u145 u146 u147 u148 u149 u150 u151 u152 u153 u154 u155 u156 u157 u158 u159 u160 u161 u162 u163 u164 u165 u166 u167 u168 u169 u170 u171 u172 u173 u174 u175 u176 u177 u178 u179 u180 u181 u182 u183 u184 u185 u186 u187 u188 u189 u190 u191 u192 u193 u194 u195 u196 u197 u198 u199 u200 u201 u202 u203 u204 u205 u206 u207 u208 u209 u210 u211 u212 u213 u214 u215 u216 u217 u218 u219 u220 u221 u222 u223 u224 u225 u226 u227 u228 u229 u230 u231 u232 u233 u234 u235 u236 u237 u238 u239 u240 u241 u242 u243 u244 u245 u246 u247 u248 u249 u250 u251 u252 : Value) :
    Code.wp Tryd.prog worksB (bodyPost Tryd.prog Tryd.f19 fun e w' => e = .returned (.bool true) ∧ Below w.heap.size w w') ⟨#[.bool false, .pointer (some ⟨B1, 0, none⟩), .pointer (some ⟨B1 + 1, 0, none⟩), .pointer (some ⟨c3, 0, none⟩), .int .i64 0, u5, .int .i64 3, .pointer (some ⟨c7, 0, none⟩), .int .i64 0, .pointer (some ⟨c9, 0, none⟩), .int .i64 0, .pointer (some ⟨c11, 0, none⟩), .int .i64 0, .pointer (some ⟨c13, 0, none⟩), .int .i64 0, .pointer (some ⟨c15, 0, none⟩), .int .i64 2, u17, u18, u19, u20, u21, u22, u23, u24, u25, u26, u27, u28, u29, u30, u31, u32, u33, u34, u35, u36, u37, u38, u39, u40, u41, u42, u43, u44, u45, u46, u47, u48, u49, u50, u51, u52, u53, u54, u55, u56, u57, u58, u59, u60, u61, u62, u63, u64, u65, u66, u67, u68, u69, u70, u71, u72, u73, u74, u75, u76, u77, u78, u79, u80, u81, u82, u83, u84, u85, u86, u87, u88, u89, u90, u91, u92, u93, u94, u95, u96, u97, u98, u99, u100, u101, u102, u103, u104, u105, u106, u107, u108, u109, u110, u111, u112, u113, u114, u115, u116, u117, u118, u119, u120, u121, u122, u123, u124, u125, u126, u127, u128, u129, u130, u131, u132, u133, u134, u135, u136, u137, u138, u139, u140, u141, u142, u143, u144, u145, u146, u147, u148, u149, u150, u151, u152, u153, u154, u155, u156, u157, u158, u159, u160, u161, u162, u163, u164, u165, u166, u167, u168, u169, u170, u171, u172, u173, u174, u175, u176, u177, u178, u179, u180, u181, u182, u183, u184, u185, u186, u187, u188, u189, u190, u191, u192, u193, u194, u195, u196, u197, u198, u199, u200, u201, u202, u203, u204, u205, u206, u207, u208, u209, u210, u211, u212, u213, u214, u215, u216, u217, u218, u219, u220, u221, u222, u223, u224, u225, u226, u227, u228, u229, u230, u231, u232, u233, u234, u235, u236, u237, u238, u239, u240, u241, u242, u243, u244, u245, u246, u247, u248, u249, u250, u251, u252], []⟩ W0 := by
  have A3 := Lib.hid a3
  clear a3
  have A7 := Lib.hid a7
  clear a7
  have A9 := Lib.hid a9
  clear a9
  have A11 := Lib.hid a11
  clear a11
  have A13 := Lib.hid a13
  clear a13
  have K := Lib.hid hK
  clear hK
  conv => arg 2; whnf
  obtain ⟨⟨u0, u1⟩, ⟨u2, u3⟩, hl1, hl2⟩ := K.out.cells
  go_wp2_with fail
  clear u0 u1 u2 u3 hl1 hl2
  refine (c_proof K.out.la).mono ?_
  rintro e w1x ⟨rfl, hb⟩
  have K1 := K.out.below hb
  have hA1 : Below w1x.heap.size w1x w1x := Below.refl _ _
  obtain ⟨⟨u0, u1⟩, ⟨u2, u3⟩, hl1, hl2⟩ := K1.cells
  go_wp2_with fail
  clear u0 u1 u2 u3 hl1 hl2 
  have n0 := Blk.new w1x (.cells #[.int .i64 0, .int .i64 1, .int .i64 2, .int .i64 2] 45)
  have hA := below1 w1x (.cells #[.int .i64 0, .int .i64 1, .int .i64 2, .int .i64 2] 45)
  generalize w1x.alloc (.cells #[.int .i64 0, .int .i64 1, .int .i64 2, .int .i64 2] 45) = W1 at *
  have h1 := Lib.hid (hb.trans (hA.mono hb.size))
  have K' := Lib.hid (K1.below hA)
  have r1 := Lib.hid (show W1.cell? ⟨w1x.heap.size, 0, none⟩ = some (.int .i64 0) ∧ W1.cell? ⟨w1x.heap.size, 1, none⟩ = some (.int .i64 1) ∧ W1.cell? ⟨w1x.heap.size, 2, none⟩ = some (.int .i64 2) ∧ W1.cell? ⟨w1x.heap.size, 3, none⟩ = some (.int .i64 2) from ⟨by rw [n0.cell]; rfl, by rw [n0.cell]; rfl, by rw [n0.cell]; rfl, by rw [n0.cell]; rfl⟩)
  clear hb hA hA1 n0 K K1
  have K := K'
  clear K'
  refine (c_heights1 K.out.la).mono ?_
  rintro e w2x ⟨rfl, hb⟩
  have K2 := K.out.below hb
  have hA2 : Below w2x.heap.size w2x w2x := Below.refl _ _
  obtain ⟨⟨u0, u1⟩, ⟨u2, u3⟩, hl1, hl2⟩ := K2.cells
  go_wp2_with fail
  clear u0 u1 u2 u3 hl1 hl2 
  have n0 := (Blk.new w2x (.cells #[.int .i64 3, .int .i64 1] 31)).alloc (.cells #[.int .i64 4, .int .i64 1] 31)
  have n1' := Blk.new (w2x.alloc (.cells #[.int .i64 3, .int .i64 1] 31)) (.cells #[.int .i64 4, .int .i64 1] 31)
  rw [World.size_alloc] at n1'
  have hA := below2 w2x (.cells #[.int .i64 3, .int .i64 1] 31) (.cells #[.int .i64 4, .int .i64 1] 31)
  generalize (w2x.alloc (.cells #[.int .i64 3, .int .i64 1] 31)).alloc (.cells #[.int .i64 4, .int .i64 1] 31) = W2 at *
  have h2 := Lib.hid (hb.trans (hA.mono hb.size))
  have K' := Lib.hid (K2.below hA)
  have r2 := Lib.hid (show W2.cell? ⟨w2x.heap.size, 0, none⟩ = some (.int .i64 3) ∧ W2.cell? ⟨w2x.heap.size, 1, none⟩ = some (.int .i64 1) from ⟨by rw [n0.cell]; rfl, by rw [n0.cell]; rfl⟩)
  have r2b := Lib.hid (show W2.cell? ⟨(w2x.heap.size + 1), 0, none⟩ = some (.int .i64 4) ∧ W2.cell? ⟨(w2x.heap.size + 1), 1, none⟩ = some (.int .i64 1) from ⟨by rw [n1'.cell]; rfl, by rw [n1'.cell]; rfl⟩)
  clear hb hA hA2 n0 K K2 n1'
  have K := K'
  clear K'
  refine (c_heights2 K.out.la).mono ?_
  rintro e w3x ⟨rfl, hb⟩
  have K3 := K.out.below hb
  have hA3 : Below w3x.heap.size w3x w3x := Below.refl _ _
  obtain ⟨⟨u0, u1⟩, ⟨u2, u3⟩, hl1, hl2⟩ := K3.cells
  go_wp2_with fail
  clear u0 u1 u2 u3 hl1 hl2 
  have n0 := (Blk.new w3x (.cells #[.int .i64 0, .int .i64 0] 31)).alloc (.cells #[.int .i64 0, .int .i64 0] 31)
  have n1' := Blk.new (w3x.alloc (.cells #[.int .i64 0, .int .i64 0] 31)) (.cells #[.int .i64 0, .int .i64 0] 31)
  rw [World.size_alloc] at n1'
  have hA := below2 w3x (.cells #[.int .i64 0, .int .i64 0] 31) (.cells #[.int .i64 0, .int .i64 0] 31)
  generalize (w3x.alloc (.cells #[.int .i64 0, .int .i64 0] 31)).alloc (.cells #[.int .i64 0, .int .i64 0] 31) = W3 at *
  have h3 := Lib.hid (hb.trans (hA.mono hb.size))
  have K' := Lib.hid (K3.below hA)
  have r3 := Lib.hid (show W3.cell? ⟨w3x.heap.size, 0, none⟩ = some (.int .i64 0) ∧ W3.cell? ⟨w3x.heap.size, 1, none⟩ = some (.int .i64 0) from ⟨by rw [n0.cell]; rfl, by rw [n0.cell]; rfl⟩)
  have r3b := Lib.hid (show W3.cell? ⟨(w3x.heap.size + 1), 0, none⟩ = some (.int .i64 0) ∧ W3.cell? ⟨(w3x.heap.size + 1), 1, none⟩ = some (.int .i64 0) from ⟨by rw [n1'.cell]; rfl, by rw [n1'.cell]; rfl⟩)
  clear hb hA hA3 n0 K K3 n1'
  have K := K'
  clear K'
  refine (c_heights3 K.out.lb).mono ?_
  rintro e w4x ⟨rfl, hb⟩
  have K4 := K.out.below hb
  have hA4 : Below w4x.heap.size w4x w4x := Below.refl _ _
  obtain ⟨⟨u0, u1⟩, ⟨u2, u3⟩, hl1, hl2⟩ := K4.cells
  go_wp2_with fail
  clear u0 u1 u2 u3 hl1 hl2 
  have n0 := (Blk.new w4x (.cells #[.int .i64 6, .int .i64 1] 31)).alloc (.cells #[.int .i64 14, .int .i64 1] 31)
  have n1' := Blk.new (w4x.alloc (.cells #[.int .i64 6, .int .i64 1] 31)) (.cells #[.int .i64 14, .int .i64 1] 31)
  rw [World.size_alloc] at n1'
  have hA := below2 w4x (.cells #[.int .i64 6, .int .i64 1] 31) (.cells #[.int .i64 14, .int .i64 1] 31)
  generalize (w4x.alloc (.cells #[.int .i64 6, .int .i64 1] 31)).alloc (.cells #[.int .i64 14, .int .i64 1] 31) = W4 at *
  have h4 := Lib.hid (hb.trans (hA.mono hb.size))
  have K' := Lib.hid (K4.below hA)
  have r4 := Lib.hid (show W4.cell? ⟨w4x.heap.size, 0, none⟩ = some (.int .i64 6) ∧ W4.cell? ⟨w4x.heap.size, 1, none⟩ = some (.int .i64 1) from ⟨by rw [n0.cell]; rfl, by rw [n0.cell]; rfl⟩)
  have r4b := Lib.hid (show W4.cell? ⟨(w4x.heap.size + 1), 0, none⟩ = some (.int .i64 14) ∧ W4.cell? ⟨(w4x.heap.size + 1), 1, none⟩ = some (.int .i64 1) from ⟨by rw [n1'.cell]; rfl, by rw [n1'.cell]; rfl⟩)
  clear hb hA hA4 n0 K K4 n1'
  have K := K'
  clear K'
  refine (c_turns1 K.out.la).mono ?_
  rintro e w5x ⟨rfl, hb⟩
  have K5 := K.out.below hb
  have hA5 : Below w5x.heap.size w5x w5x := Below.refl _ _
  have h5 := Lib.hid hb
  have K' := Lib.hid K5
  clear hb hA5 K K5
  have K := K'
  clear K'
  obtain ⟨⟨u0, u1⟩, ⟨u2, u3⟩, hl1, hl2⟩ := K.out.cells
  go_wp2_with fail
  clear u0 u1 u2 u3 hl1 hl2
  refine (c_turns2 K.out.la).mono ?_
  rintro e w6x ⟨rfl, hb⟩
  have K6 := K.out.below hb
  have hA6 : Below w6x.heap.size w6x w6x := Below.refl _ _
  have h6 := Lib.hid hb
  have K' := Lib.hid K6
  clear hb hA6 K K6
  have K := K'
  clear K'
  obtain ⟨⟨u0, u1⟩, ⟨u2, u3⟩, hl1, hl2⟩ := K.out.cells
  go_wp2_with fail
  clear u0 u1 u2 u3 hl1 hl2
  refine (rough_any _).mono ?_
  rintro e wr ⟨vr, rfl, hRO, hpre⟩
  obtain ⟨x1, x2, x3, rfl, hr1, hr2, hr3⟩ := hRO
  obtain ⟨y1, z1, rfl⟩ := hr1.slice
  obtain ⟨y2, z2, rfl⟩ := hr2.slice
  obtain ⟨y3, z3, rfl⟩ := hr3.slice
  have HRO := Lib.hid (show RoughAt wr _ roughD from ⟨_, _, _, rfl, hr1, hr2, hr3⟩)
  clear hr1 hr2 hr3
  go_wp2_with fail
  refine (c_span HRO.out).mono ?_
  rintro e w7x ⟨rfl, hb⟩
  have hb := hpre.trans (hb.mono hpre.size)
  have K7 := K.out.below hb
  have hA7 : Below w7x.heap.size w7x w7x := Below.refl _ _
  obtain ⟨⟨u0, u1⟩, ⟨u2, u3⟩, hl1, hl2⟩ := K7.cells
  have hch := bC (bC (bC (bC (bC (bC h1.out h2.out) h3.out) h4.out) h5.out) h6.out) hb
  obtain ⟨e0, e1, e2⟩ := A11.out
  have x0 := cellB e0 hch
  have x1 := cellB e1 hch
  have x2 := cellB e2 hch
  have xl := lt_of_cell x0
  clear hch e0 e1 e2
  go_wp2_with fail
  clear u0 u1 u2 u3 hl1 hl2 x0 x1 x2 xl
  have n0 := (Blk.new w7x (.cells #[.int .i64 5, .int .i64 2] 31)).alloc (.cells #[.int .i64 5, .int .i64 2] 31)
  have n1' := Blk.new (w7x.alloc (.cells #[.int .i64 5, .int .i64 2] 31)) (.cells #[.int .i64 5, .int .i64 2] 31)
  rw [World.size_alloc] at n1'
  have hA := below2 w7x (.cells #[.int .i64 5, .int .i64 2] 31) (.cells #[.int .i64 5, .int .i64 2] 31)
  generalize (w7x.alloc (.cells #[.int .i64 5, .int .i64 2] 31)).alloc (.cells #[.int .i64 5, .int .i64 2] 31) = W7 at *
  have h7 := Lib.hid (hb.trans (hA.mono hb.size))
  have K' := Lib.hid (K7.below hA)
  have r7 := Lib.hid (show W7.cell? ⟨w7x.heap.size, 0, none⟩ = some (.int .i64 5) ∧ W7.cell? ⟨w7x.heap.size, 1, none⟩ = some (.int .i64 2) from ⟨by rw [n0.cell]; rfl, by rw [n0.cell]; rfl⟩)
  have r7b := Lib.hid (show W7.cell? ⟨(w7x.heap.size + 1), 0, none⟩ = some (.int .i64 5) ∧ W7.cell? ⟨(w7x.heap.size + 1), 1, none⟩ = some (.int .i64 2) from ⟨by rw [n1'.cell]; rfl, by rw [n1'.cell]; rfl⟩)
  clear hb hA hA7 n0 K K7 n1' hpre
  have K := K'
  clear K'
  refine (c_rcore K.out.la).mono ?_
  rintro e w8x ⟨rfl, hb⟩
  have K8 := K.out.below hb
  have hA8 : Below w8x.heap.size w8x w8x := Below.refl _ _
  obtain ⟨⟨u0, u1⟩, ⟨u2, u3⟩, hl1, hl2⟩ := K8.cells
  have hch := bC (bC (bC (bC (bC (bC h2.out h3.out) h4.out) h5.out) h6.out) h7.out) hb
  obtain ⟨e0, e1, e2, e3⟩ := r1.out
  have x0 := cellB e0 hch
  have x1 := cellB e1 hch
  have x2 := cellB e2 hch
  have x3 := cellB e3 hch
  have xl := lt_of_cell x0
  clear hch e0 e1 e2 e3
  go_wp2_with fail
  clear u0 u1 u2 u3 hl1 hl2 x0 x1 x2 x3 xl
  have n0 := Blk.new w8x (.cells #[.int .i64 5, .int .i64 2] 31)
  have hA := below1 w8x (.cells #[.int .i64 5, .int .i64 2] 31)
  generalize w8x.alloc (.cells #[.int .i64 5, .int .i64 2] 31) = W8 at *
  have h8 := Lib.hid (hb.trans (hA.mono hb.size))
  have K' := Lib.hid (K8.below hA)
  have r8 := Lib.hid (show W8.cell? ⟨w8x.heap.size, 0, none⟩ = some (.int .i64 5) ∧ W8.cell? ⟨w8x.heap.size, 1, none⟩ = some (.int .i64 2) from ⟨by rw [n0.cell]; rfl, by rw [n0.cell]; rfl⟩)
  clear hb hA hA8 n0 K K8
  have K := K'
  clear K'
  refine (c_rproof K.out.la).mono ?_
  rintro e w9x ⟨rfl, hb⟩
  have K9 := K.out.below hb
  have hA9 : Below w9x.heap.size w9x w9x := Below.refl _ _
  obtain ⟨⟨u0, u1⟩, ⟨u2, u3⟩, hl1, hl2⟩ := K9.cells
  go_wp2_with fail
  clear u0 u1 u2 u3 hl1 hl2 
  have n0 := Blk.new w9x (.cells #[.int .i64 5, .int .i64 2] 31)
  have hA := below1 w9x (.cells #[.int .i64 5, .int .i64 2] 31)
  generalize w9x.alloc (.cells #[.int .i64 5, .int .i64 2] 31) = W9 at *
  have h9 := Lib.hid (hb.trans (hA.mono hb.size))
  have K' := Lib.hid (K9.below hA)
  have r9 := Lib.hid (show W9.cell? ⟨w9x.heap.size, 0, none⟩ = some (.int .i64 5) ∧ W9.cell? ⟨w9x.heap.size, 1, none⟩ = some (.int .i64 2) from ⟨by rw [n0.cell]; rfl, by rw [n0.cell]; rfl⟩)
  clear hb hA hA9 n0 K K9
  have K := K'
  clear K'
  have heq5 := fun w => pair_eq 5 2 w
  have heq2 := fun w => pair_eq 2 1 w
  have heq3 := fun w => pair_eq 3 1 w
  have heq4 := fun w => pair_eq 4 1 w
  have heq6 := fun w => pair_eq 6 1 w
  have heq14 := fun w => pair_eq 14 1 w
  have hby5 := fun (dr : Nat) (os : Array Obj) => Calls.regrown_of (by_any 5 2 (grow (redrawn W9 dr) os))
  have hby2 := fun (dr : Nat) (os : Array Obj) => Calls.regrown_of (by_any 2 1 (grow (redrawn W9 dr) os))
  have hby3 := fun (dr : Nat) (os : Array Obj) => Calls.regrown_of (by_any 3 1 (grow (redrawn W9 dr) os))
  have hby4 := fun (dr : Nat) (os : Array Obj) => Calls.regrown_of (by_any 4 1 (grow (redrawn W9 dr) os))
  have hby6 := fun (dr : Nat) (os : Array Obj) => Calls.regrown_of (by_any 6 1 (grow (redrawn W9 dr) os))
  have hby14 := fun (dr : Nat) (os : Array Obj) => Calls.regrown_of (by_any 14 1 (grow (redrawn W9 dr) os))
  have g0 := A3.out
  have G00 := fun d os => cell_regrown (cellB g0.1 (bC (bC (bC (bC (bC (bC (bC (bC h1.out h2.out) h3.out) h4.out) h5.out) h6.out) h7.out) h8.out) h9.out)) d os
  have G01 := fun d os => cell_regrown (cellB g0.2 (bC (bC (bC (bC (bC (bC (bC (bC h1.out h2.out) h3.out) h4.out) h5.out) h6.out) h7.out) h8.out) h9.out)) d os
  clear g0
  have g1 := A7.out
  have G10 := fun d os => cell_regrown (cellB g1.1 (bC (bC (bC (bC (bC (bC (bC (bC h1.out h2.out) h3.out) h4.out) h5.out) h6.out) h7.out) h8.out) h9.out)) d os
  have G11 := fun d os => cell_regrown (cellB g1.2 (bC (bC (bC (bC (bC (bC (bC (bC h1.out h2.out) h3.out) h4.out) h5.out) h6.out) h7.out) h8.out) h9.out)) d os
  clear g1
  have g2 := A9.out
  have G20 := fun d os => cell_regrown (cellB g2.1 (bC (bC (bC (bC (bC (bC (bC (bC h1.out h2.out) h3.out) h4.out) h5.out) h6.out) h7.out) h8.out) h9.out)) d os
  have G21 := fun d os => cell_regrown (cellB g2.2 (bC (bC (bC (bC (bC (bC (bC (bC h1.out h2.out) h3.out) h4.out) h5.out) h6.out) h7.out) h8.out) h9.out)) d os
  clear g2
  have g4 := A13.out
  have G40 := fun d os => cell_regrown (cellB g4.1 (bC (bC (bC (bC (bC (bC (bC (bC h1.out h2.out) h3.out) h4.out) h5.out) h6.out) h7.out) h8.out) h9.out)) d os
  have G41 := fun d os => cell_regrown (cellB g4.2 (bC (bC (bC (bC (bC (bC (bC (bC h1.out h2.out) h3.out) h4.out) h5.out) h6.out) h7.out) h8.out) h9.out)) d os
  clear g4
  have g6 := r2.out
  have G60 := fun d os => cell_regrown (cellB g6.1 (bC (bC (bC (bC (bC (bC h3.out h4.out) h5.out) h6.out) h7.out) h8.out) h9.out)) d os
  have G61 := fun d os => cell_regrown (cellB g6.2 (bC (bC (bC (bC (bC (bC h3.out h4.out) h5.out) h6.out) h7.out) h8.out) h9.out)) d os
  clear g6
  have g7 := r2b.out
  have G70 := fun d os => cell_regrown (cellB g7.1 (bC (bC (bC (bC (bC (bC h3.out h4.out) h5.out) h6.out) h7.out) h8.out) h9.out)) d os
  have G71 := fun d os => cell_regrown (cellB g7.2 (bC (bC (bC (bC (bC (bC h3.out h4.out) h5.out) h6.out) h7.out) h8.out) h9.out)) d os
  clear g7
  have g10 := r4.out
  have G100 := fun d os => cell_regrown (cellB g10.1 (bC (bC (bC (bC h5.out h6.out) h7.out) h8.out) h9.out)) d os
  have G101 := fun d os => cell_regrown (cellB g10.2 (bC (bC (bC (bC h5.out h6.out) h7.out) h8.out) h9.out)) d os
  clear g10
  have g11 := r4b.out
  have G110 := fun d os => cell_regrown (cellB g11.1 (bC (bC (bC (bC h5.out h6.out) h7.out) h8.out) h9.out)) d os
  have G111 := fun d os => cell_regrown (cellB g11.2 (bC (bC (bC (bC h5.out h6.out) h7.out) h8.out) h9.out)) d os
  clear g11
  have g12 := r7.out
  have G120 := fun d os => cell_regrown (cellB g12.1 (bC h8.out h9.out)) d os
  have G121 := fun d os => cell_regrown (cellB g12.2 (bC h8.out h9.out)) d os
  clear g12
  have g13 := r7b.out
  have G130 := fun d os => cell_regrown (cellB g13.1 (bC h8.out h9.out)) d os
  have G131 := fun d os => cell_regrown (cellB g13.2 (bC h8.out h9.out)) d os
  clear g13
  have g14 := r8.out
  have G140 := fun d os => cell_regrown (cellB g14.1 h9.out) d os
  have G141 := fun d os => cell_regrown (cellB g14.2 h9.out) d os
  clear g14
  have g15 := r9.out
  have G150 := fun d os => cell_regrown (g15.1) d os
  have G151 := fun d os => cell_regrown (g15.2) d os
  clear g15
  refine wp_region_quiet_below (by kernel_rfl) (by kernel_rfl) ?_
  repeat (quiet_step (first | (go_at_call 57; first | exact hby5 _ _ | exact hby2 _ _ | exact hby3 _ _ | exact hby4 _ _ | exact hby6 _ _ | exact hby14 _ _)))
  refine wpQuiet_nil ?_
  intro _ hw'
  obtain ⟨⟨dq, osq⟩, hw''⟩ := hw'
  subst hw''
  have HBF := Lib.hid (K.out.old.trans ((below_regrown W9 dq osq).mono K.out.old.size))
  clear G00 G01 G10 G11 G20 G21 G40 G41 G60 G61 G70 G71 G100 G101 G110 G111 G120 G121 G130 G131 G140 G141 G150 G151 heq5 hby5 heq2 hby2 heq3 hby3 heq4 hby4 heq6 hby6 heq14 hby14
  generalize grow (redrawn W9 dq) osq = WF at *
  go_wp2
  go_ret
  exact ⟨rfl, HBF.out⟩
end Go.Proofs.YtlhldkiggmlegaaDoor
