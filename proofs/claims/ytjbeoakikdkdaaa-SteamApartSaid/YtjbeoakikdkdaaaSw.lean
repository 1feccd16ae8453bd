import Derived.Test.YtjbeoakikdkdaaaSu
namespace Go.Proofs.Ytjbeoakikdkdaaa
open Go.RowKit Go.Vat Go.Sort Go.Shelf
attribute [local go_sem] Oper.semAt_some

/-! ## The examples hold -/
def dropSeq : Nat → Code → Code
  | 0, c => c
  | n + 1, .seq _ b => dropSeq n b
  | _ + 1, c => c
/-- What stands while the examples are tried. -/
def WkS (w : World) (B1 B2 : Nat) (sa : Option Addr) (sc : Nat) (na : Option Addr) (nc : Nat) (W : World) : Prop :=
  Blk W B1 (.cells #[.int .i64 2, .slice sa 5 sc] 24) ∧ Blk W B2 (.cells #[.int .i64 1, .slice na 0 nc] 24) ∧ YardAt W (.agg #[.int .i64 2, .slice sa 5 sc]) fiveY ∧ YardAt W (.agg #[.int .i64 1, .slice na 0 nc]) noneY ∧ Below w.heap.size w W
theorem WkS.below {w : World} {B1 B2 : Nat} {sa : Option Addr} {sc : Nat} {na : Option Addr} {nc : Nat} {W W' : World} (h : WkS w B1 B2 sa sc na nc W) (hb : Below W.heap.size W W') : WkS w B1 B2 sa sc na nc W' :=
  ⟨h.1.below hb, h.2.1.below hb, h.2.2.1.below hb, h.2.2.2.1.below hb, bC h.2.2.2.2 hb⟩
noncomputable def works_dC : Code := dropSeq 18 ((Try.f18.body).getD .skip)
set_option maxRecDepth 1000000 in
set_option maxHeartbeats 40000000 in
theorem works_d (w W0 : World) (B1 B2 : Nat) (sa : Option Addr) (sc : Nat) (na : Option Addr) (nc : Nat) (hK : WkS w B1 B2 sa sc na nc W0) (ha : Option Addr) (hc : Nat) (xs : List Int) (hH : IntsAt W0 (.slice ha 5 hc) xs) (hX : hoursV fiveY xs = 3 ∧ hoursErr fiveY xs = 0) (pa : Option Addr) (pc : Nat) (hP : PairsAt W0 (.slice pa 1 pc) [(2, 9)]) (ea : Option Addr) (ec : Nat) (hE : IntsAt W0 (.slice ea 3 ec) [2, 4, 7]) (la : Option Addr) (lc : Nat) (hL : IntsAt W0 (.slice la 3 lc) [4, 7, 9]) (ka : Option Addr) (kc : Nat) (hk0 : IntsAt W0 (.slice ka 4 kc) [0, 1, 2, 3])
    (u35 u36 u37 u38 u39 u40 u41 u42 u43 u44 u45 u46 u47 u48 u49 u50 u51 u52 u53 u54 u55 u56 u57 u58 u59 u60 u61 u62 u63 u64 u65 u66 u67 u68 u69 u70 u71 u72 u73 u74 u75 u76 u77 u78 u79 u80 u81 u82 u83 u84 u85 u86 u87 u88 u89 u90 u91 u92 u93 u94 u95 u96 u97 u98 u99 u100 u101 u102 u103 u104 u105 u106 u107 u108 u109 u110 u111 u112 u113 u114 u115 u116 u117 u118 u119 u120 u121 u122 u123 u124 u125 u126 u127 u128 u129 u130 u131 u132 u133 u134 u135 u136 u137 u138 u139 u140 u141 u142 u143 u144 u145 u146 u147 u148 u149 u150 u151 u152 u153 u154 u155 u156 u157 u158 u159 u160 u161 u162 u163 u164 u165 u166 u167 u168 u169 u170 u171 u172 u173 u174 u175 u176 u177 u178 u179 u180 u181 u182 u183 u184 u185 u186 u187 u188 u189 u190 u191 u192 u193 u194 u195 u196 u197 u198 u199 u200 u201 u202 u203 u204 u205 u206 u207 u208 u209 u210 u211 u212 u213 u214 u215 u216 u217 u218 u219 u220 u221 u222 u223 u224 u225 u226 u227 u228 u229 u230 u231 u232 u233 u234 u235 u236 u237 u238 u239 u240 u241 u242 u243 u244 u245 u246 u247 u248 u249 u250 u251 u252 u253 u254 u255 u256 u257 u258 u259 u260 u261 u262 u263 u264 u265 u266 : Value) :
    Code.wp Try.prog works_dC (bodyPost Try.prog Try.f18 fun e w' => e = .returned (.bool true) ∧ Below w.heap.size w w') ⟨#[.bool false, .pointer (some ⟨B1, 0, none⟩), .pointer (some ⟨B2, 0, none⟩), .int .i64 3, .int .i64 0, .int .i64 4, .int .i64 0, .int .i64 0, .int .i64 15, .int .i64 0, .int .i64 19, .int .i64 3, .int .i64 0, .int .i64 0, .int .i64 0, .slice ha 5 hc, .int .i64 0, .int .i64 3, .int .i64 0, .int .i64 0, .int .i64 3, .int .i64 2, .int .i64 0, .int .i64 0, .int .i64 16, .slice pa 1 pc, .int .i64 0, .slice ea 3 ec, .int .i64 0, .slice la 3 lc, .int .i64 0, .slice ka 4 kc, .int .i64 0, .slice none 0 0, .int .i64 3, u35, u36, u37, u38, u39, u40, u41, u42, u43, u44, u45, u46, u47, u48, u49, u50, u51, u52, u53, u54, u55, u56, u57, u58, u59, u60, u61, u62, u63, u64, u65, u66, u67, u68, u69, u70, u71, u72, u73, u74, u75, u76, u77, u78, u79, u80, u81, u82, u83, u84, u85, u86, u87, u88, u89, u90, u91, u92, u93, u94, u95, u96, u97, u98, u99, u100, u101, u102, u103, u104, u105, u106, u107, u108, u109, u110, u111, u112, u113, u114, u115, u116, u117, u118, u119, u120, u121, u122, u123, u124, u125, u126, u127, u128, u129, u130, u131, u132, u133, u134, u135, u136, u137, u138, u139, u140, u141, u142, u143, u144, u145, u146, u147, u148, u149, u150, u151, u152, u153, u154, u155, u156, u157, u158, u159, u160, u161, u162, u163, u164, u165, u166, u167, u168, u169, u170, u171, u172, u173, u174, u175, u176, u177, u178, u179, u180, u181, u182, u183, u184, u185, u186, u187, u188, u189, u190, u191, u192, u193, u194, u195, u196, u197, u198, u199, u200, u201, u202, u203, u204, u205, u206, u207, u208, u209, u210, u211, u212, u213, u214, u215, u216, u217, u218, u219, u220, u221, u222, u223, u224, u225, u226, u227, u228, u229, u230, u231, u232, u233, u234, u235, u236, u237, u238, u239, u240, u241, u242, u243, u244, u245, u246, u247, u248, u249, u250, u251, u252, u253, u254, u255, u256, u257, u258, u259, u260, u261, u262, u263, u264, u265, u266], []⟩ W0 := by
  have KS := Lib.hid hK
  clear hK
  have HH := Lib.hid hH
  clear hH
  have HX := Lib.hid hX
  clear hX
  have HP := Lib.hid hP
  clear hP
  have HE := Lib.hid hE
  clear hE
  have HL := Lib.hid hL
  clear hL
  have HK := Lib.hid hk0
  clear hk0
  conv => arg 2; whnf
  have c0 := KS.out.1.cell 0
  have c1 := KS.out.1.cell 1
  have c2 := KS.out.2.1.cell 0
  have c3 := KS.out.2.1.cell 1
  simp at c0 c1 c2 c3
  go_wp2_with fail
  clear c0 c1 c2 c3
  refine (rCheckHours_ok (.agg #[.int .i64 2, .slice sa 5 sc]) (.slice ha 5 hc) fiveY xs _ KS.out.2.2.1 five_ok HH.out).mono ?_
  rintro e y1 ⟨rfl, hb⟩
  replace KS := Lib.hid (KS.out.below hb)
  replace HH := Lib.hid (HH.out.below hb)
  replace HP := Lib.hid (HP.out.below hb)
  replace HE := Lib.hid (HE.out.below hb)
  replace HL := Lib.hid (HL.out.below hb)
  replace HK := Lib.hid (HK.out.below hb)
  clear hb
  rw [HX.out.1, HX.out.2]
  have c0 := KS.out.1.cell 0
  have c1 := KS.out.1.cell 1
  have c2 := KS.out.2.1.cell 0
  have c3 := KS.out.2.1.cell 1
  simp at c0 c1 c2 c3
  go_wp2_with fail
  clear c0 c1 c2 c3
  refine (rCheckProof_ok (.agg #[.int .i64 2, .slice sa 5 sc]) (.slice pa 1 pc) fiveY [(2, 9)] _ KS.out.2.2.1 five_ok HP.out).mono ?_
  rintro e y2 ⟨rfl, hb⟩
  replace KS := Lib.hid (KS.out.below hb)
  replace HH := Lib.hid (HH.out.below hb)
  replace HP := Lib.hid (HP.out.below hb)
  replace HE := Lib.hid (HE.out.below hb)
  replace HL := Lib.hid (HL.out.below hb)
  replace HK := Lib.hid (HK.out.below hb)
  clear hb
  rw [wv_p3.1, wv_p3.2]
  go_wp2_with fail
  have hb := below1 y2 (.cells #[.int .i64 2, .int .i64 4, .int .i64 7] 2)
  have bl := Blk.new y2 (.cells #[.int .i64 2, .int .i64 4, .int .i64 7] 2)
  have HA := Lib.hid (IntsAt.of_blk (cap := 3) (l := [2, 4, 7]) bl)
  clear bl
  replace KS := Lib.hid (KS.out.below hb)
  replace HH := Lib.hid (HH.out.below hb)
  replace HP := Lib.hid (HP.out.below hb)
  replace HE := Lib.hid (HE.out.below hb)
  replace HL := Lib.hid (HL.out.below hb)
  replace HK := Lib.hid (HK.out.below hb)
  clear hb
  generalize y2.alloc (.cells #[.int .i64 2, .int .i64 4, .int .i64 7] 2) = f3 at *
  generalize y2.heap.size = bb3 at *
  refine (longs_any _ _).mono ?_
  rintro e y4 ⟨rfl, rfl⟩
  go_wp2_with fail
  refine (Longs_any (.slice ea 3 ec) _ [2, 4, 7] [2, 4, 7] _ HE.out HA.out (by decide)).mono ?_
  rintro e y5 ⟨rfl, hb⟩
  replace KS := Lib.hid (KS.out.below hb)
  replace HH := Lib.hid (HH.out.below hb)
  replace HP := Lib.hid (HP.out.below hb)
  replace HE := Lib.hid (HE.out.below hb)
  replace HL := Lib.hid (HL.out.below hb)
  replace HK := Lib.hid (HK.out.below hb)
  clear hb
  rw [show decide (([2, 4, 7] : List Int) = [2, 4, 7]) = true from rfl]
  clear HA
  go_wp2_with fail
  have hb := below1 y5 (.cells #[.int .i64 4, .int .i64 7, .int .i64 9] 2)
  have bl := Blk.new y5 (.cells #[.int .i64 4, .int .i64 7, .int .i64 9] 2)
  have HA := Lib.hid (IntsAt.of_blk (cap := 3) (l := [4, 7, 9]) bl)
  clear bl
  replace KS := Lib.hid (KS.out.below hb)
  replace HH := Lib.hid (HH.out.below hb)
  replace HP := Lib.hid (HP.out.below hb)
  replace HE := Lib.hid (HE.out.below hb)
  replace HL := Lib.hid (HL.out.below hb)
  replace HK := Lib.hid (HK.out.below hb)
  clear hb
  generalize y5.alloc (.cells #[.int .i64 4, .int .i64 7, .int .i64 9] 2) = f6 at *
  generalize y5.heap.size = bb6 at *
  refine (longs_any _ _).mono ?_
  rintro e y7 ⟨rfl, rfl⟩
  go_wp2_with fail
  refine (Longs_any (.slice la 3 lc) _ [4, 7, 9] [4, 7, 9] _ HL.out HA.out (by decide)).mono ?_
  rintro e y8 ⟨rfl, hb⟩
  replace KS := Lib.hid (KS.out.below hb)
  replace HH := Lib.hid (HH.out.below hb)
  replace HP := Lib.hid (HP.out.below hb)
  replace HE := Lib.hid (HE.out.below hb)
  replace HL := Lib.hid (HL.out.below hb)
  replace HK := Lib.hid (HK.out.below hb)
  clear hb
  rw [show decide (([4, 7, 9] : List Int) = [4, 7, 9]) = true from rfl]
  clear HA
  go_wp2_with fail
  have hb := below1 y8 (.cells #[.int .i64 0, .int .i64 1, .int .i64 2, .int .i64 3] 3)
  have bl := Blk.new y8 (.cells #[.int .i64 0, .int .i64 1, .int .i64 2, .int .i64 3] 3)
  have HA := Lib.hid (IntsAt.of_blk (cap := 4) (l := [0, 1, 2, 3]) bl)
  clear bl
  replace KS := Lib.hid (KS.out.below hb)
  replace HH := Lib.hid (HH.out.below hb)
  replace HP := Lib.hid (HP.out.below hb)
  replace HE := Lib.hid (HE.out.below hb)
  replace HL := Lib.hid (HL.out.below hb)
  replace HK := Lib.hid (HK.out.below hb)
  clear hb
  generalize y8.alloc (.cells #[.int .i64 0, .int .i64 1, .int .i64 2, .int .i64 3] 3) = f9 at *
  generalize y8.heap.size = bb9 at *
  refine (of_any _ _).mono ?_
  rintro e y10 ⟨rfl, rfl⟩
  go_wp2_with fail
  refine (Ints_any (.slice ka 4 kc) _ [0, 1, 2, 3] [0, 1, 2, 3] _ HK.out HA.out (by decide)).mono ?_
  rintro e y11 ⟨rfl, hb⟩
  replace KS := Lib.hid (KS.out.below hb)
  replace HH := Lib.hid (HH.out.below hb)
  replace HP := Lib.hid (HP.out.below hb)
  replace HE := Lib.hid (HE.out.below hb)
  replace HL := Lib.hid (HL.out.below hb)
  replace HK := Lib.hid (HK.out.below hb)
  clear hb
  rw [show decide (([0, 1, 2, 3] : List Int) = [0, 1, 2, 3]) = true from rfl]
  clear HA
  go_wp2
  go_ret
  exact ⟨rfl, KS.out.2.2.2.2⟩
end Go.Proofs.Ytjbeoakikdkdaaa

namespace Go.Proofs.Ytjbeoakikdkdaaa
open Go.RowKit Go.Vat Go.Sort Go.Shelf
attribute [local go_sem] Oper.semAt_some

noncomputable def works_cC : Code := dropSeq 12 ((Try.f18.body).getD .skip)
set_option maxRecDepth 1000000 in
set_option maxHeartbeats 40000000 in
theorem works_c (w W0 : World) (B1 B2 : Nat) (sa : Option Addr) (sc : Nat) (na : Option Addr) (nc : Nat) (hK : WkS w B1 B2 sa sc na nc W0) (ha : Option Addr) (hc : Nat) (xs : List Int) (hH : IntsAt W0 (.slice ha 5 hc) xs) (hX : hoursV fiveY xs = 3 ∧ hoursErr fiveY xs = 0)
    (u23 u24 u25 u26 u27 u28 u29 u30 u31 u32 u33 u34 u35 u36 u37 u38 u39 u40 u41 u42 u43 u44 u45 u46 u47 u48 u49 u50 u51 u52 u53 u54 u55 u56 u57 u58 u59 u60 u61 u62 u63 u64 u65 u66 u67 u68 u69 u70 u71 u72 u73 u74 u75 u76 u77 u78 u79 u80 u81 u82 u83 u84 u85 u86 u87 u88 u89 u90 u91 u92 u93 u94 u95 u96 u97 u98 u99 u100 u101 u102 u103 u104 u105 u106 u107 u108 u109 u110 u111 u112 u113 u114 u115 u116 u117 u118 u119 u120 u121 u122 u123 u124 u125 u126 u127 u128 u129 u130 u131 u132 u133 u134 u135 u136 u137 u138 u139 u140 u141 u142 u143 u144 u145 u146 u147 u148 u149 u150 u151 u152 u153 u154 u155 u156 u157 u158 u159 u160 u161 u162 u163 u164 u165 u166 u167 u168 u169 u170 u171 u172 u173 u174 u175 u176 u177 u178 u179 u180 u181 u182 u183 u184 u185 u186 u187 u188 u189 u190 u191 u192 u193 u194 u195 u196 u197 u198 u199 u200 u201 u202 u203 u204 u205 u206 u207 u208 u209 u210 u211 u212 u213 u214 u215 u216 u217 u218 u219 u220 u221 u222 u223 u224 u225 u226 u227 u228 u229 u230 u231 u232 u233 u234 u235 u236 u237 u238 u239 u240 u241 u242 u243 u244 u245 u246 u247 u248 u249 u250 u251 u252 u253 u254 u255 u256 u257 u258 u259 u260 u261 u262 u263 u264 u265 u266 : Value) :
    Code.wp Try.prog works_cC (bodyPost Try.prog Try.f18 fun e w' => e = .returned (.bool true) ∧ Below w.heap.size w w') ⟨#[.bool false, .pointer (some ⟨B1, 0, none⟩), .pointer (some ⟨B2, 0, none⟩), .int .i64 3, .int .i64 0, .int .i64 4, .int .i64 0, .int .i64 0, .int .i64 15, .int .i64 0, .int .i64 19, .int .i64 3, .int .i64 0, .int .i64 0, .int .i64 0, .slice ha 5 hc, .int .i64 0, .int .i64 3, .int .i64 0, .int .i64 0, .int .i64 3, .int .i64 2, .int .i64 0, u23, u24, u25, u26, u27, u28, u29, u30, u31, u32, u33, u34, u35, u36, u37, u38, u39, u40, u41, u42, u43, u44, u45, u46, u47, u48, u49, u50, u51, u52, u53, u54, u55, u56, u57, u58, u59, u60, u61, u62, u63, u64, u65, u66, u67, u68, u69, u70, u71, u72, u73, u74, u75, u76, u77, u78, u79, u80, u81, u82, u83, u84, u85, u86, u87, u88, u89, u90, u91, u92, u93, u94, u95, u96, u97, u98, u99, u100, u101, u102, u103, u104, u105, u106, u107, u108, u109, u110, u111, u112, u113, u114, u115, u116, u117, u118, u119, u120, u121, u122, u123, u124, u125, u126, u127, u128, u129, u130, u131, u132, u133, u134, u135, u136, u137, u138, u139, u140, u141, u142, u143, u144, u145, u146, u147, u148, u149, u150, u151, u152, u153, u154, u155, u156, u157, u158, u159, u160, u161, u162, u163, u164, u165, u166, u167, u168, u169, u170, u171, u172, u173, u174, u175, u176, u177, u178, u179, u180, u181, u182, u183, u184, u185, u186, u187, u188, u189, u190, u191, u192, u193, u194, u195, u196, u197, u198, u199, u200, u201, u202, u203, u204, u205, u206, u207, u208, u209, u210, u211, u212, u213, u214, u215, u216, u217, u218, u219, u220, u221, u222, u223, u224, u225, u226, u227, u228, u229, u230, u231, u232, u233, u234, u235, u236, u237, u238, u239, u240, u241, u242, u243, u244, u245, u246, u247, u248, u249, u250, u251, u252, u253, u254, u255, u256, u257, u258, u259, u260, u261, u262, u263, u264, u265, u266], []⟩ W0 := by
  have KS := Lib.hid hK
  clear hK
  have HH := Lib.hid hH
  clear hH
  have HX := Lib.hid hX
  clear hX
  conv => arg 2; whnf
  have c0 := KS.out.1.cell 0
  have c1 := KS.out.1.cell 1
  have c2 := KS.out.2.1.cell 0
  have c3 := KS.out.2.1.cell 1
  simp at c0 c1 c2 c3
  go_wp2_with fail
  refine (wp_region_T 10 (fun W' => W'.cell? ⟨B1, 0, none⟩ = some (.int .i64 2) ∧ W'.cell? ⟨B1, 1, none⟩ = some (.slice sa 5 sc)) (by kernel_rfl) (by kernel_rfl) ⟨c0, c1⟩ ?_)
  intro inv hS
  clear c0 c1 c2 c3
  have hb : Below W0.heap.size W0 W0.drew := (Below.refl _ _).drew
  generalize W0.drew = d1 at *
  replace KS := Lib.hid (KS.out.below hb)
  replace HH := Lib.hid (HH.out.below hb)
  clear hb
  refine wpAnyT_take inv (by kernel_rfl) (by omega) (i := 0) (v := .agg #[.int .i64 2, .slice sa 5 sc]) rfl (by kernel_rfl) (by kernel_rfl) (fun _ _ _ h => h) (Or.inl ⟨by kernel_rfl, ?_⟩) (by assumption) ?_
  · rintro W' ⟨q0, q1⟩
    go_simp
  intro inv2
  clear inv
  have inv := inv2
  clear inv2
  simp only [Act.put, List.setIfInBounds_toArray]
  refine wpAnyT_ready [1] (by kernel_rfl) (by simp) ?_
  refine AllReadyT.cons rfl (fun K hK => ?_) AllReadyT.nil
  go_simp
  refine (to_any 2 5 _).mono ?_
  rintro e g2 ⟨rfl, hb⟩
  refine hK.out _ _ (fun _ => ⟨cellB hS.1 hb, cellB hS.2 hb⟩) (fun _ => ?_)
  replace inv := HeadM.step inv 1 (by kernel_rfl) (by omega)
  clear hK K
  try simp only [Act.put]
  replace hS := And.intro (cellB hS.1 hb) (cellB hS.2 hb)
  replace KS := Lib.hid (KS.out.below hb)
  replace HH := Lib.hid (HH.out.below hb)
  clear hb
  refine wpAnyT_ready [2] (by kernel_rfl) (by simp) ?_
  refine AllReadyT.cons rfl (fun K hK => ?_) AllReadyT.nil
  go_simp
  refine (to_any 5 9 _).mono ?_
  rintro e g3 ⟨rfl, hb⟩
  refine hK.out _ _ (fun _ => ⟨cellB hS.1 hb, cellB hS.2 hb⟩) (fun _ => ?_)
  replace inv := HeadM.step inv 2 (by kernel_rfl) (by omega)
  clear hK K
  try simp only [Act.put]
  replace hS := And.intro (cellB hS.1 hb) (cellB hS.2 hb)
  replace KS := Lib.hid (KS.out.below hb)
  replace HH := Lib.hid (HH.out.below hb)
  clear hb
  refine wpAnyT_ready [3] (by kernel_rfl) (by simp) ?_
  refine AllReadyT.cons rfl (fun K hK => ?_) AllReadyT.nil
  go_simp
  have hb := below1 g3 (.cells #[.int .i64 2, .int .i64 5, .int .i64 5, .int .i64 9] 27)
  have bl := Blk.new g3 (.cells #[.int .i64 2, .int .i64 5, .int .i64 5, .int .i64 9] 27)
  have HA := Lib.hid (show PairsAt (g3.alloc (.cells #[.int .i64 2, .int .i64 5, .int .i64 5, .int .i64 9] 27)) (.slice (some ⟨g3.heap.size, 0, none⟩) 2 2) [(2, 5), (5, 9)] from PairsAt.of_blk (cap := 2) (l := [(2, 5), (5, 9)]) bl)
  clear bl
  refine hK.out _ _ (fun _ => ⟨cellB hS.1 hb, cellB hS.2 hb⟩) (fun _ => ?_)
  replace inv := HeadM.step inv 3 (by kernel_rfl) (by omega)
  clear hK K
  try simp only [Act.put]
  replace hS := And.intro (cellB hS.1 hb) (cellB hS.2 hb)
  replace KS := Lib.hid (KS.out.below hb)
  replace HH := Lib.hid (HH.out.below hb)
  clear hb
  generalize g3.alloc (.cells #[.int .i64 2, .int .i64 5, .int .i64 5, .int .i64 9] 27) = f4 at *
  generalize g3.heap.size = bb4 at *
  refine wpAnyT_ready [4] (by kernel_rfl) (by simp) ?_
  refine AllReadyT.cons rfl (fun K hK => ?_) AllReadyT.nil
  go_simp
  refine (ranges_any _ _).mono ?_
  rintro e g5 ⟨rfl, rfl⟩
  refine hK.out _ _ (fun _ => hS) (fun _ => ?_)
  replace inv := HeadM.step inv 4 (by kernel_rfl) (by omega)
  clear hK K
  try simp only [Act.put]
  refine wpAnyT_ready [5] (by kernel_rfl) (by simp) ?_
  refine AllReadyT.cons rfl (fun K hK => ?_) AllReadyT.nil
  go_simp
  refine (CheckProof_ok (.agg #[.int .i64 2, .slice sa 5 sc]) _ fiveY [(2, 5), (5, 9)] _ KS.out.2.2.1 five_ok HA.out (by decide)).mono ?_
  rintro e g6 ⟨rfl, hb⟩
  rw [wv_p2.1, wv_p2.2]
  refine hK.out _ _ (fun _ => ⟨cellB hS.1 hb, cellB hS.2 hb⟩) (fun _ => ?_)
  replace inv := HeadM.step inv 5 (by kernel_rfl) (by omega)
  clear hK K
  try simp only [Act.put]
  replace hS := And.intro (cellB hS.1 hb) (cellB hS.2 hb)
  replace KS := Lib.hid (KS.out.below hb)
  replace HH := Lib.hid (HH.out.below hb)
  replace HA := Lib.hid (HA.out.below hb)
  clear hb
  refine wpAnyT_take inv (by kernel_rfl) (by omega) (i := 6) (v := .tuple #[.int .i64 0, .int .i64 16]) rfl (by kernel_rfl) (by kernel_rfl) (fun _ _ _ h => h) (Or.inl ⟨by kernel_rfl, ?_⟩) (by assumption) ?_
  · rintro W' ⟨q0, q1⟩
    go_simp
  intro inv2
  clear inv
  have inv := inv2
  clear inv2
  simp only [Act.put]
  refine wpAnyT_take inv (by kernel_rfl) (by omega) (i := 7) (v := .int .i64 0) rfl (by kernel_rfl) (by kernel_rfl) (fun _ _ _ h => h) (Or.inl ⟨by kernel_rfl, ?_⟩) (by assumption) ?_
  · rintro W' ⟨q0, q1⟩
    go_simp
  intro inv2
  clear inv
  have inv := inv2
  clear inv2
  simp only [Act.put]
  refine wpAnyT_take inv (by kernel_rfl) (by omega) (i := 8) (v := .int .i64 16) rfl (by kernel_rfl) (by kernel_rfl) (fun _ _ _ h => h) (Or.inl ⟨by kernel_rfl, ?_⟩) (by assumption) ?_
  · rintro W' ⟨q0, q1⟩
    go_simp
  intro inv2
  clear inv
  have inv := inv2
  clear inv2
  simp only [Act.put]
  refine wpAnyT_take inv (by kernel_rfl) (by omega) (i := 9) (v := .int .i64 0) rfl (by kernel_rfl) (by kernel_rfl) (fun _ _ _ h => h) (Or.inl ⟨by kernel_rfl, ?_⟩) (by assumption) ?_
  · rintro W' ⟨q0, q1⟩
    go_simp
  intro inv2
  clear inv
  have inv := inv2
  clear inv2
  simp only [Act.put]
  refine wpAnyT_chain (fuel := 1) rfl (by kernel_rfl) ?_
  simp only [List.drop_succ_cons, List.drop_zero]
  clear inv hS
  clear HA
  have c0 := KS.out.1.cell 0
  have c1 := KS.out.1.cell 1
  have c2 := KS.out.2.1.cell 0
  have c3 := KS.out.2.1.cell 1
  simp at c0 c1 c2 c3
  go_wp2_with fail
  clear c0 c1 c2 c3
  refine (Proof_ok (.agg #[.int .i64 2, .slice sa 5 sc]) fiveY _ KS.out.2.2.1 five_ok).mono ?_
  rintro e y7 ⟨vv, rfl, hi, hb⟩
  replace KS := Lib.hid (KS.out.below hb)
  replace HH := Lib.hid (HH.out.below hb)
  clear hb
  rw [wv_proof] at hi
  obtain ⟨pa, pc, rfl⟩ := hi.slice
  have HP := Lib.hid (show PairsAt y7 (.slice pa 1 pc) [(2, 9)] from hi)
  clear hi
  simp only [List.length_cons, List.length_nil, Nat.reduceAdd]
  have c0 := KS.out.1.cell 0
  have c1 := KS.out.1.cell 1
  have c2 := KS.out.2.1.cell 0
  have c3 := KS.out.2.1.cell 1
  simp at c0 c1 c2 c3
  go_wp2_with fail
  clear c0 c1 c2 c3
  refine (Early_ok (.agg #[.int .i64 2, .slice sa 5 sc]) fiveY _ KS.out.2.2.1 five_ok).mono ?_
  rintro e y8 ⟨vv, rfl, hi, hb⟩
  replace KS := Lib.hid (KS.out.below hb)
  replace HH := Lib.hid (HH.out.below hb)
  replace HP := Lib.hid (HP.out.below hb)
  clear hb
  rw [wv_early] at hi
  obtain ⟨ea, ec, rfl⟩ := hi.slice
  have HE := Lib.hid (show IntsAt y8 (.slice ea 3 ec) [2, 4, 7] from hi)
  clear hi
  simp only [List.length_cons, List.length_nil, Nat.reduceAdd]
  have c0 := KS.out.1.cell 0
  have c1 := KS.out.1.cell 1
  have c2 := KS.out.2.1.cell 0
  have c3 := KS.out.2.1.cell 1
  simp at c0 c1 c2 c3
  go_wp2_with fail
  clear c0 c1 c2 c3
  refine (Late_ok (.agg #[.int .i64 2, .slice sa 5 sc]) fiveY _ KS.out.2.2.1 five_ok).mono ?_
  rintro e y9 ⟨vv, rfl, hi, hb⟩
  replace KS := Lib.hid (KS.out.below hb)
  replace HH := Lib.hid (HH.out.below hb)
  replace HP := Lib.hid (HP.out.below hb)
  replace HE := Lib.hid (HE.out.below hb)
  clear hb
  rw [wv_late] at hi
  obtain ⟨la, lc, rfl⟩ := hi.slice
  have HL := Lib.hid (show IntsAt y9 (.slice la 3 lc) [4, 7, 9] from hi)
  clear hi
  simp only [List.length_cons, List.length_nil, Nat.reduceAdd]
  have c0 := KS.out.1.cell 0
  have c1 := KS.out.1.cell 1
  have c2 := KS.out.2.1.cell 0
  have c3 := KS.out.2.1.cell 1
  simp at c0 c1 c2 c3
  go_wp2_with fail
  clear c0 c1 c2 c3
  refine (Keep_yes (.agg #[.int .i64 2, .slice sa 5 sc]) 2 fiveY _ KS.out.2.2.1 five_ok (by decide)).mono ?_
  rintro e y10 ⟨vv, rfl, hi, hb⟩
  replace KS := Lib.hid (KS.out.below hb)
  replace HH := Lib.hid (HH.out.below hb)
  replace HP := Lib.hid (HP.out.below hb)
  replace HE := Lib.hid (HE.out.below hb)
  replace HL := Lib.hid (HL.out.below hb)
  clear hb
  rw [wv_keep2] at hi
  obtain ⟨ka, kc, rfl⟩ := hi.slice
  have HK := Lib.hid (show IntsAt y10 (.slice ka 4 kc) [0, 1, 2, 3] from hi)
  clear hi
  simp only [List.length_cons, List.length_nil, List.length_map, Nat.reduceAdd]
  have c0 := KS.out.1.cell 0
  have c1 := KS.out.1.cell 1
  have c2 := KS.out.2.1.cell 0
  have c3 := KS.out.2.1.cell 1
  simp at c0 c1 c2 c3
  go_upto_region 17 with (fail)
  rename_i hk
  have HKK := Lib.hid hk
  clear hk
  go_wp2_with fail
  clear c0 c1 c2 c3
  refine (Keep_no (.agg #[.int .i64 2, .slice sa 5 sc]) 11 fiveY _ KS.out.2.2.1 five_ok (by decide)).mono ?_
  rintro e y11 ⟨rfl, hb⟩
  replace KS := Lib.hid (KS.out.below hb)
  replace HH := Lib.hid (HH.out.below hb)
  replace HP := Lib.hid (HP.out.below hb)
  replace HE := Lib.hid (HE.out.below hb)
  replace HL := Lib.hid (HL.out.below hb)
  replace HK := Lib.hid (HK.out.below hb)
  clear hb
  go_wp2_with fail
  exact HKK.out _ _ (works_d w _ _ _ _ _ _ _ KS.out _ _ _ HH.out HX.out _ _ HP.out _ _ HE.out _ _ HL.out _ _ HK.out _ _ _ _ _ _ _ _ _ _ _ _ _ _ _ _ _ _ _ _ _ _ _ _ _ _ _ _ _ _ _ _ _ _ _ _ _ _ _ _ _ _ _ _ _ _ _ _ _ _ _ _ _ _ _ _ _ _ _ _ _ _ _ _ _ _ _ _ _ _ _ _ _ _ _ _ _ _ _ _ _ _ _ _ _ _ _ _ _ _ _ _ _ _ _ _ _ _ _ _ _ _ _ _ _ _ _ _ _ _ _ _ _ _ _ _ _ _ _ _ _ _ _ _ _ _ _ _ _ _ _ _ _ _ _ _ _ _ _ _ _ _ _ _ _ _ _ _ _ _ _ _ _ _ _ _ _ _ _ _ _ _ _ _ _ _ _ _ _ _ _ _ _ _ _ _ _ _ _ _ _ _ _ _ _ _ _ _ _ _ _ _ _ _ _ _ _ _ _ _ _ _ _ _ _ _ _ _ _ _ _ _ _ _ _ _ _ _ _ _ _ _ _ _ _ _ _ _ _ _ _ _)
end Go.Proofs.Ytjbeoakikdkdaaa

namespace Go.Proofs.Ytjbeoakikdkdaaa
open Go.RowKit Go.Vat Go.Sort Go.Shelf
attribute [local go_sem] Oper.semAt_some

noncomputable def works_bC : Code := dropSeq 6 ((Try.f18.body).getD .skip)
set_option maxRecDepth 1000000 in
set_option maxHeartbeats 40000000 in
theorem works_b (w W0 : World) (B1 B2 : Nat) (sa : Option Addr) (sc : Nat) (na : Option Addr) (nc : Nat) (hK : WkS w B1 B2 sa sc na nc W0)
    (u11 u12 u13 u14 u15 u16 u17 u18 u19 u20 u21 u22 u23 u24 u25 u26 u27 u28 u29 u30 u31 u32 u33 u34 u35 u36 u37 u38 u39 u40 u41 u42 u43 u44 u45 u46 u47 u48 u49 u50 u51 u52 u53 u54 u55 u56 u57 u58 u59 u60 u61 u62 u63 u64 u65 u66 u67 u68 u69 u70 u71 u72 u73 u74 u75 u76 u77 u78 u79 u80 u81 u82 u83 u84 u85 u86 u87 u88 u89 u90 u91 u92 u93 u94 u95 u96 u97 u98 u99 u100 u101 u102 u103 u104 u105 u106 u107 u108 u109 u110 u111 u112 u113 u114 u115 u116 u117 u118 u119 u120 u121 u122 u123 u124 u125 u126 u127 u128 u129 u130 u131 u132 u133 u134 u135 u136 u137 u138 u139 u140 u141 u142 u143 u144 u145 u146 u147 u148 u149 u150 u151 u152 u153 u154 u155 u156 u157 u158 u159 u160 u161 u162 u163 u164 u165 u166 u167 u168 u169 u170 u171 u172 u173 u174 u175 u176 u177 u178 u179 u180 u181 u182 u183 u184 u185 u186 u187 u188 u189 u190 u191 u192 u193 u194 u195 u196 u197 u198 u199 u200 u201 u202 u203 u204 u205 u206 u207 u208 u209 u210 u211 u212 u213 u214 u215 u216 u217 u218 u219 u220 u221 u222 u223 u224 u225 u226 u227 u228 u229 u230 u231 u232 u233 u234 u235 u236 u237 u238 u239 u240 u241 u242 u243 u244 u245 u246 u247 u248 u249 u250 u251 u252 u253 u254 u255 u256 u257 u258 u259 u260 u261 u262 u263 u264 u265 u266 : Value) :
    Code.wp Try.prog works_bC (bodyPost Try.prog Try.f18 fun e w' => e = .returned (.bool true) ∧ Below w.heap.size w w') ⟨#[.bool false, .pointer (some ⟨B1, 0, none⟩), .pointer (some ⟨B2, 0, none⟩), .int .i64 3, .int .i64 0, .int .i64 4, .int .i64 0, .int .i64 0, .int .i64 15, .int .i64 0, .int .i64 19, u11, u12, u13, u14, u15, u16, u17, u18, u19, u20, u21, u22, u23, u24, u25, u26, u27, u28, u29, u30, u31, u32, u33, u34, u35, u36, u37, u38, u39, u40, u41, u42, u43, u44, u45, u46, u47, u48, u49, u50, u51, u52, u53, u54, u55, u56, u57, u58, u59, u60, u61, u62, u63, u64, u65, u66, u67, u68, u69, u70, u71, u72, u73, u74, u75, u76, u77, u78, u79, u80, u81, u82, u83, u84, u85, u86, u87, u88, u89, u90, u91, u92, u93, u94, u95, u96, u97, u98, u99, u100, u101, u102, u103, u104, u105, u106, u107, u108, u109, u110, u111, u112, u113, u114, u115, u116, u117, u118, u119, u120, u121, u122, u123, u124, u125, u126, u127, u128, u129, u130, u131, u132, u133, u134, u135, u136, u137, u138, u139, u140, u141, u142, u143, u144, u145, u146, u147, u148, u149, u150, u151, u152, u153, u154, u155, u156, u157, u158, u159, u160, u161, u162, u163, u164, u165, u166, u167, u168, u169, u170, u171, u172, u173, u174, u175, u176, u177, u178, u179, u180, u181, u182, u183, u184, u185, u186, u187, u188, u189, u190, u191, u192, u193, u194, u195, u196, u197, u198, u199, u200, u201, u202, u203, u204, u205, u206, u207, u208, u209, u210, u211, u212, u213, u214, u215, u216, u217, u218, u219, u220, u221, u222, u223, u224, u225, u226, u227, u228, u229, u230, u231, u232, u233, u234, u235, u236, u237, u238, u239, u240, u241, u242, u243, u244, u245, u246, u247, u248, u249, u250, u251, u252, u253, u254, u255, u256, u257, u258, u259, u260, u261, u262, u263, u264, u265, u266], []⟩ W0 := by
  have KS := Lib.hid hK
  clear hK
  conv => arg 2; whnf
  have c0 := KS.out.1.cell 0
  have c1 := KS.out.1.cell 1
  have c2 := KS.out.2.1.cell 0
  have c3 := KS.out.2.1.cell 1
  simp at c0 c1 c2 c3
  go_wp2_with fail
  clear c0 c1 c2 c3
  refine (Fewest_ok (.agg #[.int .i64 2, .slice sa 5 sc]) fiveY _ KS.out.2.2.1 five_ok).mono ?_
  rintro e y1 ⟨rfl, hb⟩
  replace KS := Lib.hid (KS.out.below hb)
  clear hb
  rw [wv_U]
  have c0 := KS.out.1.cell 0
  have c1 := KS.out.1.cell 1
  have c2 := KS.out.2.1.cell 0
  have c3 := KS.out.2.1.cell 1
  simp at c0 c1 c2 c3
  go_wp2_with fail
  clear c0 c1 c2 c3
  refine (Fewest_ok (.agg #[.int .i64 1, .slice na 0 nc]) noneY _ KS.out.2.2.2.1 none_ok).mono ?_
  rintro e y2 ⟨rfl, hb⟩
  replace KS := Lib.hid (KS.out.below hb)
  clear hb
  rw [wv_U0]
  have c0 := KS.out.1.cell 0
  have c1 := KS.out.1.cell 1
  have c2 := KS.out.2.1.cell 0
  have c3 := KS.out.2.1.cell 1
  simp at c0 c1 c2 c3
  go_wp2_with fail
  clear c0 c1 c2 c3
  refine (Hours_ok (.agg #[.int .i64 2, .slice sa 5 sc]) fiveY _ KS.out.2.2.1 five_ok).mono ?_
  rintro e y3 ⟨vh, xs, rfl, hi, hf, hn, hb⟩
  replace KS := Lib.hid (KS.out.below hb)
  clear hb
  have hxl := fit_length hf
  rw [show fiveY.logs.length = 5 from rfl] at hxl
  obtain ⟨h1, h2⟩ := hours_of five_ok hf
  rw [hn, wv_U] at h2
  have HX := Lib.hid (And.intro h2 h1)
  obtain ⟨ha, hc, rfl⟩ := hi.slice
  rw [hxl] at hi ⊢
  have HH := Lib.hid hi
  clear hi hf hn h1 h2 hxl
  have c0 := KS.out.1.cell 0
  have c1 := KS.out.1.cell 1
  have c2 := KS.out.2.1.cell 0
  have c3 := KS.out.2.1.cell 1
  simp at c0 c1 c2 c3
  go_wp2_with fail
  refine (wp_region_T 7 (fun W' => W'.cell? ⟨B1, 0, none⟩ = some (.int .i64 2) ∧ W'.cell? ⟨B1, 1, none⟩ = some (.slice sa 5 sc)) (by kernel_rfl) (by kernel_rfl) ⟨c0, c1⟩ ?_)
  intro inv hS
  clear c0 c1 c2 c3
  have hb : Below y3.heap.size y3 y3.drew := (Below.refl _ _).drew
  generalize y3.drew = d4 at *
  replace KS := Lib.hid (KS.out.below hb)
  replace HH := Lib.hid (HH.out.below hb)
  clear hb
  refine wpAnyT_take inv (by kernel_rfl) (by omega) (i := 0) (v := .agg #[.int .i64 2, .slice sa 5 sc]) rfl (by kernel_rfl) (by kernel_rfl) (fun _ _ _ h => h) (Or.inl ⟨by kernel_rfl, ?_⟩) (by assumption) ?_
  · rintro W' ⟨q0, q1⟩
    go_simp
  intro inv2
  clear inv
  have inv := inv2
  clear inv2
  simp only [Act.put, List.setIfInBounds_toArray]
  refine wpAnyT_ready [1] (by kernel_rfl) (by simp) ?_
  refine AllReadyT.cons rfl (fun K hK => ?_) AllReadyT.nil
  go_simp
  refine (to_any 2 9 _).mono ?_
  rintro e g5 ⟨rfl, hb⟩
  refine hK.out _ _ (fun _ => ⟨cellB hS.1 hb, cellB hS.2 hb⟩) (fun _ => ?_)
  replace inv := HeadM.step inv 1 (by kernel_rfl) (by omega)
  clear hK K
  try simp only [Act.put]
  replace hS := And.intro (cellB hS.1 hb) (cellB hS.2 hb)
  replace KS := Lib.hid (KS.out.below hb)
  replace HH := Lib.hid (HH.out.below hb)
  clear hb
  refine wpAnyT_ready [2] (by kernel_rfl) (by simp) ?_
  refine AllReadyT.cons rfl (fun K hK => ?_) AllReadyT.nil
  go_simp
  refine (Need_yes (.agg #[.int .i64 2, .slice sa 5 sc]) 2 9 fiveY _ KS.out.2.2.1 five_ok (by decide)).mono ?_
  rintro e g6 ⟨rfl, hb⟩
  rw [wv_need.1]
  refine hK.out _ _ (fun _ => ⟨cellB hS.1 hb, cellB hS.2 hb⟩) (fun _ => ?_)
  replace inv := HeadM.step inv 2 (by kernel_rfl) (by omega)
  clear hK K
  try simp only [Act.put]
  replace hS := And.intro (cellB hS.1 hb) (cellB hS.2 hb)
  replace KS := Lib.hid (KS.out.below hb)
  replace HH := Lib.hid (HH.out.below hb)
  clear hb
  refine wpAnyT_take inv (by kernel_rfl) (by omega) (i := 3) (v := .tuple #[.int .i64 3, .int .i64 0]) rfl (by kernel_rfl) (by kernel_rfl) (fun _ _ _ h => h) (Or.inl ⟨by kernel_rfl, ?_⟩) (by assumption) ?_
  · rintro W' ⟨q0, q1⟩
    go_simp
  intro inv2
  clear inv
  have inv := inv2
  clear inv2
  simp only [Act.put]
  refine wpAnyT_take inv (by kernel_rfl) (by omega) (i := 4) (v := .int .i64 3) rfl (by kernel_rfl) (by kernel_rfl) (fun _ _ _ h => h) (Or.inl ⟨by kernel_rfl, ?_⟩) (by assumption) ?_
  · rintro W' ⟨q0, q1⟩
    go_simp
  intro inv2
  clear inv
  have inv := inv2
  clear inv2
  simp only [Act.put]
  refine wpAnyT_take inv (by kernel_rfl) (by omega) (i := 5) (v := .int .i64 0) rfl (by kernel_rfl) (by kernel_rfl) (fun _ _ _ h => h) (Or.inl ⟨by kernel_rfl, ?_⟩) (by assumption) ?_
  · rintro W' ⟨q0, q1⟩
    go_simp
  intro inv2
  clear inv
  have inv := inv2
  clear inv2
  simp only [Act.put]
  refine wpAnyT_take inv (by kernel_rfl) (by omega) (i := 6) (v := .int .i64 3) rfl (by kernel_rfl) (by kernel_rfl) (fun _ _ _ h => h) (Or.inl ⟨by kernel_rfl, ?_⟩) (by assumption) ?_
  · rintro W' ⟨q0, q1⟩
    go_simp
  intro inv2
  clear inv
  have inv := inv2
  clear inv2
  simp only [Act.put]
  refine wpAnyT_chain (fuel := 1) rfl (by kernel_rfl) ?_
  simp only [List.drop_succ_cons, List.drop_zero]
  clear inv hS
  have c0 := KS.out.1.cell 0
  have c1 := KS.out.1.cell 1
  have c2 := KS.out.2.1.cell 0
  have c3 := KS.out.2.1.cell 1
  simp at c0 c1 c2 c3
  go_wp2_with fail
  refine (wp_region_T 7 (fun W' => W'.cell? ⟨B1, 0, none⟩ = some (.int .i64 2) ∧ W'.cell? ⟨B1, 1, none⟩ = some (.slice sa 5 sc)) (by kernel_rfl) (by kernel_rfl) ⟨c0, c1⟩ ?_)
  intro inv hS
  clear c0 c1 c2 c3
  have hb : Below g6.heap.size g6 g6.drew := (Below.refl _ _).drew
  generalize g6.drew = d7 at *
  replace KS := Lib.hid (KS.out.below hb)
  replace HH := Lib.hid (HH.out.below hb)
  clear hb
  refine wpAnyT_take inv (by kernel_rfl) (by omega) (i := 0) (v := .agg #[.int .i64 2, .slice sa 5 sc]) rfl (by kernel_rfl) (by kernel_rfl) (fun _ _ _ h => h) (Or.inl ⟨by kernel_rfl, ?_⟩) (by assumption) ?_
  · rintro W' ⟨q0, q1⟩
    go_simp
  intro inv2
  clear inv
  have inv := inv2
  clear inv2
  simp only [Act.put, List.setIfInBounds_toArray]
  refine wpAnyT_ready [1] (by kernel_rfl) (by simp) ?_
  refine AllReadyT.cons rfl (fun K hK => ?_) AllReadyT.nil
  go_simp
  refine (to_any 9 2 _).mono ?_
  rintro e g8 ⟨rfl, hb⟩
  refine hK.out _ _ (fun _ => ⟨cellB hS.1 hb, cellB hS.2 hb⟩) (fun _ => ?_)
  replace inv := HeadM.step inv 1 (by kernel_rfl) (by omega)
  clear hK K
  try simp only [Act.put]
  replace hS := And.intro (cellB hS.1 hb) (cellB hS.2 hb)
  replace KS := Lib.hid (KS.out.below hb)
  replace HH := Lib.hid (HH.out.below hb)
  clear hb
  refine wpAnyT_ready [2] (by kernel_rfl) (by simp) ?_
  refine AllReadyT.cons rfl (fun K hK => ?_) AllReadyT.nil
  go_simp
  refine (Need_no (.agg #[.int .i64 2, .slice sa 5 sc]) 9 2 fiveY _ KS.out.2.2.1 five_ok (by decide)).mono ?_
  rintro e g9 ⟨rfl, hb⟩
  refine hK.out _ _ (fun _ => ⟨cellB hS.1 hb, cellB hS.2 hb⟩) (fun _ => ?_)
  replace inv := HeadM.step inv 2 (by kernel_rfl) (by omega)
  clear hK K
  try simp only [Act.put]
  replace hS := And.intro (cellB hS.1 hb) (cellB hS.2 hb)
  replace KS := Lib.hid (KS.out.below hb)
  replace HH := Lib.hid (HH.out.below hb)
  clear hb
  refine wpAnyT_take inv (by kernel_rfl) (by omega) (i := 3) (v := .tuple #[.int .i64 0, .int .i64 3]) rfl (by kernel_rfl) (by kernel_rfl) (fun _ _ _ h => h) (Or.inl ⟨by kernel_rfl, ?_⟩) (by assumption) ?_
  · rintro W' ⟨q0, q1⟩
    go_simp
  intro inv2
  clear inv
  have inv := inv2
  clear inv2
  simp only [Act.put]
  refine wpAnyT_take inv (by kernel_rfl) (by omega) (i := 4) (v := .int .i64 0) rfl (by kernel_rfl) (by kernel_rfl) (fun _ _ _ h => h) (Or.inl ⟨by kernel_rfl, ?_⟩) (by assumption) ?_
  · rintro W' ⟨q0, q1⟩
    go_simp
  intro inv2
  clear inv
  have inv := inv2
  clear inv2
  simp only [Act.put]
  refine wpAnyT_take inv (by kernel_rfl) (by omega) (i := 5) (v := .int .i64 3) rfl (by kernel_rfl) (by kernel_rfl) (fun _ _ _ h => h) (Or.inl ⟨by kernel_rfl, ?_⟩) (by assumption) ?_
  · rintro W' ⟨q0, q1⟩
    go_simp
  intro inv2
  clear inv
  have inv := inv2
  clear inv2
  simp only [Act.put]
  refine wpAnyT_take inv (by kernel_rfl) (by omega) (i := 6) (v := .int .i64 0) rfl (by kernel_rfl) (by kernel_rfl) (fun _ _ _ h => h) (Or.inl ⟨by kernel_rfl, ?_⟩) (by assumption) ?_
  · rintro W' ⟨q0, q1⟩
    go_simp
  intro inv2
  clear inv
  have inv := inv2
  clear inv2
  simp only [Act.put]
  refine wpAnyT_chain (fuel := 1) rfl (by kernel_rfl) ?_
  simp only [List.drop_succ_cons, List.drop_zero]
  clear inv hS
  have c0 := KS.out.1.cell 0
  have c1 := KS.out.1.cell 1
  have c2 := KS.out.2.1.cell 0
  have c3 := KS.out.2.1.cell 1
  simp at c0 c1 c2 c3
  go_upto_region 11 with (fail)
  rename_i hk
  have HKK := Lib.hid hk
  clear hk
  go_wp2_with fail
  refine (wp_region_T 10 (fun W' => W'.cell? ⟨B1, 0, none⟩ = some (.int .i64 2) ∧ W'.cell? ⟨B1, 1, none⟩ = some (.slice sa 5 sc)) (by kernel_rfl) (by kernel_rfl) ⟨c0, c1⟩ ?_)
  intro inv hS
  clear c0 c1 c2 c3
  have hb : Below g9.heap.size g9 g9.drew := (Below.refl _ _).drew
  generalize g9.drew = d10 at *
  replace KS := Lib.hid (KS.out.below hb)
  replace HH := Lib.hid (HH.out.below hb)
  clear hb
  refine wpAnyT_take inv (by kernel_rfl) (by omega) (i := 0) (v := .agg #[.int .i64 2, .slice sa 5 sc]) rfl (by kernel_rfl) (by kernel_rfl) (fun _ _ _ h => h) (Or.inl ⟨by kernel_rfl, ?_⟩) (by assumption) ?_
  · rintro W' ⟨q0, q1⟩
    go_simp
  intro inv2
  clear inv
  have inv := inv2
  clear inv2
  simp only [Act.put, List.setIfInBounds_toArray]
  refine wpAnyT_ready [1] (by kernel_rfl) (by simp) ?_
  refine AllReadyT.cons rfl (fun K hK => ?_) AllReadyT.nil
  go_simp
  refine (to_any 2 5 _).mono ?_
  rintro e g11 ⟨rfl, hb⟩
  refine hK.out _ _ (fun _ => ⟨cellB hS.1 hb, cellB hS.2 hb⟩) (fun _ => ?_)
  replace inv := HeadM.step inv 1 (by kernel_rfl) (by omega)
  clear hK K
  try simp only [Act.put]
  replace hS := And.intro (cellB hS.1 hb) (cellB hS.2 hb)
  replace KS := Lib.hid (KS.out.below hb)
  replace HH := Lib.hid (HH.out.below hb)
  clear hb
  refine wpAnyT_ready [2] (by kernel_rfl) (by simp) ?_
  refine AllReadyT.cons rfl (fun K hK => ?_) AllReadyT.nil
  go_simp
  refine (to_any 6 9 _).mono ?_
  rintro e g12 ⟨rfl, hb⟩
  refine hK.out _ _ (fun _ => ⟨cellB hS.1 hb, cellB hS.2 hb⟩) (fun _ => ?_)
  replace inv := HeadM.step inv 2 (by kernel_rfl) (by omega)
  clear hK K
  try simp only [Act.put]
  replace hS := And.intro (cellB hS.1 hb) (cellB hS.2 hb)
  replace KS := Lib.hid (KS.out.below hb)
  replace HH := Lib.hid (HH.out.below hb)
  clear hb
  refine wpAnyT_ready [3] (by kernel_rfl) (by simp) ?_
  refine AllReadyT.cons rfl (fun K hK => ?_) AllReadyT.nil
  go_simp
  have hb := below1 g12 (.cells #[.int .i64 2, .int .i64 5, .int .i64 6, .int .i64 9] 27)
  have bl := Blk.new g12 (.cells #[.int .i64 2, .int .i64 5, .int .i64 6, .int .i64 9] 27)
  have HA := Lib.hid (show PairsAt (g12.alloc (.cells #[.int .i64 2, .int .i64 5, .int .i64 6, .int .i64 9] 27)) (.slice (some ⟨g12.heap.size, 0, none⟩) 2 2) [(2, 5), (6, 9)] from PairsAt.of_blk (cap := 2) (l := [(2, 5), (6, 9)]) bl)
  clear bl
  refine hK.out _ _ (fun _ => ⟨cellB hS.1 hb, cellB hS.2 hb⟩) (fun _ => ?_)
  replace inv := HeadM.step inv 3 (by kernel_rfl) (by omega)
  clear hK K
  try simp only [Act.put]
  replace hS := And.intro (cellB hS.1 hb) (cellB hS.2 hb)
  replace KS := Lib.hid (KS.out.below hb)
  replace HH := Lib.hid (HH.out.below hb)
  clear hb
  generalize g12.alloc (.cells #[.int .i64 2, .int .i64 5, .int .i64 6, .int .i64 9] 27) = f13 at *
  generalize g12.heap.size = bb13 at *
  refine wpAnyT_ready [4] (by kernel_rfl) (by simp) ?_
  refine AllReadyT.cons rfl (fun K hK => ?_) AllReadyT.nil
  go_simp
  refine (ranges_any _ _).mono ?_
  rintro e g14 ⟨rfl, rfl⟩
  refine hK.out _ _ (fun _ => hS) (fun _ => ?_)
  replace inv := HeadM.step inv 4 (by kernel_rfl) (by omega)
  clear hK K
  try simp only [Act.put]
  refine wpAnyT_ready [5] (by kernel_rfl) (by simp) ?_
  refine AllReadyT.cons rfl (fun K hK => ?_) AllReadyT.nil
  go_simp
  refine (CheckProof_ok (.agg #[.int .i64 2, .slice sa 5 sc]) _ fiveY [(2, 5), (6, 9)] _ KS.out.2.2.1 five_ok HA.out (by decide)).mono ?_
  rintro e g15 ⟨rfl, hb⟩
  rw [wv_p1.1, wv_p1.2]
  refine hK.out _ _ (fun _ => ⟨cellB hS.1 hb, cellB hS.2 hb⟩) (fun _ => ?_)
  replace inv := HeadM.step inv 5 (by kernel_rfl) (by omega)
  clear hK K
  try simp only [Act.put]
  replace hS := And.intro (cellB hS.1 hb) (cellB hS.2 hb)
  replace KS := Lib.hid (KS.out.below hb)
  replace HH := Lib.hid (HH.out.below hb)
  replace HA := Lib.hid (HA.out.below hb)
  clear hb
  refine wpAnyT_take inv (by kernel_rfl) (by omega) (i := 6) (v := .tuple #[.int .i64 2, .int .i64 0]) rfl (by kernel_rfl) (by kernel_rfl) (fun _ _ _ h => h) (Or.inl ⟨by kernel_rfl, ?_⟩) (by assumption) ?_
  · rintro W' ⟨q0, q1⟩
    go_simp
  intro inv2
  clear inv
  have inv := inv2
  clear inv2
  simp only [Act.put]
  refine wpAnyT_take inv (by kernel_rfl) (by omega) (i := 7) (v := .int .i64 2) rfl (by kernel_rfl) (by kernel_rfl) (fun _ _ _ h => h) (Or.inl ⟨by kernel_rfl, ?_⟩) (by assumption) ?_
  · rintro W' ⟨q0, q1⟩
    go_simp
  intro inv2
  clear inv
  have inv := inv2
  clear inv2
  simp only [Act.put]
  refine wpAnyT_take inv (by kernel_rfl) (by omega) (i := 8) (v := .int .i64 0) rfl (by kernel_rfl) (by kernel_rfl) (fun _ _ _ h => h) (Or.inl ⟨by kernel_rfl, ?_⟩) (by assumption) ?_
  · rintro W' ⟨q0, q1⟩
    go_simp
  intro inv2
  clear inv
  have inv := inv2
  clear inv2
  simp only [Act.put]
  refine wpAnyT_take inv (by kernel_rfl) (by omega) (i := 9) (v := .int .i64 2) rfl (by kernel_rfl) (by kernel_rfl) (fun _ _ _ h => h) (Or.inl ⟨by kernel_rfl, ?_⟩) (by assumption) ?_
  · rintro W' ⟨q0, q1⟩
    go_simp
  intro inv2
  clear inv
  have inv := inv2
  clear inv2
  simp only [Act.put]
  refine wpAnyT_chain (fuel := 1) rfl (by kernel_rfl) ?_
  simp only [List.drop_succ_cons, List.drop_zero]
  clear inv hS
  clear HA
  go_wp2_with fail
  exact HKK.out _ _ (works_c w _ _ _ _ _ _ _ KS.out _ _ _ HH.out HX.out _ _ _ _ _ _ _ _ _ _ _ _ _ _ _ _ _ _ _ _ _ _ _ _ _ _ _ _ _ _ _ _ _ _ _ _ _ _ _ _ _ _ _ _ _ _ _ _ _ _ _ _ _ _ _ _ _ _ _ _ _ _ _ _ _ _ _ _ _ _ _ _ _ _ _ _ _ _ _ _ _ _ _ _ _ _ _ _ _ _ _ _ _ _ _ _ _ _ _ _ _ _ _ _ _ _ _ _ _ _ _ _ _ _ _ _ _ _ _ _ _ _ _ _ _ _ _ _ _ _ _ _ _ _ _ _ _ _ _ _ _ _ _ _ _ _ _ _ _ _ _ _ _ _ _ _ _ _ _ _ _ _ _ _ _ _ _ _ _ _ _ _ _ _ _ _ _ _ _ _ _ _ _ _ _ _ _ _ _ _ _ _ _ _ _ _ _ _ _ _ _ _ _ _ _ _ _ _ _ _ _ _ _ _ _ _ _ _ _ _ _ _ _ _ _ _ _ _ _ _ _ _ _ _ _ _ _ _ _ _ _ _ _ _)
end Go.Proofs.Ytjbeoakikdkdaaa

namespace Go.Proofs.Ytjbeoakikdkdaaa
open Go.RowKit Go.Vat Go.Sort Go.Shelf
attribute [local go_sem] Oper.semAt_some

set_option maxRecDepth 1000000 in
set_option maxHeartbeats 40000000 in
theorem Works_any (w : World) : Calls Try.prog 18 #[] w fun e w' => e = .returned (.bool true) ∧ Below w.heap.size w w' := by
  go_enter Try.func18, Try.ntmps18
  go_wp2_with fail
  refine (five_any _).mono ?_
  rintro e z1 ⟨v1, rfl, hv1, hb1⟩
  have HV1 := Lib.hid hv1
  have HB1 := Lib.hid hb1
  clear hv1 hb1
  go_wp2_with fail
  refine (none_any _).mono ?_
  rintro e z2 ⟨v2, rfl, hv2, hb2⟩
  have hv1 := HV1.out.below hb2
  obtain ⟨sv, rfl, hi⟩ := hv1
  obtain ⟨sa, sc, rfl⟩ := hi.slice
  obtain ⟨nv, rfl, hj⟩ := hv2
  obtain ⟨na, nc, rfl⟩ := hj.slice
  have H1 := Lib.hid (show YardAt z2 (.agg #[.int .i64 2, .slice sa 5 sc]) fiveY from ⟨_, rfl, hi⟩)
  have H2 := Lib.hid (show YardAt z2 (.agg #[.int .i64 1, .slice na 0 nc]) noneY from ⟨_, rfl, hj⟩)
  simp only [show fiveY.load = 2 from rfl, show fiveY.logs.length = 5 from rfl, show noneY.load = 1 from rfl, show noneY.logs.length = 0 from rfl]
  have HB2 := Lib.hid (bC HB1.out hb2)
  clear hi hj hb2 HV1 HB1
  have hb3 := below2 z2 (.cells #[.int .i64 2, .slice sa 5 sc] 24) (.cells #[.int .i64 1, .slice na 0 nc] 24)
  have bb1 := (Blk.new z2 (.cells #[.int .i64 2, .slice sa 5 sc] 24)).alloc (.cells #[.int .i64 1, .slice na 0 nc] 24)
  have bb2 := Blk.new (z2.alloc (.cells #[.int .i64 2, .slice sa 5 sc] 24)) (.cells #[.int .i64 1, .slice na 0 nc] 24)
  rw [World.size_alloc] at bb2
  have KS : Hid (WkS w z2.heap.size (z2.heap.size + 1) sa sc na nc ((z2.alloc (.cells #[.int .i64 2, .slice sa 5 sc] 24)).alloc (.cells #[.int .i64 1, .slice na 0 nc] 24))) := Lib.hid ⟨bb1, bb2, H1.out.below hb3, H2.out.below hb3, bC HB2.out hb3⟩
  clear hb3 bb1 bb2 H1 H2 HB2
  go_wp2_with fail
  generalize hg : (z2.alloc (.cells #[.int .i64 2, .slice sa 5 sc] 24)).alloc (.cells #[.int .i64 1, .slice na 0 nc] 24) = W0 at *
  clear hg
  obtain ⟨B2, hB2⟩ : ∃ B2, z2.heap.size + 1 = B2 := ⟨_, rfl⟩
  rw [hB2] at KS ⊢
  clear hB2
  obtain ⟨B1, hB1⟩ : ∃ B1, z2.heap.size = B1 := ⟨_, rfl⟩
  rw [hB1] at KS ⊢
  clear hB1
  have c0 := KS.out.1.cell 0
  have c1 := KS.out.1.cell 1
  have c2 := KS.out.2.1.cell 0
  have c3 := KS.out.2.1.cell 1
  simp at c0 c1 c2 c3
  go_wp2_with fail
  refine (wp_region_T 8 (fun W' => W'.cell? ⟨B1, 0, none⟩ = some (.int .i64 2) ∧ W'.cell? ⟨B1, 1, none⟩ = some (.slice sa 5 sc)) (by kernel_rfl) (by kernel_rfl) ⟨c0, c1⟩ ?_)
  intro inv hS
  clear c0 c1 c2 c3
  have hb : Below W0.heap.size W0 W0.drew := (Below.refl _ _).drew
  generalize W0.drew = d1 at *
  replace KS := Lib.hid (KS.out.below hb)
  clear hb
  refine wpAnyT_take inv (by kernel_rfl) (by omega) (i := 0) (v := .agg #[.int .i64 2, .slice sa 5 sc]) rfl (by kernel_rfl) (by kernel_rfl) (fun _ _ _ h => h) (Or.inl ⟨by kernel_rfl, ?_⟩) (by assumption) ?_
  · rintro W' ⟨q0, q1⟩
    go_simp
  intro inv2
  clear inv
  have inv := inv2
  clear inv2
  simp only [Act.put, List.setIfInBounds_toArray]
  refine wpAnyT_ready [1] (by kernel_rfl) (by simp) ?_
  refine AllReadyT.cons rfl (fun K hK => ?_) AllReadyT.nil
  go_simp
  have hb := below1 d1 (.cells #[.int .i64 2, .int .i64 4, .int .i64 4, .int .i64 7, .int .i64 7] 2)
  have bl := Blk.new d1 (.cells #[.int .i64 2, .int .i64 4, .int .i64 4, .int .i64 7, .int .i64 7] 2)
  have HA := Lib.hid (show IntsAt (d1.alloc (.cells #[.int .i64 2, .int .i64 4, .int .i64 4, .int .i64 7, .int .i64 7] 2)) (.slice (some ⟨d1.heap.size, 0, none⟩) 5 5) [2, 4, 4, 7, 7] from IntsAt.of_blk (cap := 5) (l := [2, 4, 4, 7, 7]) bl)
  clear bl
  refine hK.out _ _ (fun _ => ⟨cellB hS.1 hb, cellB hS.2 hb⟩) (fun _ => ?_)
  replace inv := HeadM.step inv 1 (by kernel_rfl) (by omega)
  clear hK K
  try simp only [Act.put]
  replace hS := And.intro (cellB hS.1 hb) (cellB hS.2 hb)
  replace KS := Lib.hid (KS.out.below hb)
  clear hb
  generalize d1.alloc (.cells #[.int .i64 2, .int .i64 4, .int .i64 4, .int .i64 7, .int .i64 7] 2) = f2 at *
  generalize d1.heap.size = bb2 at *
  refine wpAnyT_ready [2] (by kernel_rfl) (by simp) ?_
  refine AllReadyT.cons rfl (fun K hK => ?_) AllReadyT.nil
  go_simp
  refine (longs_any _ _).mono ?_
  rintro e g3 ⟨rfl, rfl⟩
  refine hK.out _ _ (fun _ => hS) (fun _ => ?_)
  replace inv := HeadM.step inv 2 (by kernel_rfl) (by omega)
  clear hK K
  try simp only [Act.put]
  refine wpAnyT_ready [3] (by kernel_rfl) (by simp) ?_
  refine AllReadyT.cons rfl (fun K hK => ?_) AllReadyT.nil
  go_simp
  refine (CheckHours_ok (.agg #[.int .i64 2, .slice sa 5 sc]) _ fiveY [2, 4, 4, 7, 7] _ KS.out.2.2.1 five_ok HA.out).mono ?_
  rintro e g4 ⟨rfl, hb⟩
  rw [wv_h1.1, wv_h1.2]
  refine hK.out _ _ (fun _ => ⟨cellB hS.1 hb, cellB hS.2 hb⟩) (fun _ => ?_)
  replace inv := HeadM.step inv 3 (by kernel_rfl) (by omega)
  clear hK K
  try simp only [Act.put]
  replace hS := And.intro (cellB hS.1 hb) (cellB hS.2 hb)
  replace KS := Lib.hid (KS.out.below hb)
  replace HA := Lib.hid (HA.out.below hb)
  clear hb
  refine wpAnyT_take inv (by kernel_rfl) (by omega) (i := 4) (v := .tuple #[.int .i64 3, .int .i64 0]) rfl (by kernel_rfl) (by kernel_rfl) (fun _ _ _ h => h) (Or.inl ⟨by kernel_rfl, ?_⟩) (by assumption) ?_
  · rintro W' ⟨q0, q1⟩
    go_simp
  intro inv2
  clear inv
  have inv := inv2
  clear inv2
  simp only [Act.put]
  refine wpAnyT_take inv (by kernel_rfl) (by omega) (i := 5) (v := .int .i64 3) rfl (by kernel_rfl) (by kernel_rfl) (fun _ _ _ h => h) (Or.inl ⟨by kernel_rfl, ?_⟩) (by assumption) ?_
  · rintro W' ⟨q0, q1⟩
    go_simp
  intro inv2
  clear inv
  have inv := inv2
  clear inv2
  simp only [Act.put]
  refine wpAnyT_take inv (by kernel_rfl) (by omega) (i := 6) (v := .int .i64 0) rfl (by kernel_rfl) (by kernel_rfl) (fun _ _ _ h => h) (Or.inl ⟨by kernel_rfl, ?_⟩) (by assumption) ?_
  · rintro W' ⟨q0, q1⟩
    go_simp
  intro inv2
  clear inv
  have inv := inv2
  clear inv2
  simp only [Act.put]
  refine wpAnyT_take inv (by kernel_rfl) (by omega) (i := 7) (v := .int .i64 3) rfl (by kernel_rfl) (by kernel_rfl) (fun _ _ _ h => h) (Or.inl ⟨by kernel_rfl, ?_⟩) (by assumption) ?_
  · rintro W' ⟨q0, q1⟩
    go_simp
  intro inv2
  clear inv
  have inv := inv2
  clear inv2
  simp only [Act.put]
  refine wpAnyT_chain (fuel := 1) rfl (by kernel_rfl) ?_
  simp only [List.drop_succ_cons, List.drop_zero]
  clear inv hS
  clear HA
  have c0 := KS.out.1.cell 0
  have c1 := KS.out.1.cell 1
  have c2 := KS.out.2.1.cell 0
  have c3 := KS.out.2.1.cell 1
  simp at c0 c1 c2 c3
  go_wp2_with fail
  refine (wp_region_T 8 (fun W' => W'.cell? ⟨B1, 0, none⟩ = some (.int .i64 2) ∧ W'.cell? ⟨B1, 1, none⟩ = some (.slice sa 5 sc)) (by kernel_rfl) (by kernel_rfl) ⟨c0, c1⟩ ?_)
  intro inv hS
  clear c0 c1 c2 c3
  have hb : Below g4.heap.size g4 g4.drew := (Below.refl _ _).drew
  generalize g4.drew = d5 at *
  replace KS := Lib.hid (KS.out.below hb)
  clear hb
  refine wpAnyT_take inv (by kernel_rfl) (by omega) (i := 0) (v := .agg #[.int .i64 2, .slice sa 5 sc]) rfl (by kernel_rfl) (by kernel_rfl) (fun _ _ _ h => h) (Or.inl ⟨by kernel_rfl, ?_⟩) (by assumption) ?_
  · rintro W' ⟨q0, q1⟩
    go_simp
  intro inv2
  clear inv
  have inv := inv2
  clear inv2
  simp only [Act.put, List.setIfInBounds_toArray]
  refine wpAnyT_ready [1] (by kernel_rfl) (by simp) ?_
  refine AllReadyT.cons rfl (fun K hK => ?_) AllReadyT.nil
  go_simp
  have hb := below1 d5 (.cells #[.int .i64 2, .int .i64 4, .int .i64 4, .int .i64 6, .int .i64 7] 2)
  have bl := Blk.new d5 (.cells #[.int .i64 2, .int .i64 4, .int .i64 4, .int .i64 6, .int .i64 7] 2)
  have HA := Lib.hid (show IntsAt (d5.alloc (.cells #[.int .i64 2, .int .i64 4, .int .i64 4, .int .i64 6, .int .i64 7] 2)) (.slice (some ⟨d5.heap.size, 0, none⟩) 5 5) [2, 4, 4, 6, 7] from IntsAt.of_blk (cap := 5) (l := [2, 4, 4, 6, 7]) bl)
  clear bl
  refine hK.out _ _ (fun _ => ⟨cellB hS.1 hb, cellB hS.2 hb⟩) (fun _ => ?_)
  replace inv := HeadM.step inv 1 (by kernel_rfl) (by omega)
  clear hK K
  try simp only [Act.put]
  replace hS := And.intro (cellB hS.1 hb) (cellB hS.2 hb)
  replace KS := Lib.hid (KS.out.below hb)
  clear hb
  generalize d5.alloc (.cells #[.int .i64 2, .int .i64 4, .int .i64 4, .int .i64 6, .int .i64 7] 2) = f6 at *
  generalize d5.heap.size = bb6 at *
  refine wpAnyT_ready [2] (by kernel_rfl) (by simp) ?_
  refine AllReadyT.cons rfl (fun K hK => ?_) AllReadyT.nil
  go_simp
  refine (longs_any _ _).mono ?_
  rintro e g7 ⟨rfl, rfl⟩
  refine hK.out _ _ (fun _ => hS) (fun _ => ?_)
  replace inv := HeadM.step inv 2 (by kernel_rfl) (by omega)
  clear hK K
  try simp only [Act.put]
  refine wpAnyT_ready [3] (by kernel_rfl) (by simp) ?_
  refine AllReadyT.cons rfl (fun K hK => ?_) AllReadyT.nil
  go_simp
  refine (CheckHours_ok (.agg #[.int .i64 2, .slice sa 5 sc]) _ fiveY [2, 4, 4, 6, 7] _ KS.out.2.2.1 five_ok HA.out).mono ?_
  rintro e g8 ⟨rfl, hb⟩
  rw [wv_h2.1, wv_h2.2]
  refine hK.out _ _ (fun _ => ⟨cellB hS.1 hb, cellB hS.2 hb⟩) (fun _ => ?_)
  replace inv := HeadM.step inv 3 (by kernel_rfl) (by omega)
  clear hK K
  try simp only [Act.put]
  replace hS := And.intro (cellB hS.1 hb) (cellB hS.2 hb)
  replace KS := Lib.hid (KS.out.below hb)
  replace HA := Lib.hid (HA.out.below hb)
  clear hb
  refine wpAnyT_take inv (by kernel_rfl) (by omega) (i := 4) (v := .tuple #[.int .i64 4, .int .i64 0]) rfl (by kernel_rfl) (by kernel_rfl) (fun _ _ _ h => h) (Or.inl ⟨by kernel_rfl, ?_⟩) (by assumption) ?_
  · rintro W' ⟨q0, q1⟩
    go_simp
  intro inv2
  clear inv
  have inv := inv2
  clear inv2
  simp only [Act.put]
  refine wpAnyT_take inv (by kernel_rfl) (by omega) (i := 5) (v := .int .i64 4) rfl (by kernel_rfl) (by kernel_rfl) (fun _ _ _ h => h) (Or.inl ⟨by kernel_rfl, ?_⟩) (by assumption) ?_
  · rintro W' ⟨q0, q1⟩
    go_simp
  intro inv2
  clear inv
  have inv := inv2
  clear inv2
  simp only [Act.put]
  refine wpAnyT_take inv (by kernel_rfl) (by omega) (i := 6) (v := .int .i64 0) rfl (by kernel_rfl) (by kernel_rfl) (fun _ _ _ h => h) (Or.inl ⟨by kernel_rfl, ?_⟩) (by assumption) ?_
  · rintro W' ⟨q0, q1⟩
    go_simp
  intro inv2
  clear inv
  have inv := inv2
  clear inv2
  simp only [Act.put]
  refine wpAnyT_take inv (by kernel_rfl) (by omega) (i := 7) (v := .int .i64 4) rfl (by kernel_rfl) (by kernel_rfl) (fun _ _ _ h => h) (Or.inl ⟨by kernel_rfl, ?_⟩) (by assumption) ?_
  · rintro W' ⟨q0, q1⟩
    go_simp
  intro inv2
  clear inv
  have inv := inv2
  clear inv2
  simp only [Act.put]
  refine wpAnyT_chain (fuel := 1) rfl (by kernel_rfl) ?_
  simp only [List.drop_succ_cons, List.drop_zero]
  clear inv hS
  clear HA
  have c0 := KS.out.1.cell 0
  have c1 := KS.out.1.cell 1
  have c2 := KS.out.2.1.cell 0
  have c3 := KS.out.2.1.cell 1
  simp at c0 c1 c2 c3
  go_wp2_with fail
  refine (wp_region_T 8 (fun W' => W'.cell? ⟨B1, 0, none⟩ = some (.int .i64 2) ∧ W'.cell? ⟨B1, 1, none⟩ = some (.slice sa 5 sc)) (by kernel_rfl) (by kernel_rfl) ⟨c0, c1⟩ ?_)
  intro inv hS
  clear c0 c1 c2 c3
  have hb : Below g8.heap.size g8 g8.drew := (Below.refl _ _).drew
  generalize g8.drew = d9 at *
  replace KS := Lib.hid (KS.out.below hb)
  clear hb
  refine wpAnyT_take inv (by kernel_rfl) (by omega) (i := 0) (v := .agg #[.int .i64 2, .slice sa 5 sc]) rfl (by kernel_rfl) (by kernel_rfl) (fun _ _ _ h => h) (Or.inl ⟨by kernel_rfl, ?_⟩) (by assumption) ?_
  · rintro W' ⟨q0, q1⟩
    go_simp
  intro inv2
  clear inv
  have inv := inv2
  clear inv2
  simp only [Act.put, List.setIfInBounds_toArray]
  refine wpAnyT_ready [1] (by kernel_rfl) (by simp) ?_
  refine AllReadyT.cons rfl (fun K hK => ?_) AllReadyT.nil
  go_simp
  have hb := below1 d9 (.cells #[.int .i64 2, .int .i64 4, .int .i64 4, .int .i64 7] 2)
  have bl := Blk.new d9 (.cells #[.int .i64 2, .int .i64 4, .int .i64 4, .int .i64 7] 2)
  have HA := Lib.hid (show IntsAt (d9.alloc (.cells #[.int .i64 2, .int .i64 4, .int .i64 4, .int .i64 7] 2)) (.slice (some ⟨d9.heap.size, 0, none⟩) 4 4) [2, 4, 4, 7] from IntsAt.of_blk (cap := 4) (l := [2, 4, 4, 7]) bl)
  clear bl
  refine hK.out _ _ (fun _ => ⟨cellB hS.1 hb, cellB hS.2 hb⟩) (fun _ => ?_)
  replace inv := HeadM.step inv 1 (by kernel_rfl) (by omega)
  clear hK K
  try simp only [Act.put]
  replace hS := And.intro (cellB hS.1 hb) (cellB hS.2 hb)
  replace KS := Lib.hid (KS.out.below hb)
  clear hb
  generalize d9.alloc (.cells #[.int .i64 2, .int .i64 4, .int .i64 4, .int .i64 7] 2) = f10 at *
  generalize d9.heap.size = bb10 at *
  refine wpAnyT_ready [2] (by kernel_rfl) (by simp) ?_
  refine AllReadyT.cons rfl (fun K hK => ?_) AllReadyT.nil
  go_simp
  refine (longs_any _ _).mono ?_
  rintro e g11 ⟨rfl, rfl⟩
  refine hK.out _ _ (fun _ => hS) (fun _ => ?_)
  replace inv := HeadM.step inv 2 (by kernel_rfl) (by omega)
  clear hK K
  try simp only [Act.put]
  refine wpAnyT_ready [3] (by kernel_rfl) (by simp) ?_
  refine AllReadyT.cons rfl (fun K hK => ?_) AllReadyT.nil
  go_simp
  refine (CheckHours_ok (.agg #[.int .i64 2, .slice sa 5 sc]) _ fiveY [2, 4, 4, 7] _ KS.out.2.2.1 five_ok HA.out).mono ?_
  rintro e g12 ⟨rfl, hb⟩
  rw [wv_h3.1, wv_h3.2]
  refine hK.out _ _ (fun _ => ⟨cellB hS.1 hb, cellB hS.2 hb⟩) (fun _ => ?_)
  replace inv := HeadM.step inv 3 (by kernel_rfl) (by omega)
  clear hK K
  try simp only [Act.put]
  replace hS := And.intro (cellB hS.1 hb) (cellB hS.2 hb)
  replace KS := Lib.hid (KS.out.below hb)
  replace HA := Lib.hid (HA.out.below hb)
  clear hb
  refine wpAnyT_take inv (by kernel_rfl) (by omega) (i := 4) (v := .tuple #[.int .i64 0, .int .i64 15]) rfl (by kernel_rfl) (by kernel_rfl) (fun _ _ _ h => h) (Or.inl ⟨by kernel_rfl, ?_⟩) (by assumption) ?_
  · rintro W' ⟨q0, q1⟩
    go_simp
  intro inv2
  clear inv
  have inv := inv2
  clear inv2
  simp only [Act.put]
  refine wpAnyT_take inv (by kernel_rfl) (by omega) (i := 5) (v := .int .i64 0) rfl (by kernel_rfl) (by kernel_rfl) (fun _ _ _ h => h) (Or.inl ⟨by kernel_rfl, ?_⟩) (by assumption) ?_
  · rintro W' ⟨q0, q1⟩
    go_simp
  intro inv2
  clear inv
  have inv := inv2
  clear inv2
  simp only [Act.put]
  refine wpAnyT_take inv (by kernel_rfl) (by omega) (i := 6) (v := .int .i64 15) rfl (by kernel_rfl) (by kernel_rfl) (fun _ _ _ h => h) (Or.inl ⟨by kernel_rfl, ?_⟩) (by assumption) ?_
  · rintro W' ⟨q0, q1⟩
    go_simp
  intro inv2
  clear inv
  have inv := inv2
  clear inv2
  simp only [Act.put]
  refine wpAnyT_take inv (by kernel_rfl) (by omega) (i := 7) (v := .int .i64 0) rfl (by kernel_rfl) (by kernel_rfl) (fun _ _ _ h => h) (Or.inl ⟨by kernel_rfl, ?_⟩) (by assumption) ?_
  · rintro W' ⟨q0, q1⟩
    go_simp
  intro inv2
  clear inv
  have inv := inv2
  clear inv2
  simp only [Act.put]
  refine wpAnyT_chain (fuel := 1) rfl (by kernel_rfl) ?_
  simp only [List.drop_succ_cons, List.drop_zero]
  clear inv hS
  clear HA
  have c0 := KS.out.1.cell 0
  have c1 := KS.out.1.cell 1
  have c2 := KS.out.2.1.cell 0
  have c3 := KS.out.2.1.cell 1
  simp at c0 c1 c2 c3
  go_upto_region 5 with (fail)
  rename_i hk
  have HKK := Lib.hid hk
  clear hk
  go_wp2_with fail
  refine (wp_region_T 8 (fun W' => W'.cell? ⟨B1, 0, none⟩ = some (.int .i64 2) ∧ W'.cell? ⟨B1, 1, none⟩ = some (.slice sa 5 sc)) (by kernel_rfl) (by kernel_rfl) ⟨c0, c1⟩ ?_)
  intro inv hS
  clear c0 c1 c2 c3
  have hb : Below g12.heap.size g12 g12.drew := (Below.refl _ _).drew
  generalize g12.drew = d13 at *
  replace KS := Lib.hid (KS.out.below hb)
  clear hb
  refine wpAnyT_take inv (by kernel_rfl) (by omega) (i := 0) (v := .agg #[.int .i64 2, .slice sa 5 sc]) rfl (by kernel_rfl) (by kernel_rfl) (fun _ _ _ h => h) (Or.inl ⟨by kernel_rfl, ?_⟩) (by assumption) ?_
  · rintro W' ⟨q0, q1⟩
    go_simp
  intro inv2
  clear inv
  have inv := inv2
  clear inv2
  simp only [Act.put, List.setIfInBounds_toArray]
  refine wpAnyT_ready [1] (by kernel_rfl) (by simp) ?_
  refine AllReadyT.cons rfl (fun K hK => ?_) AllReadyT.nil
  go_simp
  have hb := below1 d13 (.cells #[.int .i64 2, .int .i64 4, .int .i64 4, .int .i64 7, .int .i64 8] 2)
  have bl := Blk.new d13 (.cells #[.int .i64 2, .int .i64 4, .int .i64 4, .int .i64 7, .int .i64 8] 2)
  have HA := Lib.hid (show IntsAt (d13.alloc (.cells #[.int .i64 2, .int .i64 4, .int .i64 4, .int .i64 7, .int .i64 8] 2)) (.slice (some ⟨d13.heap.size, 0, none⟩) 5 5) [2, 4, 4, 7, 8] from IntsAt.of_blk (cap := 5) (l := [2, 4, 4, 7, 8]) bl)
  clear bl
  refine hK.out _ _ (fun _ => ⟨cellB hS.1 hb, cellB hS.2 hb⟩) (fun _ => ?_)
  replace inv := HeadM.step inv 1 (by kernel_rfl) (by omega)
  clear hK K
  try simp only [Act.put]
  replace hS := And.intro (cellB hS.1 hb) (cellB hS.2 hb)
  replace KS := Lib.hid (KS.out.below hb)
  clear hb
  generalize d13.alloc (.cells #[.int .i64 2, .int .i64 4, .int .i64 4, .int .i64 7, .int .i64 8] 2) = f14 at *
  generalize d13.heap.size = bb14 at *
  refine wpAnyT_ready [2] (by kernel_rfl) (by simp) ?_
  refine AllReadyT.cons rfl (fun K hK => ?_) AllReadyT.nil
  go_simp
  refine (longs_any _ _).mono ?_
  rintro e g15 ⟨rfl, rfl⟩
  refine hK.out _ _ (fun _ => hS) (fun _ => ?_)
  replace inv := HeadM.step inv 2 (by kernel_rfl) (by omega)
  clear hK K
  try simp only [Act.put]
  refine wpAnyT_ready [3] (by kernel_rfl) (by simp) ?_
  refine AllReadyT.cons rfl (fun K hK => ?_) AllReadyT.nil
  go_simp
  refine (CheckHours_ok (.agg #[.int .i64 2, .slice sa 5 sc]) _ fiveY [2, 4, 4, 7, 8] _ KS.out.2.2.1 five_ok HA.out).mono ?_
  rintro e g16 ⟨rfl, hb⟩
  rw [wv_h4.1, wv_h4.2]
  refine hK.out _ _ (fun _ => ⟨cellB hS.1 hb, cellB hS.2 hb⟩) (fun _ => ?_)
  replace inv := HeadM.step inv 3 (by kernel_rfl) (by omega)
  clear hK K
  try simp only [Act.put]
  replace hS := And.intro (cellB hS.1 hb) (cellB hS.2 hb)
  replace KS := Lib.hid (KS.out.below hb)
  replace HA := Lib.hid (HA.out.below hb)
  clear hb
  refine wpAnyT_take inv (by kernel_rfl) (by omega) (i := 4) (v := .tuple #[.int .i64 0, .int .i64 19]) rfl (by kernel_rfl) (by kernel_rfl) (fun _ _ _ h => h) (Or.inl ⟨by kernel_rfl, ?_⟩) (by assumption) ?_
  · rintro W' ⟨q0, q1⟩
    go_simp
  intro inv2
  clear inv
  have inv := inv2
  clear inv2
  simp only [Act.put]
  refine wpAnyT_take inv (by kernel_rfl) (by omega) (i := 5) (v := .int .i64 0) rfl (by kernel_rfl) (by kernel_rfl) (fun _ _ _ h => h) (Or.inl ⟨by kernel_rfl, ?_⟩) (by assumption) ?_
  · rintro W' ⟨q0, q1⟩
    go_simp
  intro inv2
  clear inv
  have inv := inv2
  clear inv2
  simp only [Act.put]
  refine wpAnyT_take inv (by kernel_rfl) (by omega) (i := 6) (v := .int .i64 19) rfl (by kernel_rfl) (by kernel_rfl) (fun _ _ _ h => h) (Or.inl ⟨by kernel_rfl, ?_⟩) (by assumption) ?_
  · rintro W' ⟨q0, q1⟩
    go_simp
  intro inv2
  clear inv
  have inv := inv2
  clear inv2
  simp only [Act.put]
  refine wpAnyT_take inv (by kernel_rfl) (by omega) (i := 7) (v := .int .i64 0) rfl (by kernel_rfl) (by kernel_rfl) (fun _ _ _ h => h) (Or.inl ⟨by kernel_rfl, ?_⟩) (by assumption) ?_
  · rintro W' ⟨q0, q1⟩
    go_simp
  intro inv2
  clear inv
  have inv := inv2
  clear inv2
  simp only [Act.put]
  refine wpAnyT_chain (fuel := 1) rfl (by kernel_rfl) ?_
  simp only [List.drop_succ_cons, List.drop_zero]
  clear inv hS
  clear HA
  go_wp2_with fail
  exact HKK.out _ _ (works_b w _ _ _ _ _ _ _ KS.out _ _ _ _ _ _ _ _ _ _ _ _ _ _ _ _ _ _ _ _ _ _ _ _ _ _ _ _ _ _ _ _ _ _ _ _ _ _ _ _ _ _ _ _ _ _ _ _ _ _ _ _ _ _ _ _ _ _ _ _ _ _ _ _ _ _ _ _ _ _ _ _ _ _ _ _ _ _ _ _ _ _ _ _ _ _ _ _ _ _ _ _ _ _ _ _ _ _ _ _ _ _ _ _ _ _ _ _ _ _ _ _ _ _ _ _ _ _ _ _ _ _ _ _ _ _ _ _ _ _ _ _ _ _ _ _ _ _ _ _ _ _ _ _ _ _ _ _ _ _ _ _ _ _ _ _ _ _ _ _ _ _ _ _ _ _ _ _ _ _ _ _ _ _ _ _ _ _ _ _ _ _ _ _ _ _ _ _ _ _ _ _ _ _ _ _ _ _ _ _ _ _ _ _ _ _ _ _ _ _ _ _ _ _ _ _ _ _ _ _ _ _ _ _ _ _ _ _ _ _ _ _ _ _ _ _ _ _ _ _ _ _ _ _ _ _ _ _ _ _ _ _ _ _ _ _)
end Go.Proofs.Ytjbeoakikdkdaaa
