import Derived.Test.YtnkeikhkafbokaaRa
namespace Go.Proofs.Ytnkeikhkafbokaa
open Go.RowKit Go.Dag Go.Sort Go.Shelf
attribute [local go_sem] Oper.semAt_some

/-! ## The examples hold -/
def dropSeq : Nat → Code → Code
  | 0, c => c
  | n + 1, .seq _ b => dropSeq n b
  | _ + 1, c => c
/-- What stands while the examples are tried. -/
def WkS (w : World) (B1 : Nat) (sa : Option Addr) (sc : Nat) (ka : Option Addr) (kc : Nat) (W : World) : Prop :=
  Blk W B1 (.cells #[.int .i64 10, .slice sa 2 sc] 24) ∧ RibAt W (.agg #[.int .i64 10, .slice sa 2 sc]) tenR ∧ KindsAt W (.slice ka 3 kc) threeK ∧ Below w.heap.size w W
theorem WkS.below {w : World} {B1 : Nat} {sa : Option Addr} {sc : Nat} {ka : Option Addr} {kc : Nat} {W W' : World} (h : WkS w B1 sa sc ka kc W) (hb : Below W.heap.size W W') : WkS w B1 sa sc ka kc W' :=
  ⟨h.1.below hb, h.2.1.below hb, h.2.2.1.below hb, bC h.2.2.2 hb⟩
noncomputable def works_dC : Code := dropSeq 20 ((Try.f17.body).getD .skip)
set_option maxRecDepth 1000000 in
set_option maxHeartbeats 40000000 in
theorem works_d (w W0 : World) (B1 : Nat) (sa : Option Addr) (sc : Nat) (ka : Option Addr) (kc : Nat) (hK : WkS w B1 sa sc ka kc W0) (ca : Option Addr) (cc : Nat) (hP : PairsAt W0 (.slice ca 4 cc) [(0, 1), (2, 2), (5, 1), (7, 2)]) (pa : Option Addr) (pc : Nat) (hR : IntsAt W0 (.slice pa 10 pc) (pricesL (tabOf tenR threeK)))
    (u39 u40 u41 u42 u43 u44 u45 u46 u47 u48 u49 u50 u51 u52 u53 u54 u55 u56 u57 u58 u59 u60 u61 u62 u63 u64 u65 u66 u67 u68 u69 u70 u71 u72 u73 u74 u75 u76 u77 u78 u79 u80 u81 u82 u83 u84 u85 u86 u87 u88 u89 u90 u91 u92 u93 u94 u95 u96 u97 u98 u99 u100 u101 u102 u103 u104 u105 u106 u107 u108 u109 u110 u111 u112 u113 u114 u115 u116 u117 u118 u119 u120 u121 u122 u123 u124 u125 u126 u127 u128 u129 u130 u131 u132 u133 u134 u135 u136 u137 u138 u139 u140 u141 u142 u143 u144 u145 u146 u147 u148 u149 u150 u151 u152 u153 u154 u155 u156 u157 u158 u159 u160 u161 u162 u163 u164 u165 u166 u167 u168 u169 u170 u171 u172 u173 u174 u175 u176 u177 u178 u179 u180 u181 u182 u183 u184 u185 u186 u187 u188 u189 u190 u191 u192 u193 u194 u195 u196 u197 u198 u199 u200 u201 u202 u203 u204 u205 u206 u207 u208 u209 u210 u211 u212 u213 u214 u215 u216 u217 u218 u219 u220 u221 u222 u223 u224 u225 u226 u227 u228 u229 u230 u231 u232 u233 u234 u235 u236 u237 u238 u239 u240 u241 u242 u243 u244 u245 u246 u247 u248 u249 u250 u251 u252 u253 u254 u255 u256 u257 u258 u259 u260 u261 u262 u263 u264 u265 u266 u267 u268 u269 u270 u271 u272 u273 u274 u275 u276 u277 u278 u279 u280 u281 u282 u283 u284 u285 u286 u287 u288 u289 : Value) :
    Code.wp Try.prog works_dC (bodyPost Try.prog Try.f17 fun e w' => e = .returned (.bool true) ∧ Below w.heap.size w w') ⟨#[.bool false, .pointer (some ⟨B1, 0, none⟩), .slice ka 3 kc, .int .i64 14, .int .i64 0, .int .i64 0, .int .i64 18, .int .i64 0, .int .i64 16, .int .i64 0, .int .i64 3, .int .i64 14, .int .i64 0, .slice ca 4 cc, .int .i64 0, .int .i64 3, .int .i64 0, .int .i64 2, .int .i64 0, .int .i64 1, .int .i64 0, .int .i64 0, .int .i64 0, .int .i64 0, .int .i64 2, .int .i64 14, .int .i64 0, .int .i64 0, .int .i64 14, .int .i64 0, .int .i64 15, .slice pa 10 pc, .int .i64 0, .int .i64 6, .int .i64 0, .int .i64 4, .int .i64 0, .int .i64 0, .int .i64 2, u39, u40, u41, u42, u43, u44, u45, u46, u47, u48, u49, u50, u51, u52, u53, u54, u55, u56, u57, u58, u59, u60, u61, u62, u63, u64, u65, u66, u67, u68, u69, u70, u71, u72, u73, u74, u75, u76, u77, u78, u79, u80, u81, u82, u83, u84, u85, u86, u87, u88, u89, u90, u91, u92, u93, u94, u95, u96, u97, u98, u99, u100, u101, u102, u103, u104, u105, u106, u107, u108, u109, u110, u111, u112, u113, u114, u115, u116, u117, u118, u119, u120, u121, u122, u123, u124, u125, u126, u127, u128, u129, u130, u131, u132, u133, u134, u135, u136, u137, u138, u139, u140, u141, u142, u143, u144, u145, u146, u147, u148, u149, u150, u151, u152, u153, u154, u155, u156, u157, u158, u159, u160, u161, u162, u163, u164, u165, u166, u167, u168, u169, u170, u171, u172, u173, u174, u175, u176, u177, u178, u179, u180, u181, u182, u183, u184, u185, u186, u187, u188, u189, u190, u191, u192, u193, u194, u195, u196, u197, u198, u199, u200, u201, u202, u203, u204, u205, u206, u207, u208, u209, u210, u211, u212, u213, u214, u215, u216, u217, u218, u219, u220, u221, u222, u223, u224, u225, u226, u227, u228, u229, u230, u231, u232, u233, u234, u235, u236, u237, u238, u239, u240, u241, u242, u243, u244, u245, u246, u247, u248, u249, u250, u251, u252, u253, u254, u255, u256, u257, u258, u259, u260, u261, u262, u263, u264, u265, u266, u267, u268, u269, u270, u271, u272, u273, u274, u275, u276, u277, u278, u279, u280, u281, u282, u283, u284, u285, u286, u287, u288, u289], []⟩ W0 := by
  have KS := Lib.hid hK
  clear hK
  have HP := Lib.hid hP
  clear hP
  have HR := Lib.hid hR
  clear hR
  conv => arg 2; whnf
  have c0 := KS.out.1.cell 0
  have c1 := KS.out.1.cell 1
  simp at c0 c1
  go_wp2_with fail
  clear c0 c1
  refine (rCheckPrices_ok (.agg #[.int .i64 10, .slice sa 2 sc]) (.slice ka 3 kc) tenR threeK _ (pricesL (tabOf tenR threeK)) _ KS.out.2.1 KS.out.2.2.1 HR.out (by simp only [pricesL, List.length_map, List.length_range]; decide) ten_ok.1 ten_ok.2).mono ?_
  rintro e y22 ⟨rfl, hb⟩
  replace KS := Lib.hid (KS.out.below hb)
  replace HP := Lib.hid (HP.out.below hb)
  replace HR := Lib.hid (HR.out.below hb)
  clear hb
  rw [wv13.1, wv13.2]
  go_wp2_with fail
  have hb := below1 y22 (.cells #[.int .i64 0, .int .i64 1, .int .i64 2, .int .i64 2, .int .i64 5, .int .i64 1, .int .i64 7, .int .i64 2] 3)
  have bl := Blk.new y22 (.cells #[.int .i64 0, .int .i64 1, .int .i64 2, .int .i64 2, .int .i64 5, .int .i64 1, .int .i64 7, .int .i64 2] 3)
  have HA := Lib.hid (IntsAt.of_blk (cap := 8) (l := [0, 1, 2, 2, 5, 1, 7, 2]) bl)
  replace KS := Lib.hid (KS.out.below hb)
  replace HP := Lib.hid (HP.out.below hb)
  replace HR := Lib.hid (HR.out.below hb)
  clear hb
  generalize hg : y22.alloc (.cells #[.int .i64 0, .int .i64 1, .int .i64 2, .int .i64 2, .int .i64 5, .int .i64 1, .int .i64 7, .int .i64 2] 3) = f22 at *
  clear hg bl
  refine (shts_any _ [0, 1, 2, 2, 5, 1, 7, 2] 4 _ HA.out rfl (by omega)).mono ?_
  rintro e y23 ⟨vs, rfl, hp, hb⟩
  rw [show pairsOf [0, 1, 2, 2, 5, 1, 7, 2] 4 = [(0, 1), (2, 2), (5, 1), (7, 2)] from rfl] at hp
  have HG := Lib.hid hp
  clear hp
  replace KS := Lib.hid (KS.out.below hb)
  replace HP := Lib.hid (HP.out.below hb)
  replace HR := Lib.hid (HR.out.below hb)
  clear hb
  go_wp2_with fail
  refine (Sheets_any _ _ _ _ _ HP.out HG.out (by decide)).mono ?_
  rintro e y24 ⟨rfl, hb⟩
  rw [show decide (([(0, 1), (2, 2), (5, 1), (7, 2)] : List (Int × Int)) = [(0, 1), (2, 2), (5, 1), (7, 2)]) = true from rfl]
  replace KS := Lib.hid (KS.out.below hb)
  replace HP := Lib.hid (HP.out.below hb)
  replace HR := Lib.hid (HR.out.below hb)
  clear hb
  go_wp2
  go_ret
  exact ⟨rfl, KS.out.2.2.2⟩
end Go.Proofs.Ytnkeikhkafbokaa

namespace Go.Proofs.Ytnkeikhkafbokaa
open Go.RowKit Go.Dag Go.Sort Go.Shelf
attribute [local go_sem] Oper.semAt_some

noncomputable def works_cC : Code := dropSeq 13 ((Try.f17.body).getD .skip)
set_option maxRecDepth 1000000 in
set_option maxHeartbeats 40000000 in
theorem works_c (w W0 : World) (B1 : Nat) (sa : Option Addr) (sc : Nat) (ka : Option Addr) (kc : Nat) (hK : WkS w B1 sa sc ka kc W0) (ca : Option Addr) (cc : Nat) (hP : PairsAt W0 (.slice ca 4 cc) [(0, 1), (2, 2), (5, 1), (7, 2)])
    (u25 u26 u27 u28 u29 u30 u31 u32 u33 u34 u35 u36 u37 u38 u39 u40 u41 u42 u43 u44 u45 u46 u47 u48 u49 u50 u51 u52 u53 u54 u55 u56 u57 u58 u59 u60 u61 u62 u63 u64 u65 u66 u67 u68 u69 u70 u71 u72 u73 u74 u75 u76 u77 u78 u79 u80 u81 u82 u83 u84 u85 u86 u87 u88 u89 u90 u91 u92 u93 u94 u95 u96 u97 u98 u99 u100 u101 u102 u103 u104 u105 u106 u107 u108 u109 u110 u111 u112 u113 u114 u115 u116 u117 u118 u119 u120 u121 u122 u123 u124 u125 u126 u127 u128 u129 u130 u131 u132 u133 u134 u135 u136 u137 u138 u139 u140 u141 u142 u143 u144 u145 u146 u147 u148 u149 u150 u151 u152 u153 u154 u155 u156 u157 u158 u159 u160 u161 u162 u163 u164 u165 u166 u167 u168 u169 u170 u171 u172 u173 u174 u175 u176 u177 u178 u179 u180 u181 u182 u183 u184 u185 u186 u187 u188 u189 u190 u191 u192 u193 u194 u195 u196 u197 u198 u199 u200 u201 u202 u203 u204 u205 u206 u207 u208 u209 u210 u211 u212 u213 u214 u215 u216 u217 u218 u219 u220 u221 u222 u223 u224 u225 u226 u227 u228 u229 u230 u231 u232 u233 u234 u235 u236 u237 u238 u239 u240 u241 u242 u243 u244 u245 u246 u247 u248 u249 u250 u251 u252 u253 u254 u255 u256 u257 u258 u259 u260 u261 u262 u263 u264 u265 u266 u267 u268 u269 u270 u271 u272 u273 u274 u275 u276 u277 u278 u279 u280 u281 u282 u283 u284 u285 u286 u287 u288 u289 : Value) :
    Code.wp Try.prog works_cC (bodyPost Try.prog Try.f17 fun e w' => e = .returned (.bool true) ∧ Below w.heap.size w w') ⟨#[.bool false, .pointer (some ⟨B1, 0, none⟩), .slice ka 3 kc, .int .i64 14, .int .i64 0, .int .i64 0, .int .i64 18, .int .i64 0, .int .i64 16, .int .i64 0, .int .i64 3, .int .i64 14, .int .i64 0, .slice ca 4 cc, .int .i64 0, .int .i64 3, .int .i64 0, .int .i64 2, .int .i64 0, .int .i64 1, .int .i64 0, .int .i64 0, .int .i64 0, .int .i64 0, .int .i64 2, u25, u26, u27, u28, u29, u30, u31, u32, u33, u34, u35, u36, u37, u38, u39, u40, u41, u42, u43, u44, u45, u46, u47, u48, u49, u50, u51, u52, u53, u54, u55, u56, u57, u58, u59, u60, u61, u62, u63, u64, u65, u66, u67, u68, u69, u70, u71, u72, u73, u74, u75, u76, u77, u78, u79, u80, u81, u82, u83, u84, u85, u86, u87, u88, u89, u90, u91, u92, u93, u94, u95, u96, u97, u98, u99, u100, u101, u102, u103, u104, u105, u106, u107, u108, u109, u110, u111, u112, u113, u114, u115, u116, u117, u118, u119, u120, u121, u122, u123, u124, u125, u126, u127, u128, u129, u130, u131, u132, u133, u134, u135, u136, u137, u138, u139, u140, u141, u142, u143, u144, u145, u146, u147, u148, u149, u150, u151, u152, u153, u154, u155, u156, u157, u158, u159, u160, u161, u162, u163, u164, u165, u166, u167, u168, u169, u170, u171, u172, u173, u174, u175, u176, u177, u178, u179, u180, u181, u182, u183, u184, u185, u186, u187, u188, u189, u190, u191, u192, u193, u194, u195, u196, u197, u198, u199, u200, u201, u202, u203, u204, u205, u206, u207, u208, u209, u210, u211, u212, u213, u214, u215, u216, u217, u218, u219, u220, u221, u222, u223, u224, u225, u226, u227, u228, u229, u230, u231, u232, u233, u234, u235, u236, u237, u238, u239, u240, u241, u242, u243, u244, u245, u246, u247, u248, u249, u250, u251, u252, u253, u254, u255, u256, u257, u258, u259, u260, u261, u262, u263, u264, u265, u266, u267, u268, u269, u270, u271, u272, u273, u274, u275, u276, u277, u278, u279, u280, u281, u282, u283, u284, u285, u286, u287, u288, u289], []⟩ W0 := by
  have KS := Lib.hid hK
  clear hK
  have HP := Lib.hid hP
  clear hP
  conv => arg 2; whnf
  have c0 := KS.out.1.cell 0
  have c1 := KS.out.1.cell 1
  simp at c0 c1
  go_wp2_with fail
  refine (wp_region_T 9 (fun W' => W'.cell? ⟨B1, 0, none⟩ = some (.int .i64 10) ∧ W'.cell? ⟨B1, 1, none⟩ = some (.slice sa 2 sc)) (by kernel_rfl) (by kernel_rfl) ⟨c0, c1⟩ ?_)
  intro inv hS
  clear c0 c1
  have hb : Below W0.heap.size W0 W0.drew := (Below.refl _ _).drew
  generalize W0.drew = d13 at *
  replace KS := Lib.hid (KS.out.below hb)
  replace HP := Lib.hid (HP.out.below hb)
  clear hb
  refine wpAnyT_take inv (by kernel_rfl) (by omega) (i := 0) (v := .agg #[.int .i64 10, .slice sa 2 sc]) rfl (by kernel_rfl) (by kernel_rfl) (fun _ _ _ h => h) (Or.inl ⟨by kernel_rfl, ?_⟩) (by assumption) ?_
  · rintro W' ⟨q0, q1⟩
    go_simp
  intro inv2
  clear inv
  have inv := inv2
  clear inv2
  simp only [Act.put, List.setIfInBounds_toArray]
  refine wpAnyT_take inv (by kernel_rfl) (by omega) (i := 1) (v := .slice ka 3 kc) rfl (by kernel_rfl) (by kernel_rfl) (fun _ _ _ h => h) (Or.inl ⟨by kernel_rfl, ?_⟩) (by assumption) ?_
  · rintro W' ⟨q0, q1⟩
    go_simp
  intro inv2
  clear inv
  have inv := inv2
  clear inv2
  simp only [Act.put]
  refine wpAnyT_ready [2] (by kernel_rfl) (by simp) ?_
  refine AllReadyT.cons rfl (fun K hK => ?_) AllReadyT.nil
  go_simp
  have hb := below1 d13 (.cells #[.int .i64 0, .int .i64 3, .int .i64 1, .int .i64 0, .int .i64 3, .int .i64 1, .int .i64 2, .int .i64 4, .int .i64 0, .int .i64 0] 2)
  have bl := Blk.new d13 (.cells #[.int .i64 0, .int .i64 3, .int .i64 1, .int .i64 0, .int .i64 3, .int .i64 1, .int .i64 2, .int .i64 4, .int .i64 0, .int .i64 0] 2)
  refine hK.out _ _ (fun _ => ⟨cellB hS.1 hb, cellB hS.2 hb⟩) (fun _ => ?_)
  replace inv := HeadM.step inv 2 (by kernel_rfl) (by omega)
  clear hK K
  try simp only [Act.put]
  replace hS := And.intro (cellB hS.1 hb) (cellB hS.2 hb)
  have HA := Lib.hid (IntsAt.of_blk (cap := 10) (l := [0, 3, 1, 0, 3, 1, 2, 4, 0, 0]) bl)
  replace KS := Lib.hid (KS.out.below hb)
  replace HP := Lib.hid (HP.out.below hb)
  clear hb
  generalize hg : d13.alloc (.cells #[.int .i64 0, .int .i64 3, .int .i64 1, .int .i64 0, .int .i64 3, .int .i64 1, .int .i64 2, .int .i64 4, .int .i64 0, .int .i64 0] 2) = f13 at *
  clear hg bl
  refine wpAnyT_ready [3] (by kernel_rfl) (by simp) ?_
  refine AllReadyT.cons rfl (fun K hK => ?_) AllReadyT.nil
  go_simp
  refine (longs_any _ _).mono ?_
  rintro e g13 ⟨rfl, rfl⟩
  refine hK.out _ _ (fun _ => hS) (fun _ => ?_)
  replace inv := HeadM.step inv 3 (by kernel_rfl) (by omega)
  clear hK K
  try simp only [Act.put]
  refine wpAnyT_ready [4] (by kernel_rfl) (by simp) ?_
  refine AllReadyT.cons rfl (fun K hK => ?_) AllReadyT.nil
  go_simp
  refine (CheckPrices_ok (.agg #[.int .i64 10, .slice sa 2 sc]) (.slice ka 3 kc) tenR threeK _ [0, 3, 1, 0, 3, 1, 2, 4, 0, 0] _ KS.out.2.1 KS.out.2.2.1 HA.out (fun a n c e => by cases e; exact Nat.le_refl _) (by decide) ten_ok.1 ten_ok.2).mono ?_
  rintro e y13 ⟨rfl, hb⟩
  rw [wv9.1, wv9.2]
  refine hK.out _ _ (fun _ => ⟨cellB hS.1 hb, cellB hS.2 hb⟩) (fun _ => ?_)
  replace inv := HeadM.step inv 4 (by kernel_rfl) (by omega)
  clear hK K
  try simp only [Act.put]
  replace hS := And.intro (cellB hS.1 hb) (cellB hS.2 hb)
  replace KS := Lib.hid (KS.out.below hb)
  replace HP := Lib.hid (HP.out.below hb)
  clear hb
  refine wpAnyT_take inv (by kernel_rfl) (by omega) (i := 5) (v := .tuple #[.int .i64 14, .int .i64 0]) rfl (by kernel_rfl) (by kernel_rfl) (fun _ _ _ h => h) (Or.inl ⟨by kernel_rfl, ?_⟩) (by assumption) ?_
  · rintro W' ⟨q0, q1⟩
    go_simp
  intro inv2
  clear inv
  have inv := inv2
  clear inv2
  simp only [Act.put]
  refine wpAnyT_take inv (by kernel_rfl) (by omega) (i := 6) (v := .int .i64 14) rfl (by kernel_rfl) (by kernel_rfl) (fun _ _ _ h => h) (Or.inl ⟨by kernel_rfl, ?_⟩) (by assumption) ?_
  · rintro W' ⟨q0, q1⟩
    go_simp
  intro inv2
  clear inv
  have inv := inv2
  clear inv2
  simp only [Act.put]
  refine wpAnyT_take inv (by kernel_rfl) (by omega) (i := 7) (v := .int .i64 0) rfl (by kernel_rfl) (by kernel_rfl) (fun _ _ _ h => h) (Or.inl ⟨by kernel_rfl, ?_⟩) (by assumption) ?_
  · rintro W' ⟨q0, q1⟩
    go_simp
  intro inv2
  clear inv
  have inv := inv2
  clear inv2
  simp only [Act.put]
  refine wpAnyT_take inv (by kernel_rfl) (by omega) (i := 8) (v := .int .i64 14) rfl (by kernel_rfl) (by kernel_rfl) (fun _ _ _ h => h) (Or.inl ⟨by kernel_rfl, ?_⟩) (by assumption) ?_
  · rintro W' ⟨q0, q1⟩
    go_simp
  intro inv2
  clear inv
  have inv := inv2
  clear inv2
  simp only [Act.put]
  refine wpAnyT_chain (fuel := 1) rfl (by kernel_rfl) ?_
  simp only [List.drop_succ_cons, List.drop_zero]
  clear inv hS HA
  have c0 := KS.out.1.cell 0
  have c1 := KS.out.1.cell 1
  simp at c0 c1
  go_wp2_with fail
  refine (wp_region_T 9 (fun W' => W'.cell? ⟨B1, 0, none⟩ = some (.int .i64 10) ∧ W'.cell? ⟨B1, 1, none⟩ = some (.slice sa 2 sc)) (by kernel_rfl) (by kernel_rfl) ⟨c0, c1⟩ ?_)
  intro inv hS
  clear c0 c1
  have hb : Below y13.heap.size y13 y13.drew := (Below.refl _ _).drew
  generalize y13.drew = d14 at *
  replace KS := Lib.hid (KS.out.below hb)
  replace HP := Lib.hid (HP.out.below hb)
  clear hb
  refine wpAnyT_take inv (by kernel_rfl) (by omega) (i := 0) (v := .agg #[.int .i64 10, .slice sa 2 sc]) rfl (by kernel_rfl) (by kernel_rfl) (fun _ _ _ h => h) (Or.inl ⟨by kernel_rfl, ?_⟩) (by assumption) ?_
  · rintro W' ⟨q0, q1⟩
    go_simp
  intro inv2
  clear inv
  have inv := inv2
  clear inv2
  simp only [Act.put, List.setIfInBounds_toArray]
  refine wpAnyT_take inv (by kernel_rfl) (by omega) (i := 1) (v := .slice ka 3 kc) rfl (by kernel_rfl) (by kernel_rfl) (fun _ _ _ h => h) (Or.inl ⟨by kernel_rfl, ?_⟩) (by assumption) ?_
  · rintro W' ⟨q0, q1⟩
    go_simp
  intro inv2
  clear inv
  have inv := inv2
  clear inv2
  simp only [Act.put]
  refine wpAnyT_ready [2] (by kernel_rfl) (by simp) ?_
  refine AllReadyT.cons rfl (fun K hK => ?_) AllReadyT.nil
  go_simp
  have hb := below1 d14 (.cells #[.int .i64 1, .int .i64 1, .int .i64 1, .int .i64 1, .int .i64 1, .int .i64 1, .int .i64 1, .int .i64 1, .int .i64 1, .int .i64 1] 2)
  have bl := Blk.new d14 (.cells #[.int .i64 1, .int .i64 1, .int .i64 1, .int .i64 1, .int .i64 1, .int .i64 1, .int .i64 1, .int .i64 1, .int .i64 1, .int .i64 1] 2)
  refine hK.out _ _ (fun _ => ⟨cellB hS.1 hb, cellB hS.2 hb⟩) (fun _ => ?_)
  replace inv := HeadM.step inv 2 (by kernel_rfl) (by omega)
  clear hK K
  try simp only [Act.put]
  replace hS := And.intro (cellB hS.1 hb) (cellB hS.2 hb)
  have HA := Lib.hid (IntsAt.of_blk (cap := 10) (l := [1, 1, 1, 1, 1, 1, 1, 1, 1, 1]) bl)
  replace KS := Lib.hid (KS.out.below hb)
  replace HP := Lib.hid (HP.out.below hb)
  clear hb
  generalize hg : d14.alloc (.cells #[.int .i64 1, .int .i64 1, .int .i64 1, .int .i64 1, .int .i64 1, .int .i64 1, .int .i64 1, .int .i64 1, .int .i64 1, .int .i64 1] 2) = f14 at *
  clear hg bl
  refine wpAnyT_ready [3] (by kernel_rfl) (by simp) ?_
  refine AllReadyT.cons rfl (fun K hK => ?_) AllReadyT.nil
  go_simp
  refine (longs_any _ _).mono ?_
  rintro e g14 ⟨rfl, rfl⟩
  refine hK.out _ _ (fun _ => hS) (fun _ => ?_)
  replace inv := HeadM.step inv 3 (by kernel_rfl) (by omega)
  clear hK K
  try simp only [Act.put]
  refine wpAnyT_ready [4] (by kernel_rfl) (by simp) ?_
  refine AllReadyT.cons rfl (fun K hK => ?_) AllReadyT.nil
  go_simp
  refine (CheckPrices_ok (.agg #[.int .i64 10, .slice sa 2 sc]) (.slice ka 3 kc) tenR threeK _ [1, 1, 1, 1, 1, 1, 1, 1, 1, 1] _ KS.out.2.1 KS.out.2.2.1 HA.out (fun a n c e => by cases e; exact Nat.le_refl _) (by decide) ten_ok.1 ten_ok.2).mono ?_
  rintro e y14 ⟨rfl, hb⟩
  rw [wv10.1, wv10.2]
  refine hK.out _ _ (fun _ => ⟨cellB hS.1 hb, cellB hS.2 hb⟩) (fun _ => ?_)
  replace inv := HeadM.step inv 4 (by kernel_rfl) (by omega)
  clear hK K
  try simp only [Act.put]
  replace hS := And.intro (cellB hS.1 hb) (cellB hS.2 hb)
  replace KS := Lib.hid (KS.out.below hb)
  replace HP := Lib.hid (HP.out.below hb)
  clear hb
  refine wpAnyT_take inv (by kernel_rfl) (by omega) (i := 5) (v := .tuple #[.int .i64 0, .int .i64 14]) rfl (by kernel_rfl) (by kernel_rfl) (fun _ _ _ h => h) (Or.inl ⟨by kernel_rfl, ?_⟩) (by assumption) ?_
  · rintro W' ⟨q0, q1⟩
    go_simp
  intro inv2
  clear inv
  have inv := inv2
  clear inv2
  simp only [Act.put]
  refine wpAnyT_take inv (by kernel_rfl) (by omega) (i := 6) (v := .int .i64 0) rfl (by kernel_rfl) (by kernel_rfl) (fun _ _ _ h => h) (Or.inl ⟨by kernel_rfl, ?_⟩) (by assumption) ?_
  · rintro W' ⟨q0, q1⟩
    go_simp
  intro inv2
  clear inv
  have inv := inv2
  clear inv2
  simp only [Act.put]
  refine wpAnyT_take inv (by kernel_rfl) (by omega) (i := 7) (v := .int .i64 14) rfl (by kernel_rfl) (by kernel_rfl) (fun _ _ _ h => h) (Or.inl ⟨by kernel_rfl, ?_⟩) (by assumption) ?_
  · rintro W' ⟨q0, q1⟩
    go_simp
  intro inv2
  clear inv
  have inv := inv2
  clear inv2
  simp only [Act.put]
  refine wpAnyT_take inv (by kernel_rfl) (by omega) (i := 8) (v := .int .i64 0) rfl (by kernel_rfl) (by kernel_rfl) (fun _ _ _ h => h) (Or.inl ⟨by kernel_rfl, ?_⟩) (by assumption) ?_
  · rintro W' ⟨q0, q1⟩
    go_simp
  intro inv2
  clear inv
  have inv := inv2
  clear inv2
  simp only [Act.put]
  refine wpAnyT_chain (fuel := 1) rfl (by kernel_rfl) ?_
  simp only [List.drop_succ_cons, List.drop_zero]
  clear inv hS HA
  have c0 := KS.out.1.cell 0
  have c1 := KS.out.1.cell 1
  simp at c0 c1
  go_wp2_with fail
  refine (wp_region_T 9 (fun W' => W'.cell? ⟨B1, 0, none⟩ = some (.int .i64 10) ∧ W'.cell? ⟨B1, 1, none⟩ = some (.slice sa 2 sc)) (by kernel_rfl) (by kernel_rfl) ⟨c0, c1⟩ ?_)
  intro inv hS
  clear c0 c1
  have hb : Below y14.heap.size y14 y14.drew := (Below.refl _ _).drew
  generalize y14.drew = d15 at *
  replace KS := Lib.hid (KS.out.below hb)
  replace HP := Lib.hid (HP.out.below hb)
  clear hb
  refine wpAnyT_take inv (by kernel_rfl) (by omega) (i := 0) (v := .agg #[.int .i64 10, .slice sa 2 sc]) rfl (by kernel_rfl) (by kernel_rfl) (fun _ _ _ h => h) (Or.inl ⟨by kernel_rfl, ?_⟩) (by assumption) ?_
  · rintro W' ⟨q0, q1⟩
    go_simp
  intro inv2
  clear inv
  have inv := inv2
  clear inv2
  simp only [Act.put, List.setIfInBounds_toArray]
  refine wpAnyT_take inv (by kernel_rfl) (by omega) (i := 1) (v := .slice ka 3 kc) rfl (by kernel_rfl) (by kernel_rfl) (fun _ _ _ h => h) (Or.inl ⟨by kernel_rfl, ?_⟩) (by assumption) ?_
  · rintro W' ⟨q0, q1⟩
    go_simp
  intro inv2
  clear inv
  have inv := inv2
  clear inv2
  simp only [Act.put]
  refine wpAnyT_ready [2] (by kernel_rfl) (by simp) ?_
  refine AllReadyT.cons rfl (fun K hK => ?_) AllReadyT.nil
  go_simp
  have hb := below1 d15 (.cells #[.int .i64 0, .int .i64 0] 2)
  have bl := Blk.new d15 (.cells #[.int .i64 0, .int .i64 0] 2)
  refine hK.out _ _ (fun _ => ⟨cellB hS.1 hb, cellB hS.2 hb⟩) (fun _ => ?_)
  replace inv := HeadM.step inv 2 (by kernel_rfl) (by omega)
  clear hK K
  try simp only [Act.put]
  replace hS := And.intro (cellB hS.1 hb) (cellB hS.2 hb)
  have HA := Lib.hid (IntsAt.of_blk (cap := 2) (l := [0, 0]) bl)
  replace KS := Lib.hid (KS.out.below hb)
  replace HP := Lib.hid (HP.out.below hb)
  clear hb
  generalize hg : d15.alloc (.cells #[.int .i64 0, .int .i64 0] 2) = f15 at *
  clear hg bl
  refine wpAnyT_ready [3] (by kernel_rfl) (by simp) ?_
  refine AllReadyT.cons rfl (fun K hK => ?_) AllReadyT.nil
  go_simp
  refine (longs_any _ _).mono ?_
  rintro e g15 ⟨rfl, rfl⟩
  refine hK.out _ _ (fun _ => hS) (fun _ => ?_)
  replace inv := HeadM.step inv 3 (by kernel_rfl) (by omega)
  clear hK K
  try simp only [Act.put]
  refine wpAnyT_ready [4] (by kernel_rfl) (by simp) ?_
  refine AllReadyT.cons rfl (fun K hK => ?_) AllReadyT.nil
  go_simp
  refine (CheckPrices_ok (.agg #[.int .i64 10, .slice sa 2 sc]) (.slice ka 3 kc) tenR threeK _ [0, 0] _ KS.out.2.1 KS.out.2.2.1 HA.out (fun a n c e => by cases e; exact Nat.le_refl _) (by decide) ten_ok.1 ten_ok.2).mono ?_
  rintro e y15 ⟨rfl, hb⟩
  rw [wv11.1, wv11.2]
  refine hK.out _ _ (fun _ => ⟨cellB hS.1 hb, cellB hS.2 hb⟩) (fun _ => ?_)
  replace inv := HeadM.step inv 4 (by kernel_rfl) (by omega)
  clear hK K
  try simp only [Act.put]
  replace hS := And.intro (cellB hS.1 hb) (cellB hS.2 hb)
  replace KS := Lib.hid (KS.out.below hb)
  replace HP := Lib.hid (HP.out.below hb)
  clear hb
  refine wpAnyT_take inv (by kernel_rfl) (by omega) (i := 5) (v := .tuple #[.int .i64 0, .int .i64 15]) rfl (by kernel_rfl) (by kernel_rfl) (fun _ _ _ h => h) (Or.inl ⟨by kernel_rfl, ?_⟩) (by assumption) ?_
  · rintro W' ⟨q0, q1⟩
    go_simp
  intro inv2
  clear inv
  have inv := inv2
  clear inv2
  simp only [Act.put]
  refine wpAnyT_take inv (by kernel_rfl) (by omega) (i := 6) (v := .int .i64 0) rfl (by kernel_rfl) (by kernel_rfl) (fun _ _ _ h => h) (Or.inl ⟨by kernel_rfl, ?_⟩) (by assumption) ?_
  · rintro W' ⟨q0, q1⟩
    go_simp
  intro inv2
  clear inv
  have inv := inv2
  clear inv2
  simp only [Act.put]
  refine wpAnyT_take inv (by kernel_rfl) (by omega) (i := 7) (v := .int .i64 15) rfl (by kernel_rfl) (by kernel_rfl) (fun _ _ _ h => h) (Or.inl ⟨by kernel_rfl, ?_⟩) (by assumption) ?_
  · rintro W' ⟨q0, q1⟩
    go_simp
  intro inv2
  clear inv
  have inv := inv2
  clear inv2
  simp only [Act.put]
  refine wpAnyT_take inv (by kernel_rfl) (by omega) (i := 8) (v := .int .i64 0) rfl (by kernel_rfl) (by kernel_rfl) (fun _ _ _ h => h) (Or.inl ⟨by kernel_rfl, ?_⟩) (by assumption) ?_
  · rintro W' ⟨q0, q1⟩
    go_simp
  intro inv2
  clear inv
  have inv := inv2
  clear inv2
  simp only [Act.put]
  refine wpAnyT_chain (fuel := 1) rfl (by kernel_rfl) ?_
  simp only [List.drop_succ_cons, List.drop_zero]
  clear inv hS HA
  have c0 := KS.out.1.cell 0
  have c1 := KS.out.1.cell 1
  simp at c0 c1
  go_wp2_with fail
  clear c0 c1
  refine (Prices_ok (.agg #[.int .i64 10, .slice sa 2 sc]) (.slice ka 3 kc) tenR threeK _ KS.out.2.1 KS.out.2.2.1 ten_ok.1 ten_ok.2).mono ?_
  rintro e y16 ⟨vc, rfl, hp, hb⟩
  replace KS := Lib.hid (KS.out.below hb)
  replace HP := Lib.hid (HP.out.below hb)
  clear hb
  obtain ⟨pa, pc, rfl⟩ := hp.slice
  have hpl : (pricesL (tabOf tenR threeK)).length = 10 := by simp only [pricesL, List.length_map, List.length_range]; rfl
  have HR := Lib.hid (show IntsAt y16 (.slice pa 10 pc) (pricesL (tabOf tenR threeK)) from by rw [← hpl]; exact hp)
  rw [hpl]
  clear hp hpl
  have c0 := KS.out.1.cell 0
  have c1 := KS.out.1.cell 1
  simp at c0 c1
  go_wp2_with fail
  clear c0 c1
  refine (Cost_ok (.agg #[.int .i64 10, .slice sa 2 sc]) (.slice ka 3 kc) tenR threeK 0 _ KS.out.2.1 KS.out.2.2.1 ten_ok.1 ten_ok.2).mono ?_
  rintro e y17 ⟨rfl, hb⟩
  replace KS := Lib.hid (KS.out.below hb)
  replace HP := Lib.hid (HP.out.below hb)
  replace HR := Lib.hid (HR.out.below hb)
  clear hb
  rw [wv12.1, wv12e.1]
  have c0 := KS.out.1.cell 0
  have c1 := KS.out.1.cell 1
  simp at c0 c1
  go_wp2_with fail
  clear c0 c1
  refine (Cost_ok (.agg #[.int .i64 10, .slice sa 2 sc]) (.slice ka 3 kc) tenR threeK 1 _ KS.out.2.1 KS.out.2.2.1 ten_ok.1 ten_ok.2).mono ?_
  rintro e y18 ⟨rfl, hb⟩
  replace KS := Lib.hid (KS.out.below hb)
  replace HP := Lib.hid (HP.out.below hb)
  replace HR := Lib.hid (HR.out.below hb)
  clear hb
  rw [wv12.2.1, wv12e.2.1]
  have c0 := KS.out.1.cell 0
  have c1 := KS.out.1.cell 1
  simp at c0 c1
  go_upto_region 19 with (fail)
  clear c0 c1
  rename_i hk
  have HKK := Lib.hid hk
  clear hk
  have c0 := KS.out.1.cell 0
  have c1 := KS.out.1.cell 1
  simp at c0 c1
  go_wp2_with fail
  clear c0 c1
  refine (Cost_ok (.agg #[.int .i64 10, .slice sa 2 sc]) (.slice ka 3 kc) tenR threeK 2 _ KS.out.2.1 KS.out.2.2.1 ten_ok.1 ten_ok.2).mono ?_
  rintro e y19 ⟨rfl, hb⟩
  replace KS := Lib.hid (KS.out.below hb)
  replace HP := Lib.hid (HP.out.below hb)
  replace HR := Lib.hid (HR.out.below hb)
  clear hb
  rw [wv12.2.2, wv12e.2.2]
  go_wp2_with fail
  exact HKK.out _ _ (works_d w _ _ _ _ _ _ KS.out _ _ HP.out _ _ HR.out _ _ _ _ _ _ _ _ _ _ _ _ _ _ _ _ _ _ _ _ _ _ _ _ _ _ _ _ _ _ _ _ _ _ _ _ _ _ _ _ _ _ _ _ _ _ _ _ _ _ _ _ _ _ _ _ _ _ _ _ _ _ _ _ _ _ _ _ _ _ _ _ _ _ _ _ _ _ _ _ _ _ _ _ _ _ _ _ _ _ _ _ _ _ _ _ _ _ _ _ _ _ _ _ _ _ _ _ _ _ _ _ _ _ _ _ _ _ _ _ _ _ _ _ _ _ _ _ _ _ _ _ _ _ _ _ _ _ _ _ _ _ _ _ _ _ _ _ _ _ _ _ _ _ _ _ _ _ _ _ _ _ _ _ _ _ _ _ _ _ _ _ _ _ _ _ _ _ _ _ _ _ _ _ _ _ _ _ _ _ _ _ _ _ _ _ _ _ _ _ _ _ _ _ _ _ _ _ _ _ _ _ _ _ _ _ _ _ _ _ _ _ _ _ _ _ _ _ _ _ _ _ _ _ _ _ _ _ _ _ _ _ _ _ _ _ _ _ _ _ _)
end Go.Proofs.Ytnkeikhkafbokaa

namespace Go.Proofs.Ytnkeikhkafbokaa
open Go.RowKit Go.Dag Go.Sort Go.Shelf
attribute [local go_sem] Oper.semAt_some

noncomputable def works_bC : Code := dropSeq 6 ((Try.f17.body).getD .skip)
set_option maxRecDepth 1000000 in
set_option maxHeartbeats 40000000 in
theorem works_b (w W0 : World) (B1 : Nat) (sa : Option Addr) (sc : Nat) (ka : Option Addr) (kc : Nat) (hK : WkS w B1 sa sc ka kc W0)
    (u11 u12 u13 u14 u15 u16 u17 u18 u19 u20 u21 u22 u23 u24 u25 u26 u27 u28 u29 u30 u31 u32 u33 u34 u35 u36 u37 u38 u39 u40 u41 u42 u43 u44 u45 u46 u47 u48 u49 u50 u51 u52 u53 u54 u55 u56 u57 u58 u59 u60 u61 u62 u63 u64 u65 u66 u67 u68 u69 u70 u71 u72 u73 u74 u75 u76 u77 u78 u79 u80 u81 u82 u83 u84 u85 u86 u87 u88 u89 u90 u91 u92 u93 u94 u95 u96 u97 u98 u99 u100 u101 u102 u103 u104 u105 u106 u107 u108 u109 u110 u111 u112 u113 u114 u115 u116 u117 u118 u119 u120 u121 u122 u123 u124 u125 u126 u127 u128 u129 u130 u131 u132 u133 u134 u135 u136 u137 u138 u139 u140 u141 u142 u143 u144 u145 u146 u147 u148 u149 u150 u151 u152 u153 u154 u155 u156 u157 u158 u159 u160 u161 u162 u163 u164 u165 u166 u167 u168 u169 u170 u171 u172 u173 u174 u175 u176 u177 u178 u179 u180 u181 u182 u183 u184 u185 u186 u187 u188 u189 u190 u191 u192 u193 u194 u195 u196 u197 u198 u199 u200 u201 u202 u203 u204 u205 u206 u207 u208 u209 u210 u211 u212 u213 u214 u215 u216 u217 u218 u219 u220 u221 u222 u223 u224 u225 u226 u227 u228 u229 u230 u231 u232 u233 u234 u235 u236 u237 u238 u239 u240 u241 u242 u243 u244 u245 u246 u247 u248 u249 u250 u251 u252 u253 u254 u255 u256 u257 u258 u259 u260 u261 u262 u263 u264 u265 u266 u267 u268 u269 u270 u271 u272 u273 u274 u275 u276 u277 u278 u279 u280 u281 u282 u283 u284 u285 u286 u287 u288 u289 : Value) :
    Code.wp Try.prog works_bC (bodyPost Try.prog Try.f17 fun e w' => e = .returned (.bool true) ∧ Below w.heap.size w w') ⟨#[.bool false, .pointer (some ⟨B1, 0, none⟩), .slice ka 3 kc, .int .i64 14, .int .i64 0, .int .i64 0, .int .i64 18, .int .i64 0, .int .i64 16, .int .i64 0, .int .i64 3, u11, u12, u13, u14, u15, u16, u17, u18, u19, u20, u21, u22, u23, u24, u25, u26, u27, u28, u29, u30, u31, u32, u33, u34, u35, u36, u37, u38, u39, u40, u41, u42, u43, u44, u45, u46, u47, u48, u49, u50, u51, u52, u53, u54, u55, u56, u57, u58, u59, u60, u61, u62, u63, u64, u65, u66, u67, u68, u69, u70, u71, u72, u73, u74, u75, u76, u77, u78, u79, u80, u81, u82, u83, u84, u85, u86, u87, u88, u89, u90, u91, u92, u93, u94, u95, u96, u97, u98, u99, u100, u101, u102, u103, u104, u105, u106, u107, u108, u109, u110, u111, u112, u113, u114, u115, u116, u117, u118, u119, u120, u121, u122, u123, u124, u125, u126, u127, u128, u129, u130, u131, u132, u133, u134, u135, u136, u137, u138, u139, u140, u141, u142, u143, u144, u145, u146, u147, u148, u149, u150, u151, u152, u153, u154, u155, u156, u157, u158, u159, u160, u161, u162, u163, u164, u165, u166, u167, u168, u169, u170, u171, u172, u173, u174, u175, u176, u177, u178, u179, u180, u181, u182, u183, u184, u185, u186, u187, u188, u189, u190, u191, u192, u193, u194, u195, u196, u197, u198, u199, u200, u201, u202, u203, u204, u205, u206, u207, u208, u209, u210, u211, u212, u213, u214, u215, u216, u217, u218, u219, u220, u221, u222, u223, u224, u225, u226, u227, u228, u229, u230, u231, u232, u233, u234, u235, u236, u237, u238, u239, u240, u241, u242, u243, u244, u245, u246, u247, u248, u249, u250, u251, u252, u253, u254, u255, u256, u257, u258, u259, u260, u261, u262, u263, u264, u265, u266, u267, u268, u269, u270, u271, u272, u273, u274, u275, u276, u277, u278, u279, u280, u281, u282, u283, u284, u285, u286, u287, u288, u289], []⟩ W0 := by
  have KS := Lib.hid hK
  clear hK
  conv => arg 2; whnf
  have c0 := KS.out.1.cell 0
  have c1 := KS.out.1.cell 1
  simp at c0 c1
  go_wp2_with fail
  clear c0 c1
  refine (Worth_ok (.agg #[.int .i64 10, .slice sa 2 sc]) (.slice ka 3 kc) tenR threeK _ KS.out.2.1 KS.out.2.2.1 ten_ok.1 ten_ok.2).mono ?_
  rintro e y6 ⟨rfl, hb⟩
  replace KS := Lib.hid (KS.out.below hb)
  clear hb
  rw [wv5]
  have c0 := KS.out.1.cell 0
  have c1 := KS.out.1.cell 1
  simp at c0 c1
  go_wp2_with fail
  clear c0 c1
  refine (Cuts_ok (.agg #[.int .i64 10, .slice sa 2 sc]) (.slice ka 3 kc) tenR threeK _ KS.out.2.1 KS.out.2.2.1 ten_ok.1 ten_ok.2).mono ?_
  rintro e y7 ⟨vc, rfl, hp, hb⟩
  replace KS := Lib.hid (KS.out.below hb)
  clear hb
  rw [wv6] at hp
  obtain ⟨ca, cc, rfl⟩ := hp.slice
  have HP := Lib.hid (show PairsAt y7 (.slice ca 4 cc) [(0, 1), (2, 2), (5, 1), (7, 2)] from hp)
  clear hp
  simp only [List.length_cons, List.length_nil, Nat.reduceAdd]
  have c0 := KS.out.1.cell 0
  have c1 := KS.out.1.cell 1
  simp at c0 c1
  go_wp2_with fail
  clear c0 c1
  refine (Count_ok (.agg #[.int .i64 10, .slice sa 2 sc]) (.slice ka 3 kc) tenR threeK _ KS.out.2.1 KS.out.2.2.1 ten_ok.1 ten_ok.2).mono ?_
  rintro e y8 ⟨rfl, hb⟩
  replace KS := Lib.hid (KS.out.below hb)
  replace HP := Lib.hid (HP.out.below hb)
  clear hb
  rw [wv7]
  have c0 := KS.out.1.cell 0
  have c1 := KS.out.1.cell 1
  simp at c0 c1
  go_wp2_with fail
  clear c0 c1
  refine (Parted_ok (.agg #[.int .i64 10, .slice sa 2 sc]) (.slice ka 3 kc) tenR threeK 0 _ KS.out.2.1 KS.out.2.2.1 ten_ok.1 ten_ok.2).mono ?_
  rintro e y9 ⟨rfl, hb⟩
  replace KS := Lib.hid (KS.out.below hb)
  replace HP := Lib.hid (HP.out.below hb)
  clear hb
  rw [wv8.1, wv8e.1]
  have c0 := KS.out.1.cell 0
  have c1 := KS.out.1.cell 1
  simp at c0 c1
  go_wp2_with fail
  clear c0 c1
  refine (Parted_ok (.agg #[.int .i64 10, .slice sa 2 sc]) (.slice ka 3 kc) tenR threeK 5 _ KS.out.2.1 KS.out.2.2.1 ten_ok.1 ten_ok.2).mono ?_
  rintro e y10 ⟨rfl, hb⟩
  replace KS := Lib.hid (KS.out.below hb)
  replace HP := Lib.hid (HP.out.below hb)
  clear hb
  rw [wv8.2.1, wv8e.2.1]
  have c0 := KS.out.1.cell 0
  have c1 := KS.out.1.cell 1
  simp at c0 c1
  go_wp2_with fail
  clear c0 c1
  refine (Parted_ok (.agg #[.int .i64 10, .slice sa 2 sc]) (.slice ka 3 kc) tenR threeK 6 _ KS.out.2.1 KS.out.2.2.1 ten_ok.1 ten_ok.2).mono ?_
  rintro e y11 ⟨rfl, hb⟩
  replace KS := Lib.hid (KS.out.below hb)
  replace HP := Lib.hid (HP.out.below hb)
  clear hb
  rw [wv8.2.2.1, wv8e.2.2.1]
  have c0 := KS.out.1.cell 0
  have c1 := KS.out.1.cell 1
  simp at c0 c1
  go_upto_region 12 with (fail)
  clear c0 c1
  rename_i hk
  have HKK := Lib.hid hk
  clear hk
  have c0 := KS.out.1.cell 0
  have c1 := KS.out.1.cell 1
  simp at c0 c1
  go_wp2_with fail
  clear c0 c1
  refine (Parted_ok (.agg #[.int .i64 10, .slice sa 2 sc]) (.slice ka 3 kc) tenR threeK 11 _ KS.out.2.1 KS.out.2.2.1 ten_ok.1 ten_ok.2).mono ?_
  rintro e y12 ⟨rfl, hb⟩
  replace KS := Lib.hid (KS.out.below hb)
  replace HP := Lib.hid (HP.out.below hb)
  clear hb
  rw [wv8.2.2.2, wv8e.2.2.2]
  go_wp2_with fail
  exact HKK.out _ _ (works_c w _ _ _ _ _ _ KS.out _ _ HP.out _ _ _ _ _ _ _ _ _ _ _ _ _ _ _ _ _ _ _ _ _ _ _ _ _ _ _ _ _ _ _ _ _ _ _ _ _ _ _ _ _ _ _ _ _ _ _ _ _ _ _ _ _ _ _ _ _ _ _ _ _ _ _ _ _ _ _ _ _ _ _ _ _ _ _ _ _ _ _ _ _ _ _ _ _ _ _ _ _ _ _ _ _ _ _ _ _ _ _ _ _ _ _ _ _ _ _ _ _ _ _ _ _ _ _ _ _ _ _ _ _ _ _ _ _ _ _ _ _ _ _ _ _ _ _ _ _ _ _ _ _ _ _ _ _ _ _ _ _ _ _ _ _ _ _ _ _ _ _ _ _ _ _ _ _ _ _ _ _ _ _ _ _ _ _ _ _ _ _ _ _ _ _ _ _ _ _ _ _ _ _ _ _ _ _ _ _ _ _ _ _ _ _ _ _ _ _ _ _ _ _ _ _ _ _ _ _ _ _ _ _ _ _ _ _ _ _ _ _ _ _ _ _ _ _ _ _ _ _ _ _ _ _ _ _ _ _ _ _ _ _ _ _ _ _ _ _ _ _ _ _ _ _ _ _)
end Go.Proofs.Ytnkeikhkafbokaa

namespace Go.Proofs.Ytnkeikhkafbokaa
open Go.RowKit Go.Dag Go.Sort Go.Shelf
attribute [local go_sem] Oper.semAt_some

set_option maxRecDepth 1000000 in
set_option maxHeartbeats 40000000 in
theorem Works_any (w : World) : Calls Try.prog 17 #[] w fun e w' => e = .returned (.bool true) ∧ Below w.heap.size w w' := by
  go_enter Try.func17, Try.ntmps17
  go_wp2_with fail
  refine (ten_any _).mono ?_
  rintro e z1 ⟨v1, rfl, hv1, hb1⟩
  obtain ⟨sv, rfl, hi⟩ := hv1
  obtain ⟨sa, sc, rfl⟩ := hi.slice
  have H1 := Lib.hid (show RibAt z1 (.agg #[.int .i64 10, .slice sa 2 sc]) tenR from ⟨_, rfl, hi⟩)
  simp only [show tenR.len = 10 from rfl, show tenR.fs.length = 2 from rfl]
  have HB1 := Lib.hid hb1
  clear hi hb1
  go_wp2_with fail
  refine (three_any _).mono ?_
  rintro e z2 ⟨v2, rfl, hk2, hb2⟩
  obtain ⟨ka, kc, rfl⟩ := hk2.slice
  simp only [show threeK.length = 3 from rfl] at hk2 ⊢
  have HB2 := Lib.hid (bC HB1.out hb2)
  have H12 := Lib.hid (H1.out.below hb2)
  have hb3 := below1 z2 (.cells #[.int .i64 10, .slice sa 2 sc] 24)
  have KS : Hid (WkS w z2.heap.size sa sc ka kc (z2.alloc (.cells #[.int .i64 10, .slice sa 2 sc] 24))) := Lib.hid ⟨Blk.new _ _, H12.out.below hb3, hk2.below hb3, bC HB2.out hb3⟩
  clear hk2 hb2 hb3 HB1 H1 HB2 H12
  go_wp2_with fail
  generalize hg : z2.alloc (.cells #[.int .i64 10, .slice sa 2 sc] 24) = W0 at *
  clear hg
  obtain ⟨B1, hB1⟩ : ∃ B1, z2.heap.size = B1 := ⟨_, rfl⟩
  rw [hB1] at KS ⊢
  clear hB1
  have c0 := KS.out.1.cell 0
  have c1 := KS.out.1.cell 1
  simp at c0 c1
  go_wp2_with fail
  refine (wp_region_T 9 (fun W' => W'.cell? ⟨B1, 0, none⟩ = some (.int .i64 10) ∧ W'.cell? ⟨B1, 1, none⟩ = some (.slice sa 2 sc)) (by kernel_rfl) (by kernel_rfl) ⟨c0, c1⟩ ?_)
  intro inv hS
  clear c0 c1
  have hb : Below W0.heap.size W0 W0.drew := (Below.refl _ _).drew
  generalize W0.drew = d2 at *
  replace KS := Lib.hid (KS.out.below hb)
  clear hb
  refine wpAnyT_take inv (by kernel_rfl) (by omega) (i := 0) (v := .agg #[.int .i64 10, .slice sa 2 sc]) rfl (by kernel_rfl) (by kernel_rfl) (fun _ _ _ h => h) (Or.inl ⟨by kernel_rfl, ?_⟩) (by assumption) ?_
  · rintro W' ⟨q0, q1⟩
    go_simp
  intro inv2
  clear inv
  have inv := inv2
  clear inv2
  simp only [Act.put, List.setIfInBounds_toArray]
  refine wpAnyT_take inv (by kernel_rfl) (by omega) (i := 1) (v := .slice ka 3 kc) rfl (by kernel_rfl) (by kernel_rfl) (fun _ _ _ h => h) (Or.inl ⟨by kernel_rfl, ?_⟩) (by assumption) ?_
  · rintro W' ⟨q0, q1⟩
    go_simp
  intro inv2
  clear inv
  have inv := inv2
  clear inv2
  simp only [Act.put]
  refine wpAnyT_ready [2] (by kernel_rfl) (by simp) ?_
  refine AllReadyT.cons rfl (fun K hK => ?_) AllReadyT.nil
  go_simp
  have hb := below1 d2 (.cells #[.int .i64 0, .int .i64 1, .int .i64 2, .int .i64 2, .int .i64 5, .int .i64 1, .int .i64 7, .int .i64 2] 3)
  have bl := Blk.new d2 (.cells #[.int .i64 0, .int .i64 1, .int .i64 2, .int .i64 2, .int .i64 5, .int .i64 1, .int .i64 7, .int .i64 2] 3)
  refine hK.out _ _ (fun _ => ⟨cellB hS.1 hb, cellB hS.2 hb⟩) (fun _ => ?_)
  replace inv := HeadM.step inv 2 (by kernel_rfl) (by omega)
  clear hK K
  try simp only [Act.put]
  replace hS := And.intro (cellB hS.1 hb) (cellB hS.2 hb)
  have HA := Lib.hid (IntsAt.of_blk (cap := 8) (l := [0, 1, 2, 2, 5, 1, 7, 2]) bl)
  replace KS := Lib.hid (KS.out.below hb)
  clear hb
  generalize hg : d2.alloc (.cells #[.int .i64 0, .int .i64 1, .int .i64 2, .int .i64 2, .int .i64 5, .int .i64 1, .int .i64 7, .int .i64 2] 3) = f2 at *
  clear hg bl
  refine wpAnyT_ready [3] (by kernel_rfl) (by simp) ?_
  refine AllReadyT.cons rfl (fun K hK => ?_) AllReadyT.nil
  go_simp
  refine (shts_any _ [0, 1, 2, 2, 5, 1, 7, 2] 4 _ HA.out rfl (by omega)).mono ?_
  rintro e g2 ⟨vs, rfl, hp, hb⟩
  have hsl := hp.slice
  rw [show pairsOf [0, 1, 2, 2, 5, 1, 7, 2] 4 = [(0, 1), (2, 2), (5, 1), (7, 2)] from rfl] at hp
  obtain ⟨xa, xc, rfl⟩ := hp.slice
  simp only [List.length_cons, List.length_nil, Nat.reduceAdd] at hp ⊢
  have HG := Lib.hid hp
  clear hp hsl
  refine hK.out _ _ (fun _ => ⟨cellB hS.1 hb, cellB hS.2 hb⟩) (fun _ => ?_)
  replace inv := HeadM.step inv 3 (by kernel_rfl) (by omega)
  clear hK K
  try simp only [Act.put]
  replace hS := And.intro (cellB hS.1 hb) (cellB hS.2 hb)
  replace KS := Lib.hid (KS.out.below hb)
  clear hb
  refine wpAnyT_ready [4] (by kernel_rfl) (by simp) ?_
  refine AllReadyT.cons rfl (fun K hK => ?_) AllReadyT.nil
  go_simp
  refine (CheckCuts_ok (.agg #[.int .i64 10, .slice sa 2 sc]) (.slice ka 3 kc) tenR threeK _ [(0, 1), (2, 2), (5, 1), (7, 2)] _ KS.out.2.1 KS.out.2.2.1 HG.out (by decide) ten_ok.1 ten_ok.2).mono ?_
  rintro e y2 ⟨rfl, hb⟩
  rw [wv1.1, wv1.2]
  refine hK.out _ _ (fun _ => ⟨cellB hS.1 hb, cellB hS.2 hb⟩) (fun _ => ?_)
  replace inv := HeadM.step inv 4 (by kernel_rfl) (by omega)
  clear hK K
  try simp only [Act.put]
  replace hS := And.intro (cellB hS.1 hb) (cellB hS.2 hb)
  replace KS := Lib.hid (KS.out.below hb)
  clear hb
  refine wpAnyT_take inv (by kernel_rfl) (by omega) (i := 5) (v := .tuple #[.int .i64 14, .int .i64 0]) rfl (by kernel_rfl) (by kernel_rfl) (fun _ _ _ h => h) (Or.inl ⟨by kernel_rfl, ?_⟩) (by assumption) ?_
  · rintro W' ⟨q0, q1⟩
    go_simp
  intro inv2
  clear inv
  have inv := inv2
  clear inv2
  simp only [Act.put]
  refine wpAnyT_take inv (by kernel_rfl) (by omega) (i := 6) (v := .int .i64 14) rfl (by kernel_rfl) (by kernel_rfl) (fun _ _ _ h => h) (Or.inl ⟨by kernel_rfl, ?_⟩) (by assumption) ?_
  · rintro W' ⟨q0, q1⟩
    go_simp
  intro inv2
  clear inv
  have inv := inv2
  clear inv2
  simp only [Act.put]
  refine wpAnyT_take inv (by kernel_rfl) (by omega) (i := 7) (v := .int .i64 0) rfl (by kernel_rfl) (by kernel_rfl) (fun _ _ _ h => h) (Or.inl ⟨by kernel_rfl, ?_⟩) (by assumption) ?_
  · rintro W' ⟨q0, q1⟩
    go_simp
  intro inv2
  clear inv
  have inv := inv2
  clear inv2
  simp only [Act.put]
  refine wpAnyT_take inv (by kernel_rfl) (by omega) (i := 8) (v := .int .i64 14) rfl (by kernel_rfl) (by kernel_rfl) (fun _ _ _ h => h) (Or.inl ⟨by kernel_rfl, ?_⟩) (by assumption) ?_
  · rintro W' ⟨q0, q1⟩
    go_simp
  intro inv2
  clear inv
  have inv := inv2
  clear inv2
  simp only [Act.put]
  refine wpAnyT_chain (fuel := 1) rfl (by kernel_rfl) ?_
  simp only [List.drop_succ_cons, List.drop_zero]
  clear inv hS HA HG
  have c0 := KS.out.1.cell 0
  have c1 := KS.out.1.cell 1
  simp at c0 c1
  go_wp2_with fail
  refine (wp_region_T 9 (fun W' => W'.cell? ⟨B1, 0, none⟩ = some (.int .i64 10) ∧ W'.cell? ⟨B1, 1, none⟩ = some (.slice sa 2 sc)) (by kernel_rfl) (by kernel_rfl) ⟨c0, c1⟩ ?_)
  intro inv hS
  clear c0 c1
  have hb : Below y2.heap.size y2 y2.drew := (Below.refl _ _).drew
  generalize y2.drew = d3 at *
  replace KS := Lib.hid (KS.out.below hb)
  clear hb
  refine wpAnyT_take inv (by kernel_rfl) (by omega) (i := 0) (v := .agg #[.int .i64 10, .slice sa 2 sc]) rfl (by kernel_rfl) (by kernel_rfl) (fun _ _ _ h => h) (Or.inl ⟨by kernel_rfl, ?_⟩) (by assumption) ?_
  · rintro W' ⟨q0, q1⟩
    go_simp
  intro inv2
  clear inv
  have inv := inv2
  clear inv2
  simp only [Act.put, List.setIfInBounds_toArray]
  refine wpAnyT_take inv (by kernel_rfl) (by omega) (i := 1) (v := .slice ka 3 kc) rfl (by kernel_rfl) (by kernel_rfl) (fun _ _ _ h => h) (Or.inl ⟨by kernel_rfl, ?_⟩) (by assumption) ?_
  · rintro W' ⟨q0, q1⟩
    go_simp
  intro inv2
  clear inv
  have inv := inv2
  clear inv2
  simp only [Act.put]
  refine wpAnyT_ready [2] (by kernel_rfl) (by simp) ?_
  refine AllReadyT.cons rfl (fun K hK => ?_) AllReadyT.nil
  go_simp
  have hb := below1 d3 (.cells #[.int .i64 0, .int .i64 0] 3)
  have bl := Blk.new d3 (.cells #[.int .i64 0, .int .i64 0] 3)
  refine hK.out _ _ (fun _ => ⟨cellB hS.1 hb, cellB hS.2 hb⟩) (fun _ => ?_)
  replace inv := HeadM.step inv 2 (by kernel_rfl) (by omega)
  clear hK K
  try simp only [Act.put]
  replace hS := And.intro (cellB hS.1 hb) (cellB hS.2 hb)
  have HA := Lib.hid (IntsAt.of_blk (cap := 2) (l := [0, 0]) bl)
  replace KS := Lib.hid (KS.out.below hb)
  clear hb
  generalize hg : d3.alloc (.cells #[.int .i64 0, .int .i64 0] 3) = f3 at *
  clear hg bl
  refine wpAnyT_ready [3] (by kernel_rfl) (by simp) ?_
  refine AllReadyT.cons rfl (fun K hK => ?_) AllReadyT.nil
  go_simp
  refine (shts_any _ [0, 0] 1 _ HA.out rfl (by omega)).mono ?_
  rintro e g3 ⟨vs, rfl, hp, hb⟩
  have hsl := hp.slice
  rw [show pairsOf [0, 0] 1 = [(0, 0)] from rfl] at hp
  obtain ⟨xa, xc, rfl⟩ := hp.slice
  simp only [List.length_cons, List.length_nil, Nat.reduceAdd] at hp ⊢
  have HG := Lib.hid hp
  clear hp hsl
  refine hK.out _ _ (fun _ => ⟨cellB hS.1 hb, cellB hS.2 hb⟩) (fun _ => ?_)
  replace inv := HeadM.step inv 3 (by kernel_rfl) (by omega)
  clear hK K
  try simp only [Act.put]
  replace hS := And.intro (cellB hS.1 hb) (cellB hS.2 hb)
  replace KS := Lib.hid (KS.out.below hb)
  clear hb
  refine wpAnyT_ready [4] (by kernel_rfl) (by simp) ?_
  refine AllReadyT.cons rfl (fun K hK => ?_) AllReadyT.nil
  go_simp
  refine (CheckCuts_ok (.agg #[.int .i64 10, .slice sa 2 sc]) (.slice ka 3 kc) tenR threeK _ [(0, 0)] _ KS.out.2.1 KS.out.2.2.1 HG.out (by decide) ten_ok.1 ten_ok.2).mono ?_
  rintro e y3 ⟨rfl, hb⟩
  rw [wv2.1, wv2.2]
  refine hK.out _ _ (fun _ => ⟨cellB hS.1 hb, cellB hS.2 hb⟩) (fun _ => ?_)
  replace inv := HeadM.step inv 4 (by kernel_rfl) (by omega)
  clear hK K
  try simp only [Act.put]
  replace hS := And.intro (cellB hS.1 hb) (cellB hS.2 hb)
  replace KS := Lib.hid (KS.out.below hb)
  clear hb
  refine wpAnyT_take inv (by kernel_rfl) (by omega) (i := 5) (v := .tuple #[.int .i64 0, .int .i64 18]) rfl (by kernel_rfl) (by kernel_rfl) (fun _ _ _ h => h) (Or.inl ⟨by kernel_rfl, ?_⟩) (by assumption) ?_
  · rintro W' ⟨q0, q1⟩
    go_simp
  intro inv2
  clear inv
  have inv := inv2
  clear inv2
  simp only [Act.put]
  refine wpAnyT_take inv (by kernel_rfl) (by omega) (i := 6) (v := .int .i64 0) rfl (by kernel_rfl) (by kernel_rfl) (fun _ _ _ h => h) (Or.inl ⟨by kernel_rfl, ?_⟩) (by assumption) ?_
  · rintro W' ⟨q0, q1⟩
    go_simp
  intro inv2
  clear inv
  have inv := inv2
  clear inv2
  simp only [Act.put]
  refine wpAnyT_take inv (by kernel_rfl) (by omega) (i := 7) (v := .int .i64 18) rfl (by kernel_rfl) (by kernel_rfl) (fun _ _ _ h => h) (Or.inl ⟨by kernel_rfl, ?_⟩) (by assumption) ?_
  · rintro W' ⟨q0, q1⟩
    go_simp
  intro inv2
  clear inv
  have inv := inv2
  clear inv2
  simp only [Act.put]
  refine wpAnyT_take inv (by kernel_rfl) (by omega) (i := 8) (v := .int .i64 0) rfl (by kernel_rfl) (by kernel_rfl) (fun _ _ _ h => h) (Or.inl ⟨by kernel_rfl, ?_⟩) (by assumption) ?_
  · rintro W' ⟨q0, q1⟩
    go_simp
  intro inv2
  clear inv
  have inv := inv2
  clear inv2
  simp only [Act.put]
  refine wpAnyT_chain (fuel := 1) rfl (by kernel_rfl) ?_
  simp only [List.drop_succ_cons, List.drop_zero]
  clear inv hS HA HG
  have c0 := KS.out.1.cell 0
  have c1 := KS.out.1.cell 1
  simp at c0 c1
  go_wp2_with fail
  refine (wp_region_T 9 (fun W' => W'.cell? ⟨B1, 0, none⟩ = some (.int .i64 10) ∧ W'.cell? ⟨B1, 1, none⟩ = some (.slice sa 2 sc)) (by kernel_rfl) (by kernel_rfl) ⟨c0, c1⟩ ?_)
  intro inv hS
  clear c0 c1
  have hb : Below y3.heap.size y3 y3.drew := (Below.refl _ _).drew
  generalize y3.drew = d4 at *
  replace KS := Lib.hid (KS.out.below hb)
  clear hb
  refine wpAnyT_take inv (by kernel_rfl) (by omega) (i := 0) (v := .agg #[.int .i64 10, .slice sa 2 sc]) rfl (by kernel_rfl) (by kernel_rfl) (fun _ _ _ h => h) (Or.inl ⟨by kernel_rfl, ?_⟩) (by assumption) ?_
  · rintro W' ⟨q0, q1⟩
    go_simp
  intro inv2
  clear inv
  have inv := inv2
  clear inv2
  simp only [Act.put, List.setIfInBounds_toArray]
  refine wpAnyT_take inv (by kernel_rfl) (by omega) (i := 1) (v := .slice ka 3 kc) rfl (by kernel_rfl) (by kernel_rfl) (fun _ _ _ h => h) (Or.inl ⟨by kernel_rfl, ?_⟩) (by assumption) ?_
  · rintro W' ⟨q0, q1⟩
    go_simp
  intro inv2
  clear inv
  have inv := inv2
  clear inv2
  simp only [Act.put]
  refine wpAnyT_ready [2] (by kernel_rfl) (by simp) ?_
  refine AllReadyT.cons rfl (fun K hK => ?_) AllReadyT.nil
  go_simp
  have hb := below1 d4 (.cells #[.int .i64 4, .int .i64 2, .int .i64 5, .int .i64 1] 3)
  have bl := Blk.new d4 (.cells #[.int .i64 4, .int .i64 2, .int .i64 5, .int .i64 1] 3)
  refine hK.out _ _ (fun _ => ⟨cellB hS.1 hb, cellB hS.2 hb⟩) (fun _ => ?_)
  replace inv := HeadM.step inv 2 (by kernel_rfl) (by omega)
  clear hK K
  try simp only [Act.put]
  replace hS := And.intro (cellB hS.1 hb) (cellB hS.2 hb)
  have HA := Lib.hid (IntsAt.of_blk (cap := 4) (l := [4, 2, 5, 1]) bl)
  replace KS := Lib.hid (KS.out.below hb)
  clear hb
  generalize hg : d4.alloc (.cells #[.int .i64 4, .int .i64 2, .int .i64 5, .int .i64 1] 3) = f4 at *
  clear hg bl
  refine wpAnyT_ready [3] (by kernel_rfl) (by simp) ?_
  refine AllReadyT.cons rfl (fun K hK => ?_) AllReadyT.nil
  go_simp
  refine (shts_any _ [4, 2, 5, 1] 2 _ HA.out rfl (by omega)).mono ?_
  rintro e g4 ⟨vs, rfl, hp, hb⟩
  have hsl := hp.slice
  rw [show pairsOf [4, 2, 5, 1] 2 = [(4, 2), (5, 1)] from rfl] at hp
  obtain ⟨xa, xc, rfl⟩ := hp.slice
  simp only [List.length_cons, List.length_nil, Nat.reduceAdd] at hp ⊢
  have HG := Lib.hid hp
  clear hp hsl
  refine hK.out _ _ (fun _ => ⟨cellB hS.1 hb, cellB hS.2 hb⟩) (fun _ => ?_)
  replace inv := HeadM.step inv 3 (by kernel_rfl) (by omega)
  clear hK K
  try simp only [Act.put]
  replace hS := And.intro (cellB hS.1 hb) (cellB hS.2 hb)
  replace KS := Lib.hid (KS.out.below hb)
  clear hb
  refine wpAnyT_ready [4] (by kernel_rfl) (by simp) ?_
  refine AllReadyT.cons rfl (fun K hK => ?_) AllReadyT.nil
  go_simp
  refine (CheckCuts_ok (.agg #[.int .i64 10, .slice sa 2 sc]) (.slice ka 3 kc) tenR threeK _ [(4, 2), (5, 1)] _ KS.out.2.1 KS.out.2.2.1 HG.out (by decide) ten_ok.1 ten_ok.2).mono ?_
  rintro e y4 ⟨rfl, hb⟩
  rw [wv3.1, wv3.2]
  refine hK.out _ _ (fun _ => ⟨cellB hS.1 hb, cellB hS.2 hb⟩) (fun _ => ?_)
  replace inv := HeadM.step inv 4 (by kernel_rfl) (by omega)
  clear hK K
  try simp only [Act.put]
  replace hS := And.intro (cellB hS.1 hb) (cellB hS.2 hb)
  replace KS := Lib.hid (KS.out.below hb)
  clear hb
  refine wpAnyT_take inv (by kernel_rfl) (by omega) (i := 5) (v := .tuple #[.int .i64 0, .int .i64 16]) rfl (by kernel_rfl) (by kernel_rfl) (fun _ _ _ h => h) (Or.inl ⟨by kernel_rfl, ?_⟩) (by assumption) ?_
  · rintro W' ⟨q0, q1⟩
    go_simp
  intro inv2
  clear inv
  have inv := inv2
  clear inv2
  simp only [Act.put]
  refine wpAnyT_take inv (by kernel_rfl) (by omega) (i := 6) (v := .int .i64 0) rfl (by kernel_rfl) (by kernel_rfl) (fun _ _ _ h => h) (Or.inl ⟨by kernel_rfl, ?_⟩) (by assumption) ?_
  · rintro W' ⟨q0, q1⟩
    go_simp
  intro inv2
  clear inv
  have inv := inv2
  clear inv2
  simp only [Act.put]
  refine wpAnyT_take inv (by kernel_rfl) (by omega) (i := 7) (v := .int .i64 16) rfl (by kernel_rfl) (by kernel_rfl) (fun _ _ _ h => h) (Or.inl ⟨by kernel_rfl, ?_⟩) (by assumption) ?_
  · rintro W' ⟨q0, q1⟩
    go_simp
  intro inv2
  clear inv
  have inv := inv2
  clear inv2
  simp only [Act.put]
  refine wpAnyT_take inv (by kernel_rfl) (by omega) (i := 8) (v := .int .i64 0) rfl (by kernel_rfl) (by kernel_rfl) (fun _ _ _ h => h) (Or.inl ⟨by kernel_rfl, ?_⟩) (by assumption) ?_
  · rintro W' ⟨q0, q1⟩
    go_simp
  intro inv2
  clear inv
  have inv := inv2
  clear inv2
  simp only [Act.put]
  refine wpAnyT_chain (fuel := 1) rfl (by kernel_rfl) ?_
  simp only [List.drop_succ_cons, List.drop_zero]
  clear inv hS HA HG
  have c0 := KS.out.1.cell 0
  have c1 := KS.out.1.cell 1
  simp at c0 c1
  go_upto_region 5 with (fail)
  clear c0 c1
  rename_i hk
  have HKK := Lib.hid hk
  clear hk
  have c0 := KS.out.1.cell 0
  have c1 := KS.out.1.cell 1
  simp at c0 c1
  go_wp2_with fail
  refine (wp_region_T 9 (fun W' => W'.cell? ⟨B1, 0, none⟩ = some (.int .i64 10) ∧ W'.cell? ⟨B1, 1, none⟩ = some (.slice sa 2 sc)) (by kernel_rfl) (by kernel_rfl) ⟨c0, c1⟩ ?_)
  intro inv hS
  clear c0 c1
  have hb : Below y4.heap.size y4 y4.drew := (Below.refl _ _).drew
  generalize y4.drew = d5 at *
  replace KS := Lib.hid (KS.out.below hb)
  clear hb
  refine wpAnyT_take inv (by kernel_rfl) (by omega) (i := 0) (v := .agg #[.int .i64 10, .slice sa 2 sc]) rfl (by kernel_rfl) (by kernel_rfl) (fun _ _ _ h => h) (Or.inl ⟨by kernel_rfl, ?_⟩) (by assumption) ?_
  · rintro W' ⟨q0, q1⟩
    go_simp
  intro inv2
  clear inv
  have inv := inv2
  clear inv2
  simp only [Act.put, List.setIfInBounds_toArray]
  refine wpAnyT_take inv (by kernel_rfl) (by omega) (i := 1) (v := .slice ka 3 kc) rfl (by kernel_rfl) (by kernel_rfl) (fun _ _ _ h => h) (Or.inl ⟨by kernel_rfl, ?_⟩) (by assumption) ?_
  · rintro W' ⟨q0, q1⟩
    go_simp
  intro inv2
  clear inv
  have inv := inv2
  clear inv2
  simp only [Act.put]
  refine wpAnyT_ready [2] (by kernel_rfl) (by simp) ?_
  refine AllReadyT.cons rfl (fun K hK => ?_) AllReadyT.nil
  go_simp
  have hb := below1 d5 (.cells #[.int .i64 11, .int .i64 0] 3)
  have bl := Blk.new d5 (.cells #[.int .i64 11, .int .i64 0] 3)
  refine hK.out _ _ (fun _ => ⟨cellB hS.1 hb, cellB hS.2 hb⟩) (fun _ => ?_)
  replace inv := HeadM.step inv 2 (by kernel_rfl) (by omega)
  clear hK K
  try simp only [Act.put]
  replace hS := And.intro (cellB hS.1 hb) (cellB hS.2 hb)
  have HA := Lib.hid (IntsAt.of_blk (cap := 2) (l := [11, 0]) bl)
  replace KS := Lib.hid (KS.out.below hb)
  clear hb
  generalize hg : d5.alloc (.cells #[.int .i64 11, .int .i64 0] 3) = f5 at *
  clear hg bl
  refine wpAnyT_ready [3] (by kernel_rfl) (by simp) ?_
  refine AllReadyT.cons rfl (fun K hK => ?_) AllReadyT.nil
  go_simp
  refine (shts_any _ [11, 0] 1 _ HA.out rfl (by omega)).mono ?_
  rintro e g5 ⟨vs, rfl, hp, hb⟩
  have hsl := hp.slice
  rw [show pairsOf [11, 0] 1 = [(11, 0)] from rfl] at hp
  obtain ⟨xa, xc, rfl⟩ := hp.slice
  simp only [List.length_cons, List.length_nil, Nat.reduceAdd] at hp ⊢
  have HG := Lib.hid hp
  clear hp hsl
  refine hK.out _ _ (fun _ => ⟨cellB hS.1 hb, cellB hS.2 hb⟩) (fun _ => ?_)
  replace inv := HeadM.step inv 3 (by kernel_rfl) (by omega)
  clear hK K
  try simp only [Act.put]
  replace hS := And.intro (cellB hS.1 hb) (cellB hS.2 hb)
  replace KS := Lib.hid (KS.out.below hb)
  clear hb
  refine wpAnyT_ready [4] (by kernel_rfl) (by simp) ?_
  refine AllReadyT.cons rfl (fun K hK => ?_) AllReadyT.nil
  go_simp
  refine (CheckCuts_ok (.agg #[.int .i64 10, .slice sa 2 sc]) (.slice ka 3 kc) tenR threeK _ [(11, 0)] _ KS.out.2.1 KS.out.2.2.1 HG.out (by decide) ten_ok.1 ten_ok.2).mono ?_
  rintro e y5 ⟨rfl, hb⟩
  rw [wv4.1, wv4.2]
  refine hK.out _ _ (fun _ => ⟨cellB hS.1 hb, cellB hS.2 hb⟩) (fun _ => ?_)
  replace inv := HeadM.step inv 4 (by kernel_rfl) (by omega)
  clear hK K
  try simp only [Act.put]
  replace hS := And.intro (cellB hS.1 hb) (cellB hS.2 hb)
  replace KS := Lib.hid (KS.out.below hb)
  clear hb
  refine wpAnyT_take inv (by kernel_rfl) (by omega) (i := 5) (v := .tuple #[.int .i64 0, .int .i64 3]) rfl (by kernel_rfl) (by kernel_rfl) (fun _ _ _ h => h) (Or.inl ⟨by kernel_rfl, ?_⟩) (by assumption) ?_
  · rintro W' ⟨q0, q1⟩
    go_simp
  intro inv2
  clear inv
  have inv := inv2
  clear inv2
  simp only [Act.put]
  refine wpAnyT_take inv (by kernel_rfl) (by omega) (i := 6) (v := .int .i64 0) rfl (by kernel_rfl) (by kernel_rfl) (fun _ _ _ h => h) (Or.inl ⟨by kernel_rfl, ?_⟩) (by assumption) ?_
  · rintro W' ⟨q0, q1⟩
    go_simp
  intro inv2
  clear inv
  have inv := inv2
  clear inv2
  simp only [Act.put]
  refine wpAnyT_take inv (by kernel_rfl) (by omega) (i := 7) (v := .int .i64 3) rfl (by kernel_rfl) (by kernel_rfl) (fun _ _ _ h => h) (Or.inl ⟨by kernel_rfl, ?_⟩) (by assumption) ?_
  · rintro W' ⟨q0, q1⟩
    go_simp
  intro inv2
  clear inv
  have inv := inv2
  clear inv2
  simp only [Act.put]
  refine wpAnyT_take inv (by kernel_rfl) (by omega) (i := 8) (v := .int .i64 0) rfl (by kernel_rfl) (by kernel_rfl) (fun _ _ _ h => h) (Or.inl ⟨by kernel_rfl, ?_⟩) (by assumption) ?_
  · rintro W' ⟨q0, q1⟩
    go_simp
  intro inv2
  clear inv
  have inv := inv2
  clear inv2
  simp only [Act.put]
  refine wpAnyT_chain (fuel := 1) rfl (by kernel_rfl) ?_
  simp only [List.drop_succ_cons, List.drop_zero]
  clear inv hS HA HG
  go_wp2_with fail
  exact HKK.out _ _ (works_b w _ _ _ _ _ _ KS.out _ _ _ _ _ _ _ _ _ _ _ _ _ _ _ _ _ _ _ _ _ _ _ _ _ _ _ _ _ _ _ _ _ _ _ _ _ _ _ _ _ _ _ _ _ _ _ _ _ _ _ _ _ _ _ _ _ _ _ _ _ _ _ _ _ _ _ _ _ _ _ _ _ _ _ _ _ _ _ _ _ _ _ _ _ _ _ _ _ _ _ _ _ _ _ _ _ _ _ _ _ _ _ _ _ _ _ _ _ _ _ _ _ _ _ _ _ _ _ _ _ _ _ _ _ _ _ _ _ _ _ _ _ _ _ _ _ _ _ _ _ _ _ _ _ _ _ _ _ _ _ _ _ _ _ _ _ _ _ _ _ _ _ _ _ _ _ _ _ _ _ _ _ _ _ _ _ _ _ _ _ _ _ _ _ _ _ _ _ _ _ _ _ _ _ _ _ _ _ _ _ _ _ _ _ _ _ _ _ _ _ _ _ _ _ _ _ _ _ _ _ _ _ _ _ _ _ _ _ _ _ _ _ _ _ _ _ _ _ _ _ _ _ _ _ _ _ _ _ _ _ _ _ _ _ _ _ _ _ _ _ _ _ _ _ _ _ _ _ _ _ _ _ _ _ _ _ _ _)
end Go.Proofs.Ytnkeikhkafbokaa
