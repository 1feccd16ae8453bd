import Derived.Test.YtlhldkiggmlegaaDoorNv
namespace Go.Proofs.YtlhldkiggmlegaaDoor
open Go.RowKit Go.Shelf Go.Sort
attribute [local go_sem] Oper.semAt_some

/-! ## The examples hold: from the fourth region on -/
noncomputable def worksA : Code := dropSeq 4 ((Tryd.f19.body).getD .skip)
set_option maxRecDepth 1000000 in
set_option maxHeartbeats 40000000 in
theorem works_a (w W0 : World) (B1 : Nat) (a1 a2 a3 a4 : Option Addr) (k1 k2 k3 k4 : Nat) (hK : Wk w B1 (B1 + 1) (.slice a1 3 k1) (.slice a2 3 k2) (.slice a3 2 k3) (.slice a4 2 k4) W0) (c3 : Nat)
    (a3' : W0.cell? ⟨c3, 0, none⟩ = some (.int .i64 5) ∧ W0.cell? ⟨c3, 1, none⟩ = some (.int .i64 2))
    (u5 u7 u8 u9 u10 u11 u12 u13 u14 u15 u16 u17 u18 u19 u20 u21 u22 u23 u24 u25 u26 u27 u28 u29 u30 u31 u32 u33 u34 u35 u36 u37 u38 u39 u40 u41 u42 u43 u44 u45 u46 u47 u48 u49 u50 u51 u52 u53 u54 u55 u56 u57 u58 u59 u60 u61 u62 u63 u64 u65 u66 u67 u68 u69 u70 u71 u72 u73 u74 u75 u76 u77 u78 u79 u80 u81 u82 u83 u84 u85 u86 u87 u88 u89 u90 u91 u92 u93 u94 u95 u96 u97 u98 u99 u100 u101 u102 u103 u104 u105 u106 u107 u108 u109 u110 u111 u112 u113 u114 u115 u116 u117 u118 u119 u120 u121 u122 u123 u124 u125 u126 u127 u128 u129 u130 u131 u132 u133 u134 u135 u136 u137 u138 u139 u140 u141 u142 u143 u144 u145 u146 u147 u148 u149 u150 u151 u152 u153 u154 u155 u156 u157 u158 u159 u160 u161 u162 u163 u164 u165 u166 u167 u168 u169 u170 u171 u172 u173 u174 u175 u176 u177 u178 u179 u180 u181 u182 u183 u184 u185 u186 u187 u188 u189 u190 u191 u192 u193 u194 u195 u196 u197 u198 u199 u200 u201 u202 u203 u204 u205 u206 u207 u208 u209 u210 u211 u212 u213 u214 u215 u216 u217 u218 u219 u220 u221 u222 u223 u224 u225 u226 u227 u228 u229 u230 u231 u232 u233 u234 u235 u236 u237 u238 u239 u240 u241 u242 u243 u244 u245 u246 u247 u248 u249 u250 u251 u252 : Value) :
    Code.wp Tryd.prog worksA (bodyPost Tryd.prog Tryd.f19 fun e w' => e = .returned (.bool true) ∧ Below w.heap.size w w') ⟨#[.bool false, .pointer (some ⟨B1, 0, none⟩), .pointer (some ⟨B1 + 1, 0, none⟩), .pointer (some ⟨c3, 0, none⟩), .int .i64 0, u5, .int .i64 3, u7, u8, u9, u10, u11, u12, u13, u14, u15, u16, u17, u18, u19, u20, u21, u22, u23, u24, u25, u26, u27, u28, u29, u30, u31, u32, u33, u34, u35, u36, u37, u38, u39, u40, u41, u42, u43, u44, u45, u46, u47, u48, u49, u50, u51, u52, u53, u54, u55, u56, u57, u58, u59, u60, u61, u62, u63, u64, u65, u66, u67, u68, u69, u70, u71, u72, u73, u74, u75, u76, u77, u78, u79, u80, u81, u82, u83, u84, u85, u86, u87, u88, u89, u90, u91, u92, u93, u94, u95, u96, u97, u98, u99, u100, u101, u102, u103, u104, u105, u106, u107, u108, u109, u110, u111, u112, u113, u114, u115, u116, u117, u118, u119, u120, u121, u122, u123, u124, u125, u126, u127, u128, u129, u130, u131, u132, u133, u134, u135, u136, u137, u138, u139, u140, u141, u142, u143, u144, u145, u146, u147, u148, u149, u150, u151, u152, u153, u154, u155, u156, u157, u158, u159, u160, u161, u162, u163, u164, u165, u166, u167, u168, u169, u170, u171, u172, u173, u174, u175, u176, u177, u178, u179, u180, u181, u182, u183, u184, u185, u186, u187, u188, u189, u190, u191, u192, u193, u194, u195, u196, u197, u198, u199, u200, u201, u202, u203, u204, u205, u206, u207, u208, u209, u210, u211, u212, u213, u214, u215, u216, u217, u218, u219, u220, u221, u222, u223, u224, u225, u226, u227, u228, u229, u230, u231, u232, u233, u234, u235, u236, u237, u238, u239, u240, u241, u242, u243, u244, u245, u246, u247, u248, u249, u250, u251, u252], []⟩ W0 := by
  have A3 := Lib.hid a3'
  clear a3'
  have K := Lib.hid hK
  clear hK
  conv => arg 2; whnf
  obtain ⟨⟨u0, u1⟩, ⟨u2, u3⟩, hl1, hl2⟩ := K.out.cells
  go_wp2_with fail
  clear u0 u1 u2 u3 hl1 hl2
  refine (c_best1 K.out.la).mono ?_
  rintro e w1x ⟨rfl, hb⟩
  have K1 := K.out.below hb
  have hA1 : Below w1x.heap.size w1x w1x := Below.refl _ _
  obtain ⟨⟨u0, u1⟩, ⟨u2, u3⟩, hl1, hl2⟩ := K1.cells
  go_wp2_with fail
  clear u0 u1 u2 u3 hl1 hl2 
  have n0 := Blk.new w1x (.cells #[.int .i64 5, .int .i64 2] 31)
  have hA := below1 w1x (.cells #[.int .i64 5, .int .i64 2] 31)
  generalize w1x.alloc (.cells #[.int .i64 5, .int .i64 2] 31) = W1 at *
  have h1 := Lib.hid (hb.trans (hA.mono hb.size))
  have K' := Lib.hid (K1.below hA)
  have r1 := Lib.hid (show W1.cell? ⟨w1x.heap.size, 0, none⟩ = some (.int .i64 5) ∧ W1.cell? ⟨w1x.heap.size, 1, none⟩ = some (.int .i64 2) from ⟨by rw [n0.cell]; rfl, by rw [n0.cell]; rfl⟩)
  clear hb hA hA1 n0 K K1
  have K := K'
  clear K'
  refine (c_best2 K.out.lb).mono ?_
  rintro e w2x ⟨rfl, hb⟩
  have K2 := K.out.below hb
  have hA2 : Below w2x.heap.size w2x w2x := Below.refl _ _
  obtain ⟨⟨u0, u1⟩, ⟨u2, u3⟩, hl1, hl2⟩ := K2.cells
  go_wp2_with fail
  clear u0 u1 u2 u3 hl1 hl2 
  have n0 := Blk.new w2x (.cells #[.int .i64 2, .int .i64 1] 31)
  have hA := below1 w2x (.cells #[.int .i64 2, .int .i64 1] 31)
  generalize w2x.alloc (.cells #[.int .i64 2, .int .i64 1] 31) = W2 at *
  have h2 := Lib.hid (hb.trans (hA.mono hb.size))
  have K' := Lib.hid (K2.below hA)
  have r2 := Lib.hid (show W2.cell? ⟨w2x.heap.size, 0, none⟩ = some (.int .i64 2) ∧ W2.cell? ⟨w2x.heap.size, 1, none⟩ = some (.int .i64 1) from ⟨by rw [n0.cell]; rfl, by rw [n0.cell]; rfl⟩)
  clear hb hA hA2 n0 K K2
  have K := K'
  clear K'
  refine (c_line K.out.la).mono ?_
  rintro e w3x ⟨rfl, hb⟩
  have K3 := K.out.below hb
  have hA3 : Below w3x.heap.size w3x w3x := Below.refl _ _
  obtain ⟨⟨u0, u1⟩, ⟨u2, u3⟩, hl1, hl2⟩ := K3.cells
  go_wp2_with fail
  clear u0 u1 u2 u3 hl1 hl2 
  have n0 := Blk.new w3x (.cells #[.int .i64 2, .int .i64 7, .int .i64 0] 27)
  have hA := below1 w3x (.cells #[.int .i64 2, .int .i64 7, .int .i64 0] 27)
  generalize w3x.alloc (.cells #[.int .i64 2, .int .i64 7, .int .i64 0] 27) = W3 at *
  have h3 := Lib.hid (hb.trans (hA.mono hb.size))
  have K' := Lib.hid (K3.below hA)
  have r3 := Lib.hid (show W3.cell? ⟨w3x.heap.size, 0, none⟩ = some (.int .i64 2) ∧ W3.cell? ⟨w3x.heap.size, 1, none⟩ = some (.int .i64 7) ∧ W3.cell? ⟨w3x.heap.size, 2, none⟩ = some (.int .i64 0) from ⟨by rw [n0.cell]; rfl, by rw [n0.cell]; rfl, by rw [n0.cell]; rfl⟩)
  clear hb hA hA3 n0 K K3
  have K := K'
  clear K'
  obtain ⟨⟨u0, u1⟩, ⟨u2, u3⟩, hl1, hl2⟩ := K.out.cells
  clear u2 u3
  have hb0 : Below W3.heap.size W3 W3.drew := (Below.refl _ _).drew
  have HSX : Hid (∀ W, Below W3.heap.size W3 W → ((W.cell? ⟨B1, 0, none⟩ = some (.slice a1 3 k1) ∧ W.cell? ⟨B1, 1, none⟩ = some (.slice a2 3 k2)) ∧ Below W3.heap.size W3 W)) := Lib.hid (fun W h => ⟨⟨cellB u0 h, cellB u1 h⟩, h⟩)
  have hAC : ∀ (W : World) (o : Obj) (b j : Nat), b < W.heap.size → (W.alloc o).cell? ⟨b, j, none⟩ = W.cell? ⟨b, j, none⟩ := fun W o b j h => (below1 W o).cell (p := ⟨b, j, none⟩) h
  have hAF : ∀ (W : World) (o : Obj) (b j : Nat), b < W.heap.size → (W.alloc o).frozen? ⟨b, j, none⟩ = W.frozen? ⟨b, j, none⟩ := fun W o b j h => (below1 W o).frozen (p := ⟨b, j, none⟩) h
  go_cut [13, 14] (fun s3 s4 wx => ∃ c : Nat, s3 = .pointer (some ⟨c, 0, none⟩) ∧ s4 = .int .i64 0 ∧ (wx.cell? ⟨c, 0, none⟩ = some (.int .i64 5) ∧ wx.cell? ⟨c, 1, none⟩ = some (.int .i64 2)) ∧ Below W3.heap.size W3 wx)
  case first =>
    go_region_held3 (fun W => (W.cell? ⟨B1, 0, none⟩ = some (.slice a1 3 k1) ∧ W.cell? ⟨B1, 1, none⟩ = some (.slice a2 3 k2)) ∧ Below W3.heap.size W3 W)
      (((with_reducible refine HSX.out _ ?_); (repeat' (first | (with_reducible assumption) | (with_reducible refine Below.refl _ _) | (with_reducible refine Below.drew ?_) | (with_reducible refine bA ?_) | (with_reducible refine bS2o ?_ ?_) | omega))))
      (first | (go_at_call 44; (with_reducible refine (proof_any _ _ _ _ _).mono ?_); rintro e v2 ⟨rfl, hc2⟩; obtain ⟨hB2x, hz2x⟩ : Below W3.heap.size W3 v2 ∧ W3.heap.size ≤ v2.heap.size := bC2 (by (repeat' (first | (with_reducible assumption) | (with_reducible refine Below.refl _ _) | (with_reducible refine Below.drew ?_) | (with_reducible refine bA ?_) | (with_reducible refine bS2o ?_ ?_) | omega))) hc2; (try (have ka2 := n1 hc2; (try simp only [World.size_alloc] at ka2); obtain ⟨ka21, ka22, ⟨ka23, ka24⟩, ka25, ka26, ka27⟩ := q2 ka2)); (try (have kb2 := n1d hc2; (try simp only [World.size_alloc] at kb2); obtain ⟨kb21, kb22, ⟨kb23, kb24⟩, kb25, kb26, kb27⟩ := q2 kb2)); clear hc2) | (go_at_call 31; (with_reducible refine (c_proof1 (K.out.non.below ?_) (K.out.la.below ?_)).mono ?_); (repeat' (first | (with_reducible assumption) | (with_reducible refine Below.refl _ _) | (with_reducible refine Below.drew ?_) | (with_reducible refine bA ?_) | (with_reducible refine bS2o ?_ ?_) | omega)); rintro e v3 ⟨rfl, hc3⟩; obtain ⟨hB3x, hz3x⟩ : Below W3.heap.size W3 v3 ∧ W3.heap.size ≤ v3.heap.size := bC2 (by (repeat' (first | (with_reducible assumption) | (with_reducible refine Below.refl _ _) | (with_reducible refine Below.drew ?_) | (with_reducible refine bA ?_) | (with_reducible refine bS2o ?_ ?_) | omega))) hc3; (try (have ka3 := n1 hc3; (try simp only [World.size_alloc] at ka3); obtain ⟨ka31, ka32, ⟨ka33, ka34⟩, ka35, ka36, ka37⟩ := q2 ka3)); (try (have kb3 := n1d hc3; (try simp only [World.size_alloc] at kb3); obtain ⟨kb31, kb32, ⟨kb33, kb34⟩, kb35, kb36, kb37⟩ := q2 kb3)); (try (have kc3 := oldB ka2 hc3; (try simp only [World.size_alloc] at kc3); obtain ⟨kc31, kc32, ⟨kc33, kc34⟩, kc35, kc36, kc37⟩ := q2 kc3)); (try (have kd3 := oldB kb2 hc3; (try simp only [World.size_alloc] at kd3); obtain ⟨kd31, kd32, ⟨kd33, kd34⟩, kd35, kd36, kd37⟩ := q2 kd3)); clear hc3))
    all_goals (go_wp2_with fail; go_meet; refine ⟨_, rfl, rfl, ?_, ?_⟩)
    all_goals (go_split_ands; first | (with_reducible assumption) | (go_simp; done) | (simp [*]; done) | omega | (simp; omega) | ((repeat' (first | (with_reducible assumption) | (with_reducible refine Below.refl _ _) | (with_reducible refine Below.drew ?_) | (with_reducible refine bA ?_) | (with_reducible refine bS2o ?_ ?_) | omega)); done))
  obtain ⟨c4, rfl, rfl, hc4, hW⟩ := hcut
  rename World => W4
  have K4 := Lib.hid (K.out.below hW)
  have h4 := Lib.hid hW
  have r4 := Lib.hid hc4
  clear hW hc4 HSX hAC hAF hb0 u0 u1 hl1 hl2 K
  have K := K4
  clear K4
  go_wp2_with fail
  obtain ⟨⟨u0, u1⟩, ⟨u2, u3⟩, hl1, hl2⟩ := K.out.cells
  clear u2 u3
  have hb0 : Below W4.heap.size W4 W4.drew := (Below.refl _ _).drew
  have HSX : Hid (∀ W, Below W4.heap.size W4 W → ((W.cell? ⟨B1, 0, none⟩ = some (.slice a1 3 k1) ∧ W.cell? ⟨B1, 1, none⟩ = some (.slice a2 3 k2)) ∧ Below W4.heap.size W4 W)) := Lib.hid (fun W h => ⟨⟨cellB u0 h, cellB u1 h⟩, h⟩)
  have hAC : ∀ (W : World) (o : Obj) (b j : Nat), b < W.heap.size → (W.alloc o).cell? ⟨b, j, none⟩ = W.cell? ⟨b, j, none⟩ := fun W o b j h => (below1 W o).cell (p := ⟨b, j, none⟩) h
  have hAF : ∀ (W : World) (o : Obj) (b j : Nat), b < W.heap.size → (W.alloc o).frozen? ⟨b, j, none⟩ = W.frozen? ⟨b, j, none⟩ := fun W o b j h => (below1 W o).frozen (p := ⟨b, j, none⟩) h
  go_cut [15, 16] (fun s3 s4 wx => ∃ c : Nat, s3 = .pointer (some ⟨c, 0, none⟩) ∧ s4 = .int .i64 2 ∧ (wx.cell? ⟨c, 0, none⟩ = some (.int .i64 0) ∧ wx.cell? ⟨c, 1, none⟩ = some (.int .i64 0)) ∧ Below W4.heap.size W4 wx)
  case first =>
    go_region_held3 (fun W => (W.cell? ⟨B1, 0, none⟩ = some (.slice a1 3 k1) ∧ W.cell? ⟨B1, 1, none⟩ = some (.slice a2 3 k2)) ∧ Below W4.heap.size W4 W)
      (((with_reducible refine HSX.out _ ?_); (repeat' (first | (with_reducible assumption) | (with_reducible refine Below.refl _ _) | (with_reducible refine Below.drew ?_) | (with_reducible refine bA ?_) | (with_reducible refine bS2o ?_ ?_) | omega))))
      (first | (go_at_call 44; (with_reducible refine (proof_any _ _ _ _ _).mono ?_); rintro e v2 ⟨rfl, hc2⟩; obtain ⟨hB2x, hz2x⟩ : Below W4.heap.size W4 v2 ∧ W4.heap.size ≤ v2.heap.size := bC2 (by (repeat' (first | (with_reducible assumption) | (with_reducible refine Below.refl _ _) | (with_reducible refine Below.drew ?_) | (with_reducible refine bA ?_) | (with_reducible refine bS2o ?_ ?_) | omega))) hc2; (try (have ka2 := n1 hc2; (try simp only [World.size_alloc] at ka2); obtain ⟨ka21, ka22, ⟨ka23, ka24⟩, ka25, ka26, ka27⟩ := q2 ka2)); (try (have kb2 := n1d hc2; (try simp only [World.size_alloc] at kb2); obtain ⟨kb21, kb22, ⟨kb23, kb24⟩, kb25, kb26, kb27⟩ := q2 kb2)); clear hc2) | (go_at_call 31; (with_reducible refine (c_proof2 (K.out.non.below ?_) (K.out.la.below ?_)).mono ?_); (repeat' (first | (with_reducible assumption) | (with_reducible refine Below.refl _ _) | (with_reducible refine Below.drew ?_) | (with_reducible refine bA ?_) | (with_reducible refine bS2o ?_ ?_) | omega)); rintro e v3 ⟨rfl, hc3⟩; obtain ⟨hB3x, hz3x⟩ : Below W4.heap.size W4 v3 ∧ W4.heap.size ≤ v3.heap.size := bC2 (by (repeat' (first | (with_reducible assumption) | (with_reducible refine Below.refl _ _) | (with_reducible refine Below.drew ?_) | (with_reducible refine bA ?_) | (with_reducible refine bS2o ?_ ?_) | omega))) hc3; (try (have ka3 := n1 hc3; (try simp only [World.size_alloc] at ka3); obtain ⟨ka31, ka32, ⟨ka33, ka34⟩, ka35, ka36, ka37⟩ := q2 ka3)); (try (have kb3 := n1d hc3; (try simp only [World.size_alloc] at kb3); obtain ⟨kb31, kb32, ⟨kb33, kb34⟩, kb35, kb36, kb37⟩ := q2 kb3)); (try (have kc3 := oldB ka2 hc3; (try simp only [World.size_alloc] at kc3); obtain ⟨kc31, kc32, ⟨kc33, kc34⟩, kc35, kc36, kc37⟩ := q2 kc3)); (try (have kd3 := oldB kb2 hc3; (try simp only [World.size_alloc] at kd3); obtain ⟨kd31, kd32, ⟨kd33, kd34⟩, kd35, kd36, kd37⟩ := q2 kd3)); clear hc3))
    all_goals (go_wp2_with fail; go_meet; refine ⟨_, rfl, rfl, ?_, ?_⟩)
    all_goals (go_split_ands; first | (with_reducible assumption) | (go_simp; done) | (simp [*]; done) | omega | (simp; omega) | ((repeat' (first | (with_reducible assumption) | (with_reducible refine Below.refl _ _) | (with_reducible refine Below.drew ?_) | (with_reducible refine bA ?_) | (with_reducible refine bS2o ?_ ?_) | omega)); done))
  obtain ⟨c5, rfl, rfl, hc5, hW⟩ := hcut
  rename World => W5
  have K5 := Lib.hid (K.out.below hW)
  have h5 := Lib.hid hW
  have r5 := Lib.hid hc5
  clear hW hc5 HSX hAC hAF hb0 u0 u1 hl1 hl2 K
  have K := K5
  clear K5
  rename_i hk
  exact hk _ _ (works_b w _ _ _ _ _ _ _ _ _ _ K.out _ _ _ _ _ _ (⟨cellB A3.out.1 (bC (bC (bC (bC h1.out h2.out) h3.out) h4.out) h5.out), cellB A3.out.2 (bC (bC (bC (bC h1.out h2.out) h3.out) h4.out) h5.out)⟩) (⟨cellB r1.out.1 (bC (bC (bC h2.out h3.out) h4.out) h5.out), cellB r1.out.2 (bC (bC (bC h2.out h3.out) h4.out) h5.out)⟩) (⟨cellB r2.out.1 (bC (bC h3.out h4.out) h5.out), cellB r2.out.2 (bC (bC h3.out h4.out) h5.out)⟩) (⟨cellB r3.out.1 (bC h4.out h5.out), cellB r3.out.2.1 (bC h4.out h5.out), cellB r3.out.2.2 (bC h4.out h5.out)⟩) (⟨cellB r4.out.1 h5.out, cellB r4.out.2 h5.out⟩) _ _ _ _ _ _ _ _ _ _ _ _ _ _ _ _ _ _ _ _ _ _ _ _ _ _ _ _ _ _ _ _ _ _ _ _ _ _ _ _ _ _ _ _ _ _ _ _ _ _ _ _ _ _ _ _ _ _ _ _ _ _ _ _ _ _ _ _ _ _ _ _ _ _ _ _ _ _ _ _ _ _ _ _ _ _ _ _ _ _ _ _ _ _ _ _ _ _ _ _ _ _ _ _ _ _ _ _ _ _ _ _ _ _ _ _ _ _ _ _ _ _ _ _ _ _ _ _ _ _ _ _ _ _ _ _ _ _ _ _ _ _ _ _ _ _ _ _ _ _ _ _ _ _ _ _ _ _ _ _ _ _ _ _ _ _ _ _ _ _ _ _ _ _ _ _ _ _ _ _ _ _ _ _ _ _ _ _ _ _ _ _ _ _ _ _ _ _ _ _ _ _ _ _ _ _ _ _ _ _ _ _ _ _ _ _ _ _ _ _ _ _ _ _ _ _ _ _ _ _ _ _ _ _ _ _ _)
end Go.Proofs.YtlhldkiggmlegaaDoor
