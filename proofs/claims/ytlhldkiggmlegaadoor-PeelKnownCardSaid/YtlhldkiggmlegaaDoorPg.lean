import Derived.Test.YtlhldkiggmlegaaDoorPf
namespace Go.Proofs.YtlhldkiggmlegaaDoor
open Go.RowKit Go.Shelf Go.Sort
attribute [local go_sem] Oper.semAt_some

/-! ## PeelKnown from the eighth region on -/
noncomputable def known_bC : Code := dropSeq 7 ((Tryd.f17.body).getD .skip)
set_option maxRecDepth 1000000 in
set_option maxHeartbeats 40000000 in
theorem known_b (w W0 : World) (B1 : Nat) (a1 a2 a3 a4 : Option Addr) (k1 k2 k3 k4 : Nat) (hK : Wk w B1 (B1 + 1) (.slice a1 3 k1) (.slice a2 3 k2) (.slice a3 2 k3) (.slice a4 2 k4) W0) (c3 c5 c7 c9 c11 : Nat)
    (a3 : W0.cell? ⟨c3, 0, none⟩ = some (.int .i64 2) ∧ W0.cell? ⟨c3, 1, none⟩ = some (.int .i64 1))
    (a5 : W0.cell? ⟨c5, 0, none⟩ = some (.int .i64 0) ∧ W0.cell? ⟨c5, 1, none⟩ = some (.int .i64 1))
    (a7 : W0.cell? ⟨c7, 0, none⟩ = some (.int .i64 4) ∧ W0.cell? ⟨c7, 1, none⟩ = some (.int .i64 1))
    (a9 : W0.cell? ⟨c9, 0, none⟩ = some (.int .i64 7) ∧ W0.cell? ⟨c9, 1, none⟩ = some (.int .i64 2))
    (a11 : W0.cell? ⟨c11, 0, none⟩ = some (.int .i64 2) ∧ W0.cell? ⟨c11, 1, none⟩ = some (.int .i64 1))
    (u13 u14 u15 u16 u17 u18 u19 u20 u21 u22 u23 u24 u25 u26 u27 u28 u29 u30 u31 u32 u33 u34 u35 u36 u37 u38 u39 u40 u41 u42 u43 u44 u45 u46 u47 u48 u49 u50 u51 u52 u53 u54 u55 u56 u57 u58 u59 u60 u61 u62 u63 u64 u65 u66 u67 u68 u69 u70 u71 u72 u73 u74 u75 u76 u77 u78 u79 u80 u81 u82 u83 u84 u85 u86 u87 u88 u89 u90 u91 u92 u93 u94 u95 u96 u97 u98 u99 u100 u101 u102 u103 u104 u105 u106 u107 u108 u109 u110 u111 u112 u113 u114 u115 u116 u117 u118 u119 u120 u121 u122 u123 u124 u125 u126 u127 u128 u129 u130 u131 u132 u133 u134 u135 u136 u137 u138 u139 u140 u141 u142 u143 u144 u145 u146 u147 u148 u149 u150 u151 u152 u153 u154 u155 u156 u157 u158 u159 u160 u161 u162 u163 u164 u165 u166 : Value) :
    Code.wp Tryd.prog known_bC (bodyPost Tryd.prog Tryd.f17 fun e w' => e = .returned (.bool true) ∧ Below w.heap.size w w') ⟨#[.bool false, .pointer (some ⟨B1, 0, none⟩), .pointer (some ⟨B1 + 1, 0, none⟩), .pointer (some ⟨c3, 0, none⟩), .int .i64 0, .pointer (some ⟨c5, 0, none⟩), .int .i64 0, .pointer (some ⟨c7, 0, none⟩), .int .i64 0, .pointer (some ⟨c9, 0, none⟩), .int .i64 0, .pointer (some ⟨c11, 0, none⟩), .int .i64 0, u13, u14, u15, u16, u17, u18, u19, u20, u21, u22, u23, u24, u25, u26, u27, u28, u29, u30, u31, u32, u33, u34, u35, u36, u37, u38, u39, u40, u41, u42, u43, u44, u45, u46, u47, u48, u49, u50, u51, u52, u53, u54, u55, u56, u57, u58, u59, u60, u61, u62, u63, u64, u65, u66, u67, u68, u69, u70, u71, u72, u73, u74, u75, u76, u77, u78, u79, u80, u81, u82, u83, u84, u85, u86, u87, u88, u89, u90, u91, u92, u93, u94, u95, u96, u97, u98, u99, u100, u101, u102, u103, u104, u105, u106, u107, u108, u109, u110, u111, u112, u113, u114, u115, u116, u117, u118, u119, u120, u121, u122, u123, u124, u125, u126, u127, u128, u129, u130, u131, u132, u133, u134, u135, u136, u137, u138, u139, u140, u141, u142, u143, u144, u145, u146, u147, u148, u149, u150, u151, u152, u153, u154, u155, u156, u157, u158, u159, u160, u161, u162, u163, u164, u165, u166], []⟩ W0 := by
  have A3 := Lib.hid a3
  clear a3
  have A5 := Lib.hid a5
  clear a5
  have A7 := Lib.hid a7
  clear a7
  have A9 := Lib.hid a9
  clear a9
  have A11 := Lib.hid a11
  clear a11
  have K := Lib.hid hK
  clear hK
  conv => arg 2; whnf
  obtain ⟨⟨u0, u1⟩, ⟨u2, u3⟩, hl1, hl2⟩ := K.out.cells
  go_wp2_with fail
  clear u0 u1 u2 u3 hl1 hl2
  refine (k_heights1 K.out.la).mono ?_
  rintro e w1x ⟨rfl, hb⟩
  have K1 := K.out.below hb
  have hA1 : Below w1x.heap.size w1x w1x := Below.refl _ _
  obtain ⟨⟨u0, u1⟩, ⟨u2, u3⟩, hl1, hl2⟩ := K1.cells
  go_wp2_with fail
  clear u0 u1 u2 u3 hl1 hl2 
  have n0 := (Blk.new w1x (.cells #[.int .i64 2, .int .i64 1] 31)).alloc (.cells #[.int .i64 4, .int .i64 1] 31)
  have n1' := Blk.new (w1x.alloc (.cells #[.int .i64 2, .int .i64 1] 31)) (.cells #[.int .i64 4, .int .i64 1] 31)
  rw [World.size_alloc] at n1'
  have hA := below2 w1x (.cells #[.int .i64 2, .int .i64 1] 31) (.cells #[.int .i64 4, .int .i64 1] 31)
  generalize (w1x.alloc (.cells #[.int .i64 2, .int .i64 1] 31)).alloc (.cells #[.int .i64 4, .int .i64 1] 31) = W1 at *
  have h1 := Lib.hid (hb.trans (hA.mono hb.size))
  have K' := Lib.hid (K1.below hA)
  have r1 := Lib.hid (show W1.cell? ⟨w1x.heap.size, 0, none⟩ = some (.int .i64 2) ∧ W1.cell? ⟨w1x.heap.size, 1, none⟩ = some (.int .i64 1) from ⟨by rw [n0.cell]; rfl, by rw [n0.cell]; rfl⟩)
  have r1b := Lib.hid (show W1.cell? ⟨(w1x.heap.size + 1), 0, none⟩ = some (.int .i64 4) ∧ W1.cell? ⟨(w1x.heap.size + 1), 1, none⟩ = some (.int .i64 1) from ⟨by rw [n1'.cell]; rfl, by rw [n1'.cell]; rfl⟩)
  clear hb hA hA1 n0 K K1 n1'
  have K := K'
  clear K'
  refine (k_heights2 K.out.lb).mono ?_
  rintro e w2x ⟨rfl, hb⟩
  have K2 := K.out.below hb
  have hA2 : Below w2x.heap.size w2x w2x := Below.refl _ _
  obtain ⟨⟨u0, u1⟩, ⟨u2, u3⟩, hl1, hl2⟩ := K2.cells
  go_upto_region 9 with (fail)
  clear u0 u1 u2 u3 hl1 hl2 
  have n0 := (Blk.new w2x (.cells #[.int .i64 4, .int .i64 1] 31)).alloc (.cells #[.int .i64 8, .int .i64 1] 31)
  have n1' := Blk.new (w2x.alloc (.cells #[.int .i64 4, .int .i64 1] 31)) (.cells #[.int .i64 8, .int .i64 1] 31)
  rw [World.size_alloc] at n1'
  have hA := below2 w2x (.cells #[.int .i64 4, .int .i64 1] 31) (.cells #[.int .i64 8, .int .i64 1] 31)
  generalize (w2x.alloc (.cells #[.int .i64 4, .int .i64 1] 31)).alloc (.cells #[.int .i64 8, .int .i64 1] 31) = W2 at *
  have h2 := Lib.hid (hb.trans (hA.mono hb.size))
  have K' := Lib.hid (K2.below hA)
  have r2 := Lib.hid (show W2.cell? ⟨w2x.heap.size, 0, none⟩ = some (.int .i64 4) ∧ W2.cell? ⟨w2x.heap.size, 1, none⟩ = some (.int .i64 1) from ⟨by rw [n0.cell]; rfl, by rw [n0.cell]; rfl⟩)
  have r2b := Lib.hid (show W2.cell? ⟨(w2x.heap.size + 1), 0, none⟩ = some (.int .i64 8) ∧ W2.cell? ⟨(w2x.heap.size + 1), 1, none⟩ = some (.int .i64 1) from ⟨by rw [n1'.cell]; rfl, by rw [n1'.cell]; rfl⟩)
  clear hb hA hA2 n0 K K2 n1'
  have K := K'
  clear K'
  go_cut [19, 20] (fun s19 s20 wx => s19 = .int .i64 1 ∧ s20 = .int .i64 0 ∧ Below W2.heap.size W2 wx)
  case first =>
    obtain ⟨⟨u0, u1⟩, ⟨u2, u3⟩, hl1, hl2⟩ := K.out.cells
    go_wp2_with fail
    clear u0 u1 u2 u3 hl1 hl2
    refine (k_turns K.out.la).mono ?_
    rintro e wq ⟨rfl, hb⟩
    have hb2 := Lib.hid hb
    clear hb
    go_wp2_with fail
    go_meet
    exact ⟨rfl, rfl, hb2.out⟩
  obtain ⟨rfl, rfl, hW⟩ := hcut
  rename World => W3
  have K3 := Lib.hid (K.out.below hW)
  have h3 := Lib.hid hW
  clear hW K
  have K := K3
  clear K3
  rename_i hk
  exact hk _ _ (known_e w _ _ _ _ _ _ _ _ _ _ K.out _ _ _ _ _ _ _ _ _ (⟨cellB A3.out.1 (bC (bC h1.out h2.out) h3.out), cellB A3.out.2 (bC (bC h1.out h2.out) h3.out)⟩) (⟨cellB A5.out.1 (bC (bC h1.out h2.out) h3.out), cellB A5.out.2 (bC (bC h1.out h2.out) h3.out)⟩) (⟨cellB A7.out.1 (bC (bC h1.out h2.out) h3.out), cellB A7.out.2 (bC (bC h1.out h2.out) h3.out)⟩) (⟨cellB A9.out.1 (bC (bC h1.out h2.out) h3.out), cellB A9.out.2 (bC (bC h1.out h2.out) h3.out)⟩) (⟨cellB A11.out.1 (bC (bC h1.out h2.out) h3.out), cellB A11.out.2 (bC (bC h1.out h2.out) h3.out)⟩) (⟨cellB r1.out.1 (bC h2.out h3.out), cellB r1.out.2 (bC h2.out h3.out)⟩) (⟨cellB r1b.out.1 (bC h2.out h3.out), cellB r1b.out.2 (bC h2.out h3.out)⟩) (⟨cellB r2.out.1 h3.out, cellB r2.out.2 h3.out⟩) (⟨cellB r2b.out.1 h3.out, cellB r2b.out.2 h3.out⟩) _ _ _ _ _ _ _ _ _ _ _ _ _ _ _ _ _ _ _ _ _ _ _ _ _ _ _ _ _ _ _ _ _ _ _ _ _ _ _ _ _ _ _ _ _ _ _ _ _ _ _ _ _ _ _ _ _ _ _ _ _ _ _ _ _ _ _ _ _ _ _ _ _ _ _ _ _ _ _ _ _ _ _ _ _ _ _ _ _ _ _ _ _ _ _ _ _ _ _ _ _ _ _ _ _ _ _ _ _ _ _ _ _ _ _ _ _ _ _ _ _ _ _ _ _ _ _ _ _ _ _ _ _ _ _ _ _ _ _ _ _ _ _ _ _ _)
end Go.Proofs.YtlhldkiggmlegaaDoor
