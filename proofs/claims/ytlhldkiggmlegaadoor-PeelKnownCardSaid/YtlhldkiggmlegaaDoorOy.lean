import Derived.Test.YtlhldkiggmlegaaDoorPg
namespace Go.Proofs.YtlhldkiggmlegaaDoor
open Go.RowKit Go.Shelf Go.Sort
attribute [local go_sem] Oper.semAt_some

/-! ## PeelKnown from the fifth region on -/
noncomputable def known_aC : Code := dropSeq 4 ((Tryd.f17.body).getD .skip)
set_option maxRecDepth 1000000 in
set_option maxHeartbeats 40000000 in
theorem known_a (w W0 : World) (B1 : Nat) (a1 a2 a3 a4 : Option Addr) (k1 k2 k3 k4 : Nat) (hK : Wk w B1 (B1 + 1) (.slice a1 3 k1) (.slice a2 3 k2) (.slice a3 2 k3) (.slice a4 2 k4) W0) (c3 c5 : Nat)
    (a3 : W0.cell? ⟨c3, 0, none⟩ = some (.int .i64 2) ∧ W0.cell? ⟨c3, 1, none⟩ = some (.int .i64 1))
    (a5 : W0.cell? ⟨c5, 0, none⟩ = some (.int .i64 0) ∧ W0.cell? ⟨c5, 1, none⟩ = some (.int .i64 1))
    (u7 u8 u9 u10 u11 u12 u13 u14 u15 u16 u17 u18 u19 u20 u21 u22 u23 u24 u25 u26 u27 u28 u29 u30 u31 u32 u33 u34 u35 u36 u37 u38 u39 u40 u41 u42 u43 u44 u45 u46 u47 u48 u49 u50 u51 u52 u53 u54 u55 u56 u57 u58 u59 u60 u61 u62 u63 u64 u65 u66 u67 u68 u69 u70 u71 u72 u73 u74 u75 u76 u77 u78 u79 u80 u81 u82 u83 u84 u85 u86 u87 u88 u89 u90 u91 u92 u93 u94 u95 u96 u97 u98 u99 u100 u101 u102 u103 u104 u105 u106 u107 u108 u109 u110 u111 u112 u113 u114 u115 u116 u117 u118 u119 u120 u121 u122 u123 u124 u125 u126 u127 u128 u129 u130 u131 u132 u133 u134 u135 u136 u137 u138 u139 u140 u141 u142 u143 u144 u145 u146 u147 u148 u149 u150 u151 u152 u153 u154 u155 u156 u157 u158 u159 u160 u161 u162 u163 u164 u165 u166 : Value) :
    Code.wp Tryd.prog known_aC (bodyPost Tryd.prog Tryd.f17 fun e w' => e = .returned (.bool true) ∧ Below w.heap.size w w') ⟨#[.bool false, .pointer (some ⟨B1, 0, none⟩), .pointer (some ⟨B1 + 1, 0, none⟩), .pointer (some ⟨c3, 0, none⟩), .int .i64 0, .pointer (some ⟨c5, 0, none⟩), .int .i64 0, u7, u8, u9, u10, u11, u12, u13, u14, u15, u16, u17, u18, u19, u20, u21, u22, u23, u24, u25, u26, u27, u28, u29, u30, u31, u32, u33, u34, u35, u36, u37, u38, u39, u40, u41, u42, u43, u44, u45, u46, u47, u48, u49, u50, u51, u52, u53, u54, u55, u56, u57, u58, u59, u60, u61, u62, u63, u64, u65, u66, u67, u68, u69, u70, u71, u72, u73, u74, u75, u76, u77, u78, u79, u80, u81, u82, u83, u84, u85, u86, u87, u88, u89, u90, u91, u92, u93, u94, u95, u96, u97, u98, u99, u100, u101, u102, u103, u104, u105, u106, u107, u108, u109, u110, u111, u112, u113, u114, u115, u116, u117, u118, u119, u120, u121, u122, u123, u124, u125, u126, u127, u128, u129, u130, u131, u132, u133, u134, u135, u136, u137, u138, u139, u140, u141, u142, u143, u144, u145, u146, u147, u148, u149, u150, u151, u152, u153, u154, u155, u156, u157, u158, u159, u160, u161, u162, u163, u164, u165, u166], []⟩ W0 := by
  have A3 := Lib.hid a3
  clear a3
  have A5 := Lib.hid a5
  clear a5
  have K := Lib.hid hK
  clear hK
  conv => arg 2; whnf
  go_wp2_with fail
  obtain ⟨⟨u0, u1⟩, ⟨u2, u3⟩, hl1, hl2⟩ := K.out.cells
  clear u2 u3
  have hb0 : Below W0.heap.size W0 W0.drew := (Below.refl _ _).drew
  have HSX : Hid (∀ W, Below W0.heap.size W0 W → ((W.cell? ⟨B1, 0, none⟩ = some (.slice a1 3 k1) ∧ W.cell? ⟨B1, 1, none⟩ = some (.slice a2 3 k2)) ∧ Below W0.heap.size W0 W)) := Lib.hid (fun W h => ⟨⟨cellB u0 h, cellB u1 h⟩, h⟩)
  have hAC : ∀ (W : World) (o : Obj) (b j : Nat), b < W.heap.size → (W.alloc o).cell? ⟨b, j, none⟩ = W.cell? ⟨b, j, none⟩ := fun W o b j h => (below1 W o).cell (p := ⟨b, j, none⟩) h
  have hAF : ∀ (W : World) (o : Obj) (b j : Nat), b < W.heap.size → (W.alloc o).frozen? ⟨b, j, none⟩ = W.frozen? ⟨b, j, none⟩ := fun W o b j h => (below1 W o).frozen (p := ⟨b, j, none⟩) h
  go_cut [7, 8] (fun s3 s4 wx => ∃ c : Nat, s3 = .pointer (some ⟨c, 0, none⟩) ∧ s4 = .int .i64 0 ∧ (wx.cell? ⟨c, 0, none⟩ = some (.int .i64 4) ∧ wx.cell? ⟨c, 1, none⟩ = some (.int .i64 1)) ∧ Below W0.heap.size W0 wx)
  case first =>
    go_region_held3 (fun W => (W.cell? ⟨B1, 0, none⟩ = some (.slice a1 3 k1) ∧ W.cell? ⟨B1, 1, none⟩ = some (.slice a2 3 k2)) ∧ Below W0.heap.size W0 W)
      (((with_reducible refine HSX.out _ ?_); (repeat' (first | (with_reducible assumption) | (with_reducible refine Below.refl _ _) | (with_reducible refine Below.drew ?_) | (with_reducible refine bA ?_) | (with_reducible refine bS2o ?_ ?_) | omega))))
      (first | (go_at_call 44; (with_reducible refine (proof_any _ _ _ _ _).mono ?_); rintro e v2 ⟨rfl, hc2⟩; obtain ⟨hB2x, hz2x⟩ : Below W0.heap.size W0 v2 ∧ W0.heap.size ≤ v2.heap.size := bC2 (by (repeat' (first | (with_reducible assumption) | (with_reducible refine Below.refl _ _) | (with_reducible refine Below.drew ?_) | (with_reducible refine bA ?_) | (with_reducible refine bS2o ?_ ?_) | omega))) hc2; (try (have ka2 := n1 hc2; (try simp only [World.size_alloc] at ka2); obtain ⟨ka21, ka22, ⟨ka23, ka24⟩, ka25, ka26, ka27⟩ := q2 ka2)); (try (have kb2 := n1d hc2; (try simp only [World.size_alloc] at kb2); obtain ⟨kb21, kb22, ⟨kb23, kb24⟩, kb25, kb26, kb27⟩ := q2 kb2)); clear hc2) | (go_at_call 31; (with_reducible refine (k_proof1 (K.out.non.below ?_) (K.out.la.below ?_)).mono ?_); (repeat' (first | (with_reducible assumption) | (with_reducible refine Below.refl _ _) | (with_reducible refine Below.drew ?_) | (with_reducible refine bA ?_) | (with_reducible refine bS2o ?_ ?_) | omega)); rintro e v3 ⟨rfl, hc3⟩; obtain ⟨hB3x, hz3x⟩ : Below W0.heap.size W0 v3 ∧ W0.heap.size ≤ v3.heap.size := bC2 (by (repeat' (first | (with_reducible assumption) | (with_reducible refine Below.refl _ _) | (with_reducible refine Below.drew ?_) | (with_reducible refine bA ?_) | (with_reducible refine bS2o ?_ ?_) | omega))) hc3; (try (have ka3 := n1 hc3; (try simp only [World.size_alloc] at ka3); obtain ⟨ka31, ka32, ⟨ka33, ka34⟩, ka35, ka36, ka37⟩ := q2 ka3)); (try (have kb3 := n1d hc3; (try simp only [World.size_alloc] at kb3); obtain ⟨kb31, kb32, ⟨kb33, kb34⟩, kb35, kb36, kb37⟩ := q2 kb3)); (try (have kc3 := oldB ka2 hc3; (try simp only [World.size_alloc] at kc3); obtain ⟨kc31, kc32, ⟨kc33, kc34⟩, kc35, kc36, kc37⟩ := q2 kc3)); (try (have kd3 := oldB kb2 hc3; (try simp only [World.size_alloc] at kd3); obtain ⟨kd31, kd32, ⟨kd33, kd34⟩, kd35, kd36, kd37⟩ := q2 kd3)); clear hc3))
    all_goals (go_wp2_with fail; go_meet; refine ⟨_, rfl, rfl, ?_, ?_⟩)
    all_goals (go_split_ands; first | (with_reducible assumption) | (go_simp; done) | (simp [*]; done) | omega | (simp; omega) | ((repeat' (first | (with_reducible assumption) | (with_reducible refine Below.refl _ _) | (with_reducible refine Below.drew ?_) | (with_reducible refine bA ?_) | (with_reducible refine bS2o ?_ ?_) | omega)); done))
  obtain ⟨c1, rfl, rfl, hc1, hW⟩ := hcut
  rename World => W1
  have K1 := Lib.hid (K.out.below hW)
  have h1 := Lib.hid hW
  have r1 := Lib.hid hc1
  clear hW hc1 HSX hAC hAF hb0 u0 u1 hl1 hl2 K
  have K := K1
  clear K1
  go_wp2_with fail
  obtain ⟨⟨u0, u1⟩, ⟨u2, u3⟩, hl1, hl2⟩ := K.out.cells
  clear u2 u3
  have hb0 : Below W1.heap.size W1 W1.drew := (Below.refl _ _).drew
  have HSX : Hid (∀ W, Below W1.heap.size W1 W → ((W.cell? ⟨B1, 0, none⟩ = some (.slice a1 3 k1) ∧ W.cell? ⟨B1, 1, none⟩ = some (.slice a2 3 k2)) ∧ Below W1.heap.size W1 W)) := Lib.hid (fun W h => ⟨⟨cellB u0 h, cellB u1 h⟩, h⟩)
  have hAC : ∀ (W : World) (o : Obj) (b j : Nat), b < W.heap.size → (W.alloc o).cell? ⟨b, j, none⟩ = W.cell? ⟨b, j, none⟩ := fun W o b j h => (below1 W o).cell (p := ⟨b, j, none⟩) h
  have hAF : ∀ (W : World) (o : Obj) (b j : Nat), b < W.heap.size → (W.alloc o).frozen? ⟨b, j, none⟩ = W.frozen? ⟨b, j, none⟩ := fun W o b j h => (below1 W o).frozen (p := ⟨b, j, none⟩) h
  go_cut [9, 10] (fun s3 s4 wx => ∃ c : Nat, s3 = .pointer (some ⟨c, 0, none⟩) ∧ s4 = .int .i64 0 ∧ (wx.cell? ⟨c, 0, none⟩ = some (.int .i64 7) ∧ wx.cell? ⟨c, 1, none⟩ = some (.int .i64 2)) ∧ Below W1.heap.size W1 wx)
  case first =>
    go_region_held3 (fun W => (W.cell? ⟨B1, 0, none⟩ = some (.slice a1 3 k1) ∧ W.cell? ⟨B1, 1, none⟩ = some (.slice a2 3 k2)) ∧ Below W1.heap.size W1 W)
      (((with_reducible refine HSX.out _ ?_); (repeat' (first | (with_reducible assumption) | (with_reducible refine Below.refl _ _) | (with_reducible refine Below.drew ?_) | (with_reducible refine bA ?_) | (with_reducible refine bS2o ?_ ?_) | omega))))
      (first | (go_at_call 44; (with_reducible refine (proof_any _ _ _ _ _).mono ?_); rintro e v2 ⟨rfl, hc2⟩; obtain ⟨hB2x, hz2x⟩ : Below W1.heap.size W1 v2 ∧ W1.heap.size ≤ v2.heap.size := bC2 (by (repeat' (first | (with_reducible assumption) | (with_reducible refine Below.refl _ _) | (with_reducible refine Below.drew ?_) | (with_reducible refine bA ?_) | (with_reducible refine bS2o ?_ ?_) | omega))) hc2; (try (have ka2 := n1 hc2; (try simp only [World.size_alloc] at ka2); obtain ⟨ka21, ka22, ⟨ka23, ka24⟩, ka25, ka26, ka27⟩ := q2 ka2)); (try (have kb2 := n1d hc2; (try simp only [World.size_alloc] at kb2); obtain ⟨kb21, kb22, ⟨kb23, kb24⟩, kb25, kb26, kb27⟩ := q2 kb2)); clear hc2) | (go_at_call 31; (with_reducible refine (k_proof2 (K.out.non.below ?_) (K.out.la.below ?_)).mono ?_); (repeat' (first | (with_reducible assumption) | (with_reducible refine Below.refl _ _) | (with_reducible refine Below.drew ?_) | (with_reducible refine bA ?_) | (with_reducible refine bS2o ?_ ?_) | omega)); rintro e v3 ⟨rfl, hc3⟩; obtain ⟨hB3x, hz3x⟩ : Below W1.heap.size W1 v3 ∧ W1.heap.size ≤ v3.heap.size := bC2 (by (repeat' (first | (with_reducible assumption) | (with_reducible refine Below.refl _ _) | (with_reducible refine Below.drew ?_) | (with_reducible refine bA ?_) | (with_reducible refine bS2o ?_ ?_) | omega))) hc3; (try (have ka3 := n1 hc3; (try simp only [World.size_alloc] at ka3); obtain ⟨ka31, ka32, ⟨ka33, ka34⟩, ka35, ka36, ka37⟩ := q2 ka3)); (try (have kb3 := n1d hc3; (try simp only [World.size_alloc] at kb3); obtain ⟨kb31, kb32, ⟨kb33, kb34⟩, kb35, kb36, kb37⟩ := q2 kb3)); (try (have kc3 := oldB ka2 hc3; (try simp only [World.size_alloc] at kc3); obtain ⟨kc31, kc32, ⟨kc33, kc34⟩, kc35, kc36, kc37⟩ := q2 kc3)); (try (have kd3 := oldB kb2 hc3; (try simp only [World.size_alloc] at kd3); obtain ⟨kd31, kd32, ⟨kd33, kd34⟩, kd35, kd36, kd37⟩ := q2 kd3)); clear hc3))
    all_goals (go_wp2_with fail; go_meet; refine ⟨_, rfl, rfl, ?_, ?_⟩)
    all_goals (go_split_ands; first | (with_reducible assumption) | (go_simp; done) | (simp [*]; done) | omega | (simp; omega) | ((repeat' (first | (with_reducible assumption) | (with_reducible refine Below.refl _ _) | (with_reducible refine Below.drew ?_) | (with_reducible refine bA ?_) | (with_reducible refine bS2o ?_ ?_) | omega)); done))
  obtain ⟨c2, rfl, rfl, hc2, hW⟩ := hcut
  rename World => W2
  have K2 := Lib.hid (K.out.below hW)
  have h2 := Lib.hid hW
  have r2 := Lib.hid hc2
  clear hW hc2 HSX hAC hAF hb0 u0 u1 hl1 hl2 K
  have K := K2
  clear K2
  go_wp2_with fail
  obtain ⟨⟨u0, u1⟩, ⟨u2, u3⟩, hl1, hl2⟩ := K.out.cells
  clear u0 u1
  have hb0 : Below W2.heap.size W2 W2.drew := (Below.refl _ _).drew
  have HSX : Hid (∀ W, Below W2.heap.size W2 W → ((W.cell? ⟨B1 + 1, 0, none⟩ = some (.slice a3 2 k3) ∧ W.cell? ⟨B1 + 1, 1, none⟩ = some (.slice a4 2 k4)) ∧ Below W2.heap.size W2 W)) := Lib.hid (fun W h => ⟨⟨cellB u2 h, cellB u3 h⟩, h⟩)
  have hAC : ∀ (W : World) (o : Obj) (b j : Nat), b < W.heap.size → (W.alloc o).cell? ⟨b, j, none⟩ = W.cell? ⟨b, j, none⟩ := fun W o b j h => (below1 W o).cell (p := ⟨b, j, none⟩) h
  have hAF : ∀ (W : World) (o : Obj) (b j : Nat), b < W.heap.size → (W.alloc o).frozen? ⟨b, j, none⟩ = W.frozen? ⟨b, j, none⟩ := fun W o b j h => (below1 W o).frozen (p := ⟨b, j, none⟩) h
  go_cut [11, 12] (fun s3 s4 wx => ∃ c : Nat, s3 = .pointer (some ⟨c, 0, none⟩) ∧ s4 = .int .i64 0 ∧ (wx.cell? ⟨c, 0, none⟩ = some (.int .i64 2) ∧ wx.cell? ⟨c, 1, none⟩ = some (.int .i64 1)) ∧ Below W2.heap.size W2 wx)
  case first =>
    go_region_held3 (fun W => (W.cell? ⟨B1 + 1, 0, none⟩ = some (.slice a3 2 k3) ∧ W.cell? ⟨B1 + 1, 1, none⟩ = some (.slice a4 2 k4)) ∧ Below W2.heap.size W2 W)
      (((with_reducible refine HSX.out _ ?_); (repeat' (first | (with_reducible assumption) | (with_reducible refine Below.refl _ _) | (with_reducible refine Below.drew ?_) | (with_reducible refine bA ?_) | (with_reducible refine bS2o ?_ ?_) | omega))))
      (first | (go_at_call 44; (with_reducible refine (proof_any _ _ _ _ _).mono ?_); rintro e v2 ⟨rfl, hc2⟩; obtain ⟨hB2x, hz2x⟩ : Below W2.heap.size W2 v2 ∧ W2.heap.size ≤ v2.heap.size := bC2 (by (repeat' (first | (with_reducible assumption) | (with_reducible refine Below.refl _ _) | (with_reducible refine Below.drew ?_) | (with_reducible refine bA ?_) | (with_reducible refine bS2o ?_ ?_) | omega))) hc2; (try (have ka2 := n1 hc2; (try simp only [World.size_alloc] at ka2); obtain ⟨ka21, ka22, ⟨ka23, ka24⟩, ka25, ka26, ka27⟩ := q2 ka2)); (try (have kb2 := n1d hc2; (try simp only [World.size_alloc] at kb2); obtain ⟨kb21, kb22, ⟨kb23, kb24⟩, kb25, kb26, kb27⟩ := q2 kb2)); clear hc2) | (go_at_call 31; (with_reducible refine (k_proof3 (K.out.non.below ?_) (K.out.lb.below ?_)).mono ?_); (repeat' (first | (with_reducible assumption) | (with_reducible refine Below.refl _ _) | (with_reducible refine Below.drew ?_) | (with_reducible refine bA ?_) | (with_reducible refine bS2o ?_ ?_) | omega)); rintro e v3 ⟨rfl, hc3⟩; obtain ⟨hB3x, hz3x⟩ : Below W2.heap.size W2 v3 ∧ W2.heap.size ≤ v3.heap.size := bC2 (by (repeat' (first | (with_reducible assumption) | (with_reducible refine Below.refl _ _) | (with_reducible refine Below.drew ?_) | (with_reducible refine bA ?_) | (with_reducible refine bS2o ?_ ?_) | omega))) hc3; (try (have ka3 := n1 hc3; (try simp only [World.size_alloc] at ka3); obtain ⟨ka31, ka32, ⟨ka33, ka34⟩, ka35, ka36, ka37⟩ := q2 ka3)); (try (have kb3 := n1d hc3; (try simp only [World.size_alloc] at kb3); obtain ⟨kb31, kb32, ⟨kb33, kb34⟩, kb35, kb36, kb37⟩ := q2 kb3)); (try (have kc3 := oldB ka2 hc3; (try simp only [World.size_alloc] at kc3); obtain ⟨kc31, kc32, ⟨kc33, kc34⟩, kc35, kc36, kc37⟩ := q2 kc3)); (try (have kd3 := oldB kb2 hc3; (try simp only [World.size_alloc] at kd3); obtain ⟨kd31, kd32, ⟨kd33, kd34⟩, kd35, kd36, kd37⟩ := q2 kd3)); clear hc3))
    all_goals (go_wp2_with fail; go_meet; refine ⟨_, rfl, rfl, ?_, ?_⟩)
    all_goals (go_split_ands; first | (with_reducible assumption) | (go_simp; done) | (simp [*]; done) | omega | (simp; omega) | ((repeat' (first | (with_reducible assumption) | (with_reducible refine Below.refl _ _) | (with_reducible refine Below.drew ?_) | (with_reducible refine bA ?_) | (with_reducible refine bS2o ?_ ?_) | omega)); done))
  obtain ⟨c3, rfl, rfl, hc3, hW⟩ := hcut
  rename World => W3
  have K3 := Lib.hid (K.out.below hW)
  have h3 := Lib.hid hW
  have r3 := Lib.hid hc3
  clear hW hc3 HSX hAC hAF hb0 u2 u3 hl1 hl2 K
  have K := K3
  clear K3
  rename_i hk
  exact hk _ _ (known_b w _ _ _ _ _ _ _ _ _ _ K.out _ _ _ _ _ (⟨cellB A3.out.1 (bC (bC h1.out h2.out) h3.out), cellB A3.out.2 (bC (bC h1.out h2.out) h3.out)⟩) (⟨cellB A5.out.1 (bC (bC h1.out h2.out) h3.out), cellB A5.out.2 (bC (bC h1.out h2.out) h3.out)⟩) (⟨cellB r1.out.1 (bC h2.out h3.out), cellB r1.out.2 (bC h2.out h3.out)⟩) (⟨cellB r2.out.1 h3.out, cellB r2.out.2 h3.out⟩) (⟨r3.out.1, r3.out.2⟩) _ _ _ _ _ _ _ _ _ _ _ _ _ _ _ _ _ _ _ _ _ _ _ _ _ _ _ _ _ _ _ _ _ _ _ _ _ _ _ _ _ _ _ _ _ _ _ _ _ _ _ _ _ _ _ _ _ _ _ _ _ _ _ _ _ _ _ _ _ _ _ _ _ _ _ _ _ _ _ _ _ _ _ _ _ _ _ _ _ _ _ _ _ _ _ _ _ _ _ _ _ _ _ _ _ _ _ _ _ _ _ _ _ _ _ _ _ _ _ _ _ _ _ _ _ _ _ _ _ _ _ _ _ _ _ _ _ _ _ _ _ _ _ _ _ _ _ _ _ _ _ _ _ _)
end Go.Proofs.YtlhldkiggmlegaaDoor
