import Derived.Test.YtlhldkiggmlegaaDoorNw
namespace Go.Proofs.YtlhldkiggmlegaaDoor
open Go.RowKit Go.Shelf Go.Sort
attribute [local go_sem] Oper.semAt_some

set_option maxRecDepth 100000 in
set_option maxHeartbeats 40000000 in
theorem Works_any (w : World) (hN : NoneAt w) : Calls Tryd.prog 19 #[] w fun e w' => e = .returned (.bool true) ∧ Below w.heap.size w w' := by
  have HN := Lib.hid hN
  clear hN
  go_enter Tryd.func19, Tryd.ntmps19
  go_wp2_with fail
  refine (three_any _).mono ?_
  rintro e w1 ⟨v1, rfl, hL1, hb1⟩
  obtain ⟨va1, ve1, rfl, hA1, hE1⟩ := hL1
  obtain ⟨a1, k1, rfl⟩ := hA1.slice
  obtain ⟨a2, k2, rfl⟩ := hE1.slice
  have H1 := Lib.hid (show LogAt w1 (.agg #[.slice a1 threeD.at_.length k1, .slice a2 threeD.edges.length k2]) threeD from ⟨_, _, rfl, hA1, hE1⟩)
  have HB1 := Lib.hid hb1
  clear hA1 hE1 hb1
  go_wp2_with fail
  refine (two_any _).mono ?_
  rintro e w2 ⟨v2, rfl, hL2, hb2⟩
  obtain ⟨va2, ve2, rfl, hA2, hE2⟩ := hL2
  obtain ⟨a3, k3, rfl⟩ := hA2.slice
  obtain ⟨a4, k4, rfl⟩ := hE2.slice
  have H2 := Lib.hid (show LogAt w2 (.agg #[.slice a3 twoD.at_.length k3, .slice a4 twoD.edges.length k4]) twoD from ⟨_, _, rfl, hA2, hE2⟩)
  have HB2 := Lib.hid hb2
  have hz2 := hb2.size
  clear hA2 hE2 hb2
  simp only [show threeD.at_.length = 3 from rfl, show threeD.edges.length = 3 from rfl, show twoD.at_.length = 2 from rfl, show twoD.edges.length = 2 from rfl] at *
  go_wp2_with fail
  generalize hB : w2.heap.size = B1 at *
  have HZ2 := Lib.hid hB
  have K0 : Wk w B1 (B1 + 1) (.slice a1 3 k1) (.slice a2 3 k2) (.slice a3 2 k3) (.slice a4 2 k4) ((w2.alloc (.cells #[.slice a1 3 k1, .slice a2 3 k2] 25)).alloc (.cells #[.slice a3 2 k3, .slice a4 2 k4] 25)) := by
    have hA := below2 w2 (.cells #[.slice a1 3 k1, .slice a2 3 k2] 25) (.cells #[.slice a3 2 k3, .slice a4 2 k4] 25)
    have hW2 := HB1.out.trans (HB2.out.mono HB1.out.size)
    have x1 := (Blk.new w2 (.cells #[.slice a1 3 k1, .slice a2 3 k2] 25)).alloc (.cells #[.slice a3 2 k3, .slice a4 2 k4] 25)
    have x2 := Blk.new (w2.alloc (.cells #[.slice a1 3 k1, .slice a2 3 k2] 25)) (.cells #[.slice a3 2 k3, .slice a4 2 k4] 25)
    rw [World.size_alloc] at x2
    rw [hB] at x1 x2
    exact ⟨x1, x2, (H1.out.below HB2.out).below hA, H2.out.below hA, HN.out.below (hW2.trans (hA.mono hW2.size)), hW2.trans (hA.mono hW2.size)⟩
  clear hB hz2
  generalize (w2.alloc (.cells #[.slice a1 3 k1, .slice a2 3 k2] 25)).alloc (.cells #[.slice a3 2 k3, .slice a4 2 k4] 25) = W0 at *
  have K := Lib.hid K0
  clear K0 HB1 HB2 H1 H2 HN HZ2
  obtain ⟨⟨u0, u1⟩, ⟨u2, u3⟩, hl1, hl2⟩ := K.out.cells
  clear u2 u3
  have hb0 : Below W0.heap.size W0 W0.drew := (Below.refl _ _).drew
  have HSX : Hid (∀ W, Below W0.heap.size W0 W → ((W.cell? ⟨B1, 0, none⟩ = some (.slice a1 3 k1) ∧ W.cell? ⟨B1, 1, none⟩ = some (.slice a2 3 k2)) ∧ Below W0.heap.size W0 W)) := Lib.hid (fun W h => ⟨⟨cellB u0 h, cellB u1 h⟩, h⟩)
  have hAC : ∀ (W : World) (o : Obj) (b j : Nat), b < W.heap.size → (W.alloc o).cell? ⟨b, j, none⟩ = W.cell? ⟨b, j, none⟩ := fun W o b j h => (below1 W o).cell (p := ⟨b, j, none⟩) h
  have hAF : ∀ (W : World) (o : Obj) (b j : Nat), b < W.heap.size → (W.alloc o).frozen? ⟨b, j, none⟩ = W.frozen? ⟨b, j, none⟩ := fun W o b j h => (below1 W o).frozen (p := ⟨b, j, none⟩) h
  go_cut [3, 4] (fun s3 s4 wx => ∃ c : Nat, s3 = .pointer (some ⟨c, 0, none⟩) ∧ s4 = .int .i64 0 ∧ (wx.cell? ⟨c, 0, none⟩ = some (.int .i64 5) ∧ wx.cell? ⟨c, 1, none⟩ = some (.int .i64 2)) ∧ Below W0.heap.size W0 wx)
  case first =>
    go_region_held3 (fun W => (W.cell? ⟨B1, 0, none⟩ = some (.slice a1 3 k1) ∧ W.cell? ⟨B1, 1, none⟩ = some (.slice a2 3 k2)) ∧ Below W0.heap.size W0 W)
      (((with_reducible refine HSX.out _ ?_); (repeat' (first | (with_reducible assumption) | (with_reducible refine Below.refl _ _) | (with_reducible refine Below.drew ?_) | (with_reducible refine bA ?_) | (with_reducible refine bS2o ?_ ?_) | omega))))
      (first | (go_at_call 47; (with_reducible refine (line_any _ _ _ _).mono ?_); rintro e v2 ⟨rfl, hc2⟩; obtain ⟨hB2x, hz2x⟩ : Below W0.heap.size W0 v2 ∧ W0.heap.size ≤ v2.heap.size := bC2 (by (repeat' (first | (with_reducible assumption) | (with_reducible refine Below.refl _ _) | (with_reducible refine Below.drew ?_) | (with_reducible refine bA ?_) | (with_reducible refine bS2o ?_ ?_) | omega))) hc2; (try (have ka2 := n1 hc2; (try simp only [World.size_alloc] at ka2); obtain ⟨ka21, ka22, ⟨ka23, ka24⟩, ka25, ka26, ka27⟩ := q2 ka2)); (try (have kb2 := n1d hc2; (try simp only [World.size_alloc] at kb2); obtain ⟨kb21, kb22, ⟨kb23, kb24⟩, kb25, kb26, kb27⟩ := q2 kb2)); clear hc2) | (go_at_call 20; (with_reducible refine (c_core1 (K.out.la.below ?_)).mono ?_); (repeat' (first | (with_reducible assumption) | (with_reducible refine Below.refl _ _) | (with_reducible refine Below.drew ?_) | (with_reducible refine bA ?_) | (with_reducible refine bS2o ?_ ?_) | omega)); rintro e v3 ⟨rfl, hc3⟩; obtain ⟨hB3x, hz3x⟩ : Below W0.heap.size W0 v3 ∧ W0.heap.size ≤ v3.heap.size := bC2 (by (repeat' (first | (with_reducible assumption) | (with_reducible refine Below.refl _ _) | (with_reducible refine Below.drew ?_) | (with_reducible refine bA ?_) | (with_reducible refine bS2o ?_ ?_) | omega))) hc3; (try (have ka3 := n1 hc3; (try simp only [World.size_alloc] at ka3); obtain ⟨ka31, ka32, ⟨ka33, ka34⟩, ka35, ka36, ka37⟩ := q2 ka3)); (try (have kb3 := n1d hc3; (try simp only [World.size_alloc] at kb3); obtain ⟨kb31, kb32, ⟨kb33, kb34⟩, kb35, kb36, kb37⟩ := q2 kb3)); (try (have kc3 := oldB ka2 hc3; (try simp only [World.size_alloc] at kc3); obtain ⟨kc31, kc32, ⟨kc33, kc34⟩, kc35, kc36, kc37⟩ := q2 kc3)); (try (have kd3 := oldB kb2 hc3; (try simp only [World.size_alloc] at kd3); obtain ⟨kd31, kd32, ⟨kd33, kd34⟩, kd35, kd36, kd37⟩ := q2 kd3)); clear hc3))
    all_goals (go_wp2_with fail; go_meet; refine ⟨_, rfl, rfl, ?_, ?_⟩)
    all_goals (go_split_ands; first | (with_reducible assumption) | (go_simp; done) | (simp [*]; done) | omega | (simp; omega) | ((repeat' (first | (with_reducible assumption) | (with_reducible refine Below.refl _ _) | (with_reducible refine Below.drew ?_) | (with_reducible refine bA ?_) | (with_reducible refine bS2o ?_ ?_) | omega)); done))
  obtain ⟨c1, rfl, rfl, hc1, hW⟩ := hcut
  rename World => W1
  have K1 := Lib.hid (K.out.below hW)
  have h1 := Lib.hid hW
  have r1 := Lib.hid hc1
  clear hW hc1 HSX hAC hAF hb0 u0 u1 hl1 hl2 K
  have K := K1
  clear K1
  go_wp2_with fail
  obtain ⟨⟨u0, u1⟩, ⟨u2, u3⟩, hl1, hl2⟩ := K.out.cells
  clear u2 u3
  have hb0 : Below W1.heap.size W1 W1.drew := (Below.refl _ _).drew
  have HSX : Hid (∀ W, Below W1.heap.size W1 W → ((W.cell? ⟨B1, 0, none⟩ = some (.slice a1 3 k1) ∧ W.cell? ⟨B1, 1, none⟩ = some (.slice a2 3 k2)) ∧ Below W1.heap.size W1 W)) := Lib.hid (fun W h => ⟨⟨cellB u0 h, cellB u1 h⟩, h⟩)
  have hAC : ∀ (W : World) (o : Obj) (b j : Nat), b < W.heap.size → (W.alloc o).cell? ⟨b, j, none⟩ = W.cell? ⟨b, j, none⟩ := fun W o b j h => (below1 W o).cell (p := ⟨b, j, none⟩) h
  have hAF : ∀ (W : World) (o : Obj) (b j : Nat), b < W.heap.size → (W.alloc o).frozen? ⟨b, j, none⟩ = W.frozen? ⟨b, j, none⟩ := fun W o b j h => (below1 W o).frozen (p := ⟨b, j, none⟩) h
  go_cut [5, 6] (fun s3 s4 wx => ∃ c : Nat, s3 = .pointer (some ⟨c, 0, none⟩) ∧ s4 = .int .i64 3 ∧ (wx.cell? ⟨c, 0, none⟩ = some (.int .i64 0) ∧ wx.cell? ⟨c, 1, none⟩ = some (.int .i64 0)) ∧ Below W1.heap.size W1 wx)
  case first =>
    go_region_held3 (fun W => (W.cell? ⟨B1, 0, none⟩ = some (.slice a1 3 k1) ∧ W.cell? ⟨B1, 1, none⟩ = some (.slice a2 3 k2)) ∧ Below W1.heap.size W1 W)
      (((with_reducible refine HSX.out _ ?_); (repeat' (first | (with_reducible assumption) | (with_reducible refine Below.refl _ _) | (with_reducible refine Below.drew ?_) | (with_reducible refine bA ?_) | (with_reducible refine bS2o ?_ ?_) | omega))))
      (first | (go_at_call 47; (with_reducible refine (line_any _ _ _ _).mono ?_); rintro e v2 ⟨rfl, hc2⟩; obtain ⟨hB2x, hz2x⟩ : Below W1.heap.size W1 v2 ∧ W1.heap.size ≤ v2.heap.size := bC2 (by (repeat' (first | (with_reducible assumption) | (with_reducible refine Below.refl _ _) | (with_reducible refine Below.drew ?_) | (with_reducible refine bA ?_) | (with_reducible refine bS2o ?_ ?_) | omega))) hc2; (try (have ka2 := n1 hc2; (try simp only [World.size_alloc] at ka2); obtain ⟨ka21, ka22, ⟨ka23, ka24⟩, ka25, ka26, ka27⟩ := q2 ka2)); (try (have kb2 := n1d hc2; (try simp only [World.size_alloc] at kb2); obtain ⟨kb21, kb22, ⟨kb23, kb24⟩, kb25, kb26, kb27⟩ := q2 kb2)); clear hc2) | (go_at_call 20; (with_reducible refine (c_core2 (K.out.la.below ?_)).mono ?_); (repeat' (first | (with_reducible assumption) | (with_reducible refine Below.refl _ _) | (with_reducible refine Below.drew ?_) | (with_reducible refine bA ?_) | (with_reducible refine bS2o ?_ ?_) | omega)); rintro e v3 ⟨rfl, hc3⟩; obtain ⟨hB3x, hz3x⟩ : Below W1.heap.size W1 v3 ∧ W1.heap.size ≤ v3.heap.size := bC2 (by (repeat' (first | (with_reducible assumption) | (with_reducible refine Below.refl _ _) | (with_reducible refine Below.drew ?_) | (with_reducible refine bA ?_) | (with_reducible refine bS2o ?_ ?_) | omega))) hc3; (try (have ka3 := n1 hc3; (try simp only [World.size_alloc] at ka3); obtain ⟨ka31, ka32, ⟨ka33, ka34⟩, ka35, ka36, ka37⟩ := q2 ka3)); (try (have kb3 := n1d hc3; (try simp only [World.size_alloc] at kb3); obtain ⟨kb31, kb32, ⟨kb33, kb34⟩, kb35, kb36, kb37⟩ := q2 kb3)); (try (have kc3 := oldB ka2 hc3; (try simp only [World.size_alloc] at kc3); obtain ⟨kc31, kc32, ⟨kc33, kc34⟩, kc35, kc36, kc37⟩ := q2 kc3)); (try (have kd3 := oldB kb2 hc3; (try simp only [World.size_alloc] at kd3); obtain ⟨kd31, kd32, ⟨kd33, kd34⟩, kd35, kd36, kd37⟩ := q2 kd3)); clear hc3))
    all_goals (go_wp2_with fail; go_meet; refine ⟨_, rfl, rfl, ?_, ?_⟩)
    all_goals (go_split_ands; first | (with_reducible assumption) | (go_simp; done) | (simp [*]; done) | omega | (simp; omega) | ((repeat' (first | (with_reducible assumption) | (with_reducible refine Below.refl _ _) | (with_reducible refine Below.drew ?_) | (with_reducible refine bA ?_) | (with_reducible refine bS2o ?_ ?_) | omega)); done))
  obtain ⟨c2, rfl, rfl, hc2, hW⟩ := hcut
  rename World => W2
  have K2 := Lib.hid (K.out.below hW)
  have h2 := Lib.hid hW
  have r2 := Lib.hid hc2
  clear hW hc2 HSX hAC hAF hb0 u0 u1 hl1 hl2 K
  have K := K2
  clear K2
  rename_i hk
  exact hk _ _ (works_a w _ _ _ _ _ _ _ _ _ _ K.out _ (⟨cellB r1.out.1 h2.out, cellB r1.out.2 h2.out⟩) _ _ _ _ _ _ _ _ _ _ _ _ _ _ _ _ _ _ _ _ _ _ _ _ _ _ _ _ _ _ _ _ _ _ _ _ _ _ _ _ _ _ _ _ _ _ _ _ _ _ _ _ _ _ _ _ _ _ _ _ _ _ _ _ _ _ _ _ _ _ _ _ _ _ _ _ _ _ _ _ _ _ _ _ _ _ _ _ _ _ _ _ _ _ _ _ _ _ _ _ _ _ _ _ _ _ _ _ _ _ _ _ _ _ _ _ _ _ _ _ _ _ _ _ _ _ _ _ _ _ _ _ _ _ _ _ _ _ _ _ _ _ _ _ _ _ _ _ _ _ _ _ _ _ _ _ _ _ _ _ _ _ _ _ _ _ _ _ _ _ _ _ _ _ _ _ _ _ _ _ _ _ _ _ _ _ _ _ _ _ _ _ _ _ _ _ _ _ _ _ _ _ _ _ _ _ _ _ _ _ _ _ _ _ _ _ _ _ _ _ _ _ _ _ _ _ _ _ _ _ _ _ _ _ _ _ _ _ _ _ _ _ _ _ _ _ _)
end Go.Proofs.YtlhldkiggmlegaaDoor
