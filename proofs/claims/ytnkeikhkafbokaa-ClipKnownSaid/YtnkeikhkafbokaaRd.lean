import Derived.Test.YtnkeikhkafbokaaRc
namespace Go.Proofs.Ytnkeikhkafbokaa
open Go.RowKit Go.Dag Go.Sort Go.Shelf
attribute [local go_sem] Oper.semAt_some

set_option maxRecDepth 1000000 in
set_option maxHeartbeats 40000000 in
theorem ClipKnown_any (w : World) : Calls Try.prog 15 #[] w fun e w' => e = .returned (.bool true) ∧ Below w.heap.size w w' := by
  go_enter Try.func15, Try.ntmps15
  go_wp2_with fail
  refine (ten_any _).mono ?_
  rintro e z1 ⟨v1, rfl, hv1, hb1⟩
  obtain ⟨sv, rfl, hi⟩ := hv1
  obtain ⟨sa, sc, rfl⟩ := hi.slice
  have H1 := Lib.hid (show RibAt z1 (.agg #[.int .i64 10, .slice sa 2 sc]) tenR from ⟨_, rfl, hi⟩)
  simp only [show tenR.len = 10 from rfl, show tenR.fs.length = 2 from rfl]
  have HB1 := Lib.hid hb1
  clear hi hb1
  go_wp2_with fail
  refine (three_any _).mono ?_
  rintro e z2 ⟨v2, rfl, hk2, hb2⟩
  obtain ⟨ka, kc, rfl⟩ := hk2.slice
  simp only [show threeK.length = 3 from rfl] at hk2 ⊢
  have HB2 := Lib.hid (bC HB1.out hb2)
  have H12 := Lib.hid (H1.out.below hb2)
  have hb3 := below1 z2 (.cells #[.int .i64 10, .slice sa 2 sc] 24)
  have KS : Hid (WkS w z2.heap.size sa sc ka kc (z2.alloc (.cells #[.int .i64 10, .slice sa 2 sc] 24))) := Lib.hid ⟨Blk.new _ _, H12.out.below hb3, hk2.below hb3, bC HB2.out hb3⟩
  clear hk2 hb2 hb3 HB1 H1 HB2 H12
  go_wp2_with fail
  generalize hg : z2.alloc (.cells #[.int .i64 10, .slice sa 2 sc] 24) = W0 at *
  clear hg
  obtain ⟨B1, hB1⟩ : ∃ B1, z2.heap.size = B1 := ⟨_, rfl⟩
  rw [hB1] at KS ⊢
  clear hB1
  have c0 := KS.out.1.cell 0
  have c1 := KS.out.1.cell 1
  simp at c0 c1
  go_wp2_with fail
  refine (wp_region_T 9 (fun W' => W'.cell? ⟨B1, 0, none⟩ = some (.int .i64 10) ∧ W'.cell? ⟨B1, 1, none⟩ = some (.slice sa 2 sc)) (by kernel_rfl) (by kernel_rfl) ⟨c0, c1⟩ ?_)
  intro inv hS
  clear c0 c1
  have hb : Below W0.heap.size W0 W0.drew := (Below.refl _ _).drew
  generalize W0.drew = d2 at *
  replace KS := Lib.hid (KS.out.below hb)
  clear hb
  refine wpAnyT_take inv (by kernel_rfl) (by omega) (i := 0) (v := .agg #[.int .i64 10, .slice sa 2 sc]) rfl (by kernel_rfl) (by kernel_rfl) (fun _ _ _ h => h) (Or.inl ⟨by kernel_rfl, ?_⟩) (by assumption) ?_
  · rintro W' ⟨q0, q1⟩
    go_simp
  intro inv2
  clear inv
  have inv := inv2
  clear inv2
  simp only [Act.put, List.setIfInBounds_toArray]
  refine wpAnyT_take inv (by kernel_rfl) (by omega) (i := 1) (v := .slice ka 3 kc) rfl (by kernel_rfl) (by kernel_rfl) (fun _ _ _ h => h) (Or.inl ⟨by kernel_rfl, ?_⟩) (by assumption) ?_
  · rintro W' ⟨q0, q1⟩
    go_simp
  intro inv2
  clear inv
  have inv := inv2
  clear inv2
  simp only [Act.put]
  refine wpAnyT_ready [2] (by kernel_rfl) (by simp) ?_
  refine AllReadyT.cons rfl (fun K hK => ?_) AllReadyT.nil
  go_simp
  have hb := below1 d2 (.cells #[.int .i64 8, .int .i64 2] 3)
  have bl := Blk.new d2 (.cells #[.int .i64 8, .int .i64 2] 3)
  refine hK.out _ _ (fun _ => ⟨cellB hS.1 hb, cellB hS.2 hb⟩) (fun _ => ?_)
  replace inv := HeadM.step inv 2 (by kernel_rfl) (by omega)
  clear hK K
  try simp only [Act.put]
  replace hS := And.intro (cellB hS.1 hb) (cellB hS.2 hb)
  have HA := Lib.hid (IntsAt.of_blk (cap := 2) (l := [8, 2]) bl)
  replace KS := Lib.hid (KS.out.below hb)
  clear hb
  generalize hg : d2.alloc (.cells #[.int .i64 8, .int .i64 2] 3) = f2 at *
  clear hg bl
  refine wpAnyT_ready [3] (by kernel_rfl) (by simp) ?_
  refine AllReadyT.cons rfl (fun K hK => ?_) AllReadyT.nil
  go_simp
  refine (shts_any _ [8, 2] 1 _ HA.out rfl (by omega)).mono ?_
  rintro e g2 ⟨vs, rfl, hp, hb⟩
  have hsl := hp.slice
  rw [show pairsOf [8, 2] 1 = [(8, 2)] from rfl] at hp
  obtain ⟨xa, xc, rfl⟩ := hp.slice
  simp only [List.length_cons, List.length_nil, Nat.reduceAdd] at hp ⊢
  have HG := Lib.hid hp
  clear hp hsl
  refine hK.out _ _ (fun _ => ⟨cellB hS.1 hb, cellB hS.2 hb⟩) (fun _ => ?_)
  replace inv := HeadM.step inv 3 (by kernel_rfl) (by omega)
  clear hK K
  try simp only [Act.put]
  replace hS := And.intro (cellB hS.1 hb) (cellB hS.2 hb)
  replace KS := Lib.hid (KS.out.below hb)
  clear hb
  refine wpAnyT_ready [4] (by kernel_rfl) (by simp) ?_
  refine AllReadyT.cons rfl (fun K hK => ?_) AllReadyT.nil
  go_simp
  refine (CheckCuts_ok (.agg #[.int .i64 10, .slice sa 2 sc]) (.slice ka 3 kc) tenR threeK _ [(8, 2)] _ KS.out.2.1 KS.out.2.2.1 HG.out (by decide) ten_ok.1 ten_ok.2).mono ?_
  rintro e y2 ⟨rfl, hb⟩
  rw [wv14.1, wv14.2]
  refine hK.out _ _ (fun _ => ⟨cellB hS.1 hb, cellB hS.2 hb⟩) (fun _ => ?_)
  replace inv := HeadM.step inv 4 (by kernel_rfl) (by omega)
  clear hK K
  try simp only [Act.put]
  replace hS := And.intro (cellB hS.1 hb) (cellB hS.2 hb)
  replace KS := Lib.hid (KS.out.below hb)
  clear hb
  refine wpAnyT_take inv (by kernel_rfl) (by omega) (i := 5) (v := .tuple #[.int .i64 0, .int .i64 18]) rfl (by kernel_rfl) (by kernel_rfl) (fun _ _ _ h => h) (Or.inl ⟨by kernel_rfl, ?_⟩) (by assumption) ?_
  · rintro W' ⟨q0, q1⟩
    go_simp
  intro inv2
  clear inv
  have inv := inv2
  clear inv2
  simp only [Act.put]
  refine wpAnyT_take inv (by kernel_rfl) (by omega) (i := 6) (v := .int .i64 0) rfl (by kernel_rfl) (by kernel_rfl) (fun _ _ _ h => h) (Or.inl ⟨by kernel_rfl, ?_⟩) (by assumption) ?_
  · rintro W' ⟨q0, q1⟩
    go_simp
  intro inv2
  clear inv
  have inv := inv2
  clear inv2
  simp only [Act.put]
  refine wpAnyT_take inv (by kernel_rfl) (by omega) (i := 7) (v := .int .i64 18) rfl (by kernel_rfl) (by kernel_rfl) (fun _ _ _ h => h) (Or.inl ⟨by kernel_rfl, ?_⟩) (by assumption) ?_
  · rintro W' ⟨q0, q1⟩
    go_simp
  intro inv2
  clear inv
  have inv := inv2
  clear inv2
  simp only [Act.put]
  refine wpAnyT_take inv (by kernel_rfl) (by omega) (i := 8) (v := .int .i64 0) rfl (by kernel_rfl) (by kernel_rfl) (fun _ _ _ h => h) (Or.inl ⟨by kernel_rfl, ?_⟩) (by assumption) ?_
  · rintro W' ⟨q0, q1⟩
    go_simp
  intro inv2
  clear inv
  have inv := inv2
  clear inv2
  simp only [Act.put]
  refine wpAnyT_chain (fuel := 1) rfl (by kernel_rfl) ?_
  simp only [List.drop_succ_cons, List.drop_zero]
  clear inv hS HA HG
  have c0 := KS.out.1.cell 0
  have c1 := KS.out.1.cell 1
  simp at c0 c1
  go_wp2_with fail
  refine (wp_region_T 9 (fun W' => W'.cell? ⟨B1, 0, none⟩ = some (.int .i64 10) ∧ W'.cell? ⟨B1, 1, none⟩ = some (.slice sa 2 sc)) (by kernel_rfl) (by kernel_rfl) ⟨c0, c1⟩ ?_)
  intro inv hS
  clear c0 c1
  have hb : Below y2.heap.size y2 y2.drew := (Below.refl _ _).drew
  generalize y2.drew = d3 at *
  replace KS := Lib.hid (KS.out.below hb)
  clear hb
  refine wpAnyT_take inv (by kernel_rfl) (by omega) (i := 0) (v := .agg #[.int .i64 10, .slice sa 2 sc]) rfl (by kernel_rfl) (by kernel_rfl) (fun _ _ _ h => h) (Or.inl ⟨by kernel_rfl, ?_⟩) (by assumption) ?_
  · rintro W' ⟨q0, q1⟩
    go_simp
  intro inv2
  clear inv
  have inv := inv2
  clear inv2
  simp only [Act.put, List.setIfInBounds_toArray]
  refine wpAnyT_take inv (by kernel_rfl) (by omega) (i := 1) (v := .slice ka 3 kc) rfl (by kernel_rfl) (by kernel_rfl) (fun _ _ _ h => h) (Or.inl ⟨by kernel_rfl, ?_⟩) (by assumption) ?_
  · rintro W' ⟨q0, q1⟩
    go_simp
  intro inv2
  clear inv
  have inv := inv2
  clear inv2
  simp only [Act.put]
  refine wpAnyT_ready [2] (by kernel_rfl) (by simp) ?_
  refine AllReadyT.cons rfl (fun K hK => ?_) AllReadyT.nil
  go_simp
  have hb := below1 d3 (.cells #[.int .i64 3, .int .i64 3, .int .i64 3, .int .i64 3, .int .i64 3, .int .i64 3, .int .i64 3, .int .i64 3, .int .i64 3, .int .i64 3] 2)
  have bl := Blk.new d3 (.cells #[.int .i64 3, .int .i64 3, .int .i64 3, .int .i64 3, .int .i64 3, .int .i64 3, .int .i64 3, .int .i64 3, .int .i64 3, .int .i64 3] 2)
  refine hK.out _ _ (fun _ => ⟨cellB hS.1 hb, cellB hS.2 hb⟩) (fun _ => ?_)
  replace inv := HeadM.step inv 2 (by kernel_rfl) (by omega)
  clear hK K
  try simp only [Act.put]
  replace hS := And.intro (cellB hS.1 hb) (cellB hS.2 hb)
  have HA := Lib.hid (IntsAt.of_blk (cap := 10) (l := [3, 3, 3, 3, 3, 3, 3, 3, 3, 3]) bl)
  replace KS := Lib.hid (KS.out.below hb)
  clear hb
  generalize hg : d3.alloc (.cells #[.int .i64 3, .int .i64 3, .int .i64 3, .int .i64 3, .int .i64 3, .int .i64 3, .int .i64 3, .int .i64 3, .int .i64 3, .int .i64 3] 2) = f3 at *
  clear hg bl
  refine wpAnyT_ready [3] (by kernel_rfl) (by simp) ?_
  refine AllReadyT.cons rfl (fun K hK => ?_) AllReadyT.nil
  go_simp
  refine (longs_any _ _).mono ?_
  rintro e g3 ⟨rfl, rfl⟩
  refine hK.out _ _ (fun _ => hS) (fun _ => ?_)
  replace inv := HeadM.step inv 3 (by kernel_rfl) (by omega)
  clear hK K
  try simp only [Act.put]
  refine wpAnyT_ready [4] (by kernel_rfl) (by simp) ?_
  refine AllReadyT.cons rfl (fun K hK => ?_) AllReadyT.nil
  go_simp
  refine (CheckPrices_ok (.agg #[.int .i64 10, .slice sa 2 sc]) (.slice ka 3 kc) tenR threeK _ [3, 3, 3, 3, 3, 3, 3, 3, 3, 3] _ KS.out.2.1 KS.out.2.2.1 HA.out (fun a n c e => by cases e; exact Nat.le_refl _) (by decide) ten_ok.1 ten_ok.2).mono ?_
  rintro e y3 ⟨rfl, hb⟩
  rw [wv15.1, wv15.2]
  refine hK.out _ _ (fun _ => ⟨cellB hS.1 hb, cellB hS.2 hb⟩) (fun _ => ?_)
  replace inv := HeadM.step inv 4 (by kernel_rfl) (by omega)
  clear hK K
  try simp only [Act.put]
  replace hS := And.intro (cellB hS.1 hb) (cellB hS.2 hb)
  replace KS := Lib.hid (KS.out.below hb)
  clear hb
  refine wpAnyT_take inv (by kernel_rfl) (by omega) (i := 5) (v := .tuple #[.int .i64 30, .int .i64 0]) rfl (by kernel_rfl) (by kernel_rfl) (fun _ _ _ h => h) (Or.inl ⟨by kernel_rfl, ?_⟩) (by assumption) ?_
  · rintro W' ⟨q0, q1⟩
    go_simp
  intro inv2
  clear inv
  have inv := inv2
  clear inv2
  simp only [Act.put]
  refine wpAnyT_take inv (by kernel_rfl) (by omega) (i := 6) (v := .int .i64 30) rfl (by kernel_rfl) (by kernel_rfl) (fun _ _ _ h => h) (Or.inl ⟨by kernel_rfl, ?_⟩) (by assumption) ?_
  · rintro W' ⟨q0, q1⟩
    go_simp
  intro inv2
  clear inv
  have inv := inv2
  clear inv2
  simp only [Act.put]
  refine wpAnyT_take inv (by kernel_rfl) (by omega) (i := 7) (v := .int .i64 0) rfl (by kernel_rfl) (by kernel_rfl) (fun _ _ _ h => h) (Or.inl ⟨by kernel_rfl, ?_⟩) (by assumption) ?_
  · rintro W' ⟨q0, q1⟩
    go_simp
  intro inv2
  clear inv
  have inv := inv2
  clear inv2
  simp only [Act.put]
  refine wpAnyT_take inv (by kernel_rfl) (by omega) (i := 8) (v := .int .i64 30) rfl (by kernel_rfl) (by kernel_rfl) (fun _ _ _ h => h) (Or.inl ⟨by kernel_rfl, ?_⟩) (by assumption) ?_
  · rintro W' ⟨q0, q1⟩
    go_simp
  intro inv2
  clear inv
  have inv := inv2
  clear inv2
  simp only [Act.put]
  refine wpAnyT_chain (fuel := 1) rfl (by kernel_rfl) ?_
  simp only [List.drop_succ_cons, List.drop_zero]
  clear inv hS HA
  have c0 := KS.out.1.cell 0
  have c1 := KS.out.1.cell 1
  simp at c0 c1
  go_wp2_with fail
  clear c0 c1
  refine (CheckCuts_ok (.agg #[.int .i64 10, .slice sa 2 sc]) (.slice ka 3 kc) tenR threeK (.slice none 0 0) [] _ KS.out.2.1 KS.out.2.2.1 ⟨none, 0, rfl, fun h => absurd rfl h⟩ (by decide) ten_ok.1 ten_ok.2).mono ?_
  rintro e y4 ⟨rfl, hb⟩
  replace KS := Lib.hid (KS.out.below hb)
  clear hb
  rw [wv16.1, wv16.2]
  have c0 := KS.out.1.cell 0
  have c1 := KS.out.1.cell 1
  simp at c0 c1
  go_wp2_with fail
  clear c0 c1
  refine (CheckRibbon_any (.agg #[.int .i64 10, .slice sa 2 sc]) tenR _ KS.out.2.1 (by decide)).mono ?_
  rintro e y5 ⟨rfl, hb⟩
  replace KS := Lib.hid (KS.out.below hb)
  clear hb
  rw [wv17.1]
  have c0 := KS.out.1.cell 0
  have c1 := KS.out.1.cell 1
  simp at c0 c1
  go_wp2_with fail
  clear c0 c1
  refine (CheckKinds_any (.slice ka 3 kc) threeK _ KS.out.2.2.1 (by decide)).mono ?_
  rintro e y6 ⟨rfl, hb⟩
  replace KS := Lib.hid (KS.out.below hb)
  clear hb
  rw [wv17.2.1]
  go_wp2_with fail
  have hb := below1 y6 (.cells #[.int .i64 2, .int .i64 1] 3)
  have bl := Blk.new y6 (.cells #[.int .i64 2, .int .i64 1] 3)
  have HA := Lib.hid (IntsAt.of_blk (cap := 2) (l := [2, 1]) bl)
  replace KS := Lib.hid (KS.out.below hb)
  clear hb
  obtain ⟨B6, hB6⟩ : ∃ B6, y6.heap.size = B6 := ⟨_, rfl⟩
  rw [hB6] at HA ⊢
  generalize hg : y6.alloc (.cells #[.int .i64 2, .int .i64 1] 3) = f6 at *
  clear hg bl hB6
  refine (of_any _ _).mono ?_
  rintro e f7 ⟨rfl, rfl⟩
  go_wp2_with fail
  refine (Ribbon_any 3 _ 2 2 _).mono ?_
  rintro e y8 ⟨rfl, hb⟩
  replace HA := Lib.hid (HA.out.below hb)
  replace KS := Lib.hid (KS.out.below hb)
  clear hb
  go_wp2_with fail
  refine (CheckRibbon_any (.agg #[.int .i64 3, .slice (some ⟨B6, 0, none⟩) 2 2]) ⟨3, [2, 1]⟩ _ ⟨_, rfl, HA.out⟩ (by decide)).mono ?_
  rintro e y9 ⟨rfl, hb⟩
  replace KS := Lib.hid (KS.out.below hb)
  clear hb
  rw [wv17.2.2]
  go_wp2_with fail
  refine (Works_any _).mono ?_
  rintro e y10 ⟨rfl, hb⟩
  replace KS := Lib.hid (KS.out.below hb)
  clear hb
  go_wp2
  go_ret
  exact ⟨rfl, KS.out.2.2.2⟩
end Go.Proofs.Ytnkeikhkafbokaa
