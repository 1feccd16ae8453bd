import Derived.Test.YtemcodfjjdbieaaSw
import Derived.Test.YtemcodfjjdbieaaSv
namespace Go.Proofs.Ytemcodfjjdbieaa
open Go.RowKit Go.Vat Go.Sort Go.Shelf
attribute [local go_sem] Oper.semAt_some

set_option maxRecDepth 1000000 in
set_option maxHeartbeats 40000000 in
theorem SteamKnown_any (w : World) : Calls Try.prog 16 #[] w fun e w' => e = .returned (.bool true) ∧ Below w.heap.size w w' := by
  go_enter Try.func16, Try.ntmps16
  go_wp2_with fail
  refine (five_any _).mono ?_
  rintro e z1 ⟨v1, rfl, hv1, hb1⟩
  have HV1 := Lib.hid hv1
  have HB1 := Lib.hid hb1
  clear hv1 hb1
  go_wp2_with fail
  refine (none_any _).mono ?_
  rintro e z2 ⟨v2, rfl, hv2, hb2⟩
  have hv1 := HV1.out.below hb2
  obtain ⟨sv, rfl, hi⟩ := hv1
  obtain ⟨sa, sc, rfl⟩ := hi.slice
  obtain ⟨nv, rfl, hj⟩ := hv2
  obtain ⟨na, nc, rfl⟩ := hj.slice
  have H1 := Lib.hid (show YardAt z2 (.agg #[.int .i64 2, .slice sa 5 sc]) fiveY from ⟨_, rfl, hi⟩)
  have H2 := Lib.hid (show YardAt z2 (.agg #[.int .i64 1, .slice na 0 nc]) noneY from ⟨_, rfl, hj⟩)
  simp only [show fiveY.load = 2 from rfl, show fiveY.logs.length = 5 from rfl, show noneY.load = 1 from rfl, show noneY.logs.length = 0 from rfl]
  have HB2 := Lib.hid (bC HB1.out hb2)
  clear hi hj hb2 HV1 HB1
  have hb3 := below2 z2 (.cells #[.int .i64 2, .slice sa 5 sc] 24) (.cells #[.int .i64 1, .slice na 0 nc] 24)
  have bb1 := (Blk.new z2 (.cells #[.int .i64 2, .slice sa 5 sc] 24)).alloc (.cells #[.int .i64 1, .slice na 0 nc] 24)
  have bb2 := Blk.new (z2.alloc (.cells #[.int .i64 2, .slice sa 5 sc] 24)) (.cells #[.int .i64 1, .slice na 0 nc] 24)
  rw [World.size_alloc] at bb2
  have KS : Hid (WkS w z2.heap.size (z2.heap.size + 1) sa sc na nc ((z2.alloc (.cells #[.int .i64 2, .slice sa 5 sc] 24)).alloc (.cells #[.int .i64 1, .slice na 0 nc] 24))) := Lib.hid ⟨bb1, bb2, H1.out.below hb3, H2.out.below hb3, bC HB2.out hb3⟩
  clear hb3 bb1 bb2 H1 H2 HB2
  go_wp2_with fail
  generalize hg : (z2.alloc (.cells #[.int .i64 2, .slice sa 5 sc] 24)).alloc (.cells #[.int .i64 1, .slice na 0 nc] 24) = W0 at *
  clear hg
  obtain ⟨B2, hB2⟩ : ∃ B2, z2.heap.size + 1 = B2 := ⟨_, rfl⟩
  rw [hB2] at KS ⊢
  clear hB2
  obtain ⟨B1, hB1⟩ : ∃ B1, z2.heap.size = B1 := ⟨_, rfl⟩
  rw [hB1] at KS ⊢
  clear hB1
  have c0 := KS.out.1.cell 0
  have c1 := KS.out.1.cell 1
  have c2 := KS.out.2.1.cell 0
  have c3 := KS.out.2.1.cell 1
  simp at c0 c1 c2 c3
  go_wp2_with fail
  refine (wp_region_T 8 (fun W' => W'.cell? ⟨B1, 0, none⟩ = some (.int .i64 2) ∧ W'.cell? ⟨B1, 1, none⟩ = some (.slice sa 5 sc)) (by kernel_rfl) (by kernel_rfl) ⟨c0, c1⟩ ?_)
  intro inv hS
  clear c0 c1 c2 c3
  have hb : Below W0.heap.size W0 W0.drew := (Below.refl _ _).drew
  generalize W0.drew = d1 at *
  replace KS := Lib.hid (KS.out.below hb)
  clear hb
  refine wpAnyT_take inv (by kernel_rfl) (by omega) (i := 0) (v := .agg #[.int .i64 2, .slice sa 5 sc]) rfl (by kernel_rfl) (by kernel_rfl) (fun _ _ _ h => h) (Or.inl ⟨by kernel_rfl, ?_⟩) (by assumption) ?_
  · rintro W' ⟨q0, q1⟩
    go_simp
  intro inv2
  clear inv
  have inv := inv2
  clear inv2
  simp only [Act.put, List.setIfInBounds_toArray]
  refine wpAnyT_ready [1] (by kernel_rfl) (by simp) ?_
  refine AllReadyT.cons rfl (fun K hK => ?_) AllReadyT.nil
  go_simp
  have hb := below1 d1 (.cells #[.int .i64 5, .int .i64 4, .int .i64 4, .int .i64 7, .int .i64 7] 2)
  have bl := Blk.new d1 (.cells #[.int .i64 5, .int .i64 4, .int .i64 4, .int .i64 7, .int .i64 7] 2)
  have HA := Lib.hid (show IntsAt (d1.alloc (.cells #[.int .i64 5, .int .i64 4, .int .i64 4, .int .i64 7, .int .i64 7] 2)) (.slice (some ⟨d1.heap.size, 0, none⟩) 5 5) [5, 4, 4, 7, 7] from IntsAt.of_blk (cap := 5) (l := [5, 4, 4, 7, 7]) bl)
  clear bl
  refine hK.out _ _ (fun _ => ⟨cellB hS.1 hb, cellB hS.2 hb⟩) (fun _ => ?_)
  replace inv := HeadM.step inv 1 (by kernel_rfl) (by omega)
  clear hK K
  try simp only [Act.put]
  replace hS := And.intro (cellB hS.1 hb) (cellB hS.2 hb)
  replace KS := Lib.hid (KS.out.below hb)
  clear hb
  generalize d1.alloc (.cells #[.int .i64 5, .int .i64 4, .int .i64 4, .int .i64 7, .int .i64 7] 2) = f2 at *
  generalize d1.heap.size = bb2 at *
  refine wpAnyT_ready [2] (by kernel_rfl) (by simp) ?_
  refine AllReadyT.cons rfl (fun K hK => ?_) AllReadyT.nil
  go_simp
  refine (longs_any _ _).mono ?_
  rintro e g3 ⟨rfl, rfl⟩
  refine hK.out _ _ (fun _ => hS) (fun _ => ?_)
  replace inv := HeadM.step inv 2 (by kernel_rfl) (by omega)
  clear hK K
  try simp only [Act.put]
  refine wpAnyT_ready [3] (by kernel_rfl) (by simp) ?_
  refine AllReadyT.cons rfl (fun K hK => ?_) AllReadyT.nil
  go_simp
  refine (CheckHours_ok (.agg #[.int .i64 2, .slice sa 5 sc]) _ fiveY [5, 4, 4, 7, 7] _ KS.out.2.2.1 five_ok HA.out).mono ?_
  rintro e g4 ⟨rfl, hb⟩
  rw [wv_h5.1, wv_h5.2]
  refine hK.out _ _ (fun _ => ⟨cellB hS.1 hb, cellB hS.2 hb⟩) (fun _ => ?_)
  replace inv := HeadM.step inv 3 (by kernel_rfl) (by omega)
  clear hK K
  try simp only [Act.put]
  replace hS := And.intro (cellB hS.1 hb) (cellB hS.2 hb)
  replace KS := Lib.hid (KS.out.below hb)
  replace HA := Lib.hid (HA.out.below hb)
  clear hb
  refine wpAnyT_take inv (by kernel_rfl) (by omega) (i := 4) (v := .tuple #[.int .i64 3, .int .i64 0]) rfl (by kernel_rfl) (by kernel_rfl) (fun _ _ _ h => h) (Or.inl ⟨by kernel_rfl, ?_⟩) (by assumption) ?_
  · rintro W' ⟨q0, q1⟩
    go_simp
  intro inv2
  clear inv
  have inv := inv2
  clear inv2
  simp only [Act.put]
  refine wpAnyT_take inv (by kernel_rfl) (by omega) (i := 5) (v := .int .i64 3) rfl (by kernel_rfl) (by kernel_rfl) (fun _ _ _ h => h) (Or.inl ⟨by kernel_rfl, ?_⟩) (by assumption) ?_
  · rintro W' ⟨q0, q1⟩
    go_simp
  intro inv2
  clear inv
  have inv := inv2
  clear inv2
  simp only [Act.put]
  refine wpAnyT_take inv (by kernel_rfl) (by omega) (i := 6) (v := .int .i64 0) rfl (by kernel_rfl) (by kernel_rfl) (fun _ _ _ h => h) (Or.inl ⟨by kernel_rfl, ?_⟩) (by assumption) ?_
  · rintro W' ⟨q0, q1⟩
    go_simp
  intro inv2
  clear inv
  have inv := inv2
  clear inv2
  simp only [Act.put]
  refine wpAnyT_take inv (by kernel_rfl) (by omega) (i := 7) (v := .int .i64 3) rfl (by kernel_rfl) (by kernel_rfl) (fun _ _ _ h => h) (Or.inl ⟨by kernel_rfl, ?_⟩) (by assumption) ?_
  · rintro W' ⟨q0, q1⟩
    go_simp
  intro inv2
  clear inv
  have inv := inv2
  clear inv2
  simp only [Act.put]
  refine wpAnyT_chain (fuel := 1) rfl (by kernel_rfl) ?_
  simp only [List.drop_succ_cons, List.drop_zero]
  clear inv hS
  clear HA
  have c0 := KS.out.1.cell 0
  have c1 := KS.out.1.cell 1
  have c2 := KS.out.2.1.cell 0
  have c3 := KS.out.2.1.cell 1
  simp at c0 c1 c2 c3
  go_wp2_with fail
  clear c0 c1 c2 c3
  refine (CheckHours_ok (.agg #[.int .i64 1, .slice na 0 nc]) _ noneY [] _ KS.out.2.2.2.1 none_ok (ints_nil _)).mono ?_
  rintro e y5 ⟨rfl, hb⟩
  replace KS := Lib.hid (KS.out.below hb)
  clear hb
  rw [wv_h6.1, wv_h6.2]
  have c0 := KS.out.1.cell 0
  have c1 := KS.out.1.cell 1
  have c2 := KS.out.2.1.cell 0
  have c3 := KS.out.2.1.cell 1
  simp at c0 c1 c2 c3
  go_wp2_with fail
  refine (wp_region_T 7 (fun W' => W'.cell? ⟨B1, 0, none⟩ = some (.int .i64 2) ∧ W'.cell? ⟨B1, 1, none⟩ = some (.slice sa 5 sc)) (by kernel_rfl) (by kernel_rfl) ⟨c0, c1⟩ ?_)
  intro inv hS
  clear c0 c1 c2 c3
  have hb : Below y5.heap.size y5 y5.drew := (Below.refl _ _).drew
  generalize y5.drew = d6 at *
  replace KS := Lib.hid (KS.out.below hb)
  clear hb
  refine wpAnyT_take inv (by kernel_rfl) (by omega) (i := 0) (v := .agg #[.int .i64 2, .slice sa 5 sc]) rfl (by kernel_rfl) (by kernel_rfl) (fun _ _ _ h => h) (Or.inl ⟨by kernel_rfl, ?_⟩) (by assumption) ?_
  · rintro W' ⟨q0, q1⟩
    go_simp
  intro inv2
  clear inv
  have inv := inv2
  clear inv2
  simp only [Act.put, List.setIfInBounds_toArray]
  refine wpAnyT_ready [1] (by kernel_rfl) (by simp) ?_
  refine AllReadyT.cons rfl (fun K hK => ?_) AllReadyT.nil
  go_simp
  refine (to_any 6 9 _).mono ?_
  rintro e g7 ⟨rfl, hb⟩
  refine hK.out _ _ (fun _ => ⟨cellB hS.1 hb, cellB hS.2 hb⟩) (fun _ => ?_)
  replace inv := HeadM.step inv 1 (by kernel_rfl) (by omega)
  clear hK K
  try simp only [Act.put]
  replace hS := And.intro (cellB hS.1 hb) (cellB hS.2 hb)
  replace KS := Lib.hid (KS.out.below hb)
  clear hb
  refine wpAnyT_ready [2] (by kernel_rfl) (by simp) ?_
  refine AllReadyT.cons rfl (fun K hK => ?_) AllReadyT.nil
  go_simp
  refine (Need_yes (.agg #[.int .i64 2, .slice sa 5 sc]) 6 9 fiveY _ KS.out.2.2.1 five_ok (by decide)).mono ?_
  rintro e g8 ⟨rfl, hb⟩
  rw [wv_need.2.1]
  refine hK.out _ _ (fun _ => ⟨cellB hS.1 hb, cellB hS.2 hb⟩) (fun _ => ?_)
  replace inv := HeadM.step inv 2 (by kernel_rfl) (by omega)
  clear hK K
  try simp only [Act.put]
  replace hS := And.intro (cellB hS.1 hb) (cellB hS.2 hb)
  replace KS := Lib.hid (KS.out.below hb)
  clear hb
  refine wpAnyT_take inv (by kernel_rfl) (by omega) (i := 3) (v := .tuple #[.int .i64 1, .int .i64 0]) rfl (by kernel_rfl) (by kernel_rfl) (fun _ _ _ h => h) (Or.inl ⟨by kernel_rfl, ?_⟩) (by assumption) ?_
  · rintro W' ⟨q0, q1⟩
    go_simp
  intro inv2
  clear inv
  have inv := inv2
  clear inv2
  simp only [Act.put]
  refine wpAnyT_take inv (by kernel_rfl) (by omega) (i := 4) (v := .int .i64 1) rfl (by kernel_rfl) (by kernel_rfl) (fun _ _ _ h => h) (Or.inl ⟨by kernel_rfl, ?_⟩) (by assumption) ?_
  · rintro W' ⟨q0, q1⟩
    go_simp
  intro inv2
  clear inv
  have inv := inv2
  clear inv2
  simp only [Act.put]
  refine wpAnyT_take inv (by kernel_rfl) (by omega) (i := 5) (v := .int .i64 0) rfl (by kernel_rfl) (by kernel_rfl) (fun _ _ _ h => h) (Or.inl ⟨by kernel_rfl, ?_⟩) (by assumption) ?_
  · rintro W' ⟨q0, q1⟩
    go_simp
  intro inv2
  clear inv
  have inv := inv2
  clear inv2
  simp only [Act.put]
  refine wpAnyT_take inv (by kernel_rfl) (by omega) (i := 6) (v := .int .i64 1) rfl (by kernel_rfl) (by kernel_rfl) (fun _ _ _ h => h) (Or.inl ⟨by kernel_rfl, ?_⟩) (by assumption) ?_
  · rintro W' ⟨q0, q1⟩
    go_simp
  intro inv2
  clear inv
  have inv := inv2
  clear inv2
  simp only [Act.put]
  refine wpAnyT_chain (fuel := 1) rfl (by kernel_rfl) ?_
  simp only [List.drop_succ_cons, List.drop_zero]
  clear inv hS
  have c0 := KS.out.1.cell 0
  have c1 := KS.out.1.cell 1
  have c2 := KS.out.2.1.cell 0
  have c3 := KS.out.2.1.cell 1
  simp at c0 c1 c2 c3
  go_wp2_with fail
  refine (wp_region_T 7 (fun W' => W'.cell? ⟨B1, 0, none⟩ = some (.int .i64 2) ∧ W'.cell? ⟨B1, 1, none⟩ = some (.slice sa 5 sc)) (by kernel_rfl) (by kernel_rfl) ⟨c0, c1⟩ ?_)
  intro inv hS
  clear c0 c1 c2 c3
  have hb : Below g8.heap.size g8 g8.drew := (Below.refl _ _).drew
  generalize g8.drew = d9 at *
  replace KS := Lib.hid (KS.out.below hb)
  clear hb
  refine wpAnyT_take inv (by kernel_rfl) (by omega) (i := 0) (v := .agg #[.int .i64 2, .slice sa 5 sc]) rfl (by kernel_rfl) (by kernel_rfl) (fun _ _ _ h => h) (Or.inl ⟨by kernel_rfl, ?_⟩) (by assumption) ?_
  · rintro W' ⟨q0, q1⟩
    go_simp
  intro inv2
  clear inv
  have inv := inv2
  clear inv2
  simp only [Act.put, List.setIfInBounds_toArray]
  refine wpAnyT_ready [1] (by kernel_rfl) (by simp) ?_
  refine AllReadyT.cons rfl (fun K hK => ?_) AllReadyT.nil
  go_simp
  refine (to_any 5 5 _).mono ?_
  rintro e g10 ⟨rfl, hb⟩
  refine hK.out _ _ (fun _ => ⟨cellB hS.1 hb, cellB hS.2 hb⟩) (fun _ => ?_)
  replace inv := HeadM.step inv 1 (by kernel_rfl) (by omega)
  clear hK K
  try simp only [Act.put]
  replace hS := And.intro (cellB hS.1 hb) (cellB hS.2 hb)
  replace KS := Lib.hid (KS.out.below hb)
  clear hb
  refine wpAnyT_ready [2] (by kernel_rfl) (by simp) ?_
  refine AllReadyT.cons rfl (fun K hK => ?_) AllReadyT.nil
  go_simp
  refine (Need_yes (.agg #[.int .i64 2, .slice sa 5 sc]) 5 5 fiveY _ KS.out.2.2.1 five_ok (by decide)).mono ?_
  rintro e g11 ⟨rfl, hb⟩
  rw [wv_need.2.2]
  refine hK.out _ _ (fun _ => ⟨cellB hS.1 hb, cellB hS.2 hb⟩) (fun _ => ?_)
  replace inv := HeadM.step inv 2 (by kernel_rfl) (by omega)
  clear hK K
  try simp only [Act.put]
  replace hS := And.intro (cellB hS.1 hb) (cellB hS.2 hb)
  replace KS := Lib.hid (KS.out.below hb)
  clear hb
  refine wpAnyT_take inv (by kernel_rfl) (by omega) (i := 3) (v := .tuple #[.int .i64 0, .int .i64 0]) rfl (by kernel_rfl) (by kernel_rfl) (fun _ _ _ h => h) (Or.inl ⟨by kernel_rfl, ?_⟩) (by assumption) ?_
  · rintro W' ⟨q0, q1⟩
    go_simp
  intro inv2
  clear inv
  have inv := inv2
  clear inv2
  simp only [Act.put]
  refine wpAnyT_take inv (by kernel_rfl) (by omega) (i := 4) (v := .int .i64 0) rfl (by kernel_rfl) (by kernel_rfl) (fun _ _ _ h => h) (Or.inl ⟨by kernel_rfl, ?_⟩) (by assumption) ?_
  · rintro W' ⟨q0, q1⟩
    go_simp
  intro inv2
  clear inv
  have inv := inv2
  clear inv2
  simp only [Act.put]
  refine wpAnyT_take inv (by kernel_rfl) (by omega) (i := 5) (v := .int .i64 0) rfl (by kernel_rfl) (by kernel_rfl) (fun _ _ _ h => h) (Or.inl ⟨by kernel_rfl, ?_⟩) (by assumption) ?_
  · rintro W' ⟨q0, q1⟩
    go_simp
  intro inv2
  clear inv
  have inv := inv2
  clear inv2
  simp only [Act.put]
  refine wpAnyT_take inv (by kernel_rfl) (by omega) (i := 6) (v := .int .i64 0) rfl (by kernel_rfl) (by kernel_rfl) (fun _ _ _ h => h) (Or.inl ⟨by kernel_rfl, ?_⟩) (by assumption) ?_
  · rintro W' ⟨q0, q1⟩
    go_simp
  intro inv2
  clear inv
  have inv := inv2
  clear inv2
  simp only [Act.put]
  refine wpAnyT_chain (fuel := 1) rfl (by kernel_rfl) ?_
  simp only [List.drop_succ_cons, List.drop_zero]
  clear inv hS
  have c0 := KS.out.1.cell 0
  have c1 := KS.out.1.cell 1
  have c2 := KS.out.2.1.cell 0
  have c3 := KS.out.2.1.cell 1
  simp at c0 c1 c2 c3
  go_wp2_with fail
  refine (wp_region_T 9 (fun W' => W'.cell? ⟨B1, 0, none⟩ = some (.int .i64 2) ∧ W'.cell? ⟨B1, 1, none⟩ = some (.slice sa 5 sc)) (by kernel_rfl) (by kernel_rfl) ⟨c0, c1⟩ ?_)
  intro inv hS
  clear c0 c1 c2 c3
  have hb : Below g11.heap.size g11 g11.drew := (Below.refl _ _).drew
  generalize g11.drew = d12 at *
  replace KS := Lib.hid (KS.out.below hb)
  clear hb
  refine wpAnyT_take inv (by kernel_rfl) (by omega) (i := 0) (v := .agg #[.int .i64 2, .slice sa 5 sc]) rfl (by kernel_rfl) (by kernel_rfl) (fun _ _ _ h => h) (Or.inl ⟨by kernel_rfl, ?_⟩) (by assumption) ?_
  · rintro W' ⟨q0, q1⟩
    go_simp
  intro inv2
  clear inv
  have inv := inv2
  clear inv2
  simp only [Act.put, List.setIfInBounds_toArray]
  refine wpAnyT_ready [1] (by kernel_rfl) (by simp) ?_
  refine AllReadyT.cons rfl (fun K hK => ?_) AllReadyT.nil
  go_simp
  refine (to_any 2 9 _).mono ?_
  rintro e g13 ⟨rfl, hb⟩
  refine hK.out _ _ (fun _ => ⟨cellB hS.1 hb, cellB hS.2 hb⟩) (fun _ => ?_)
  replace inv := HeadM.step inv 1 (by kernel_rfl) (by omega)
  clear hK K
  try simp only [Act.put]
  replace hS := And.intro (cellB hS.1 hb) (cellB hS.2 hb)
  replace KS := Lib.hid (KS.out.below hb)
  clear hb
  refine wpAnyT_ready [2] (by kernel_rfl) (by simp) ?_
  refine AllReadyT.cons rfl (fun K hK => ?_) AllReadyT.nil
  go_simp
  have hb := below1 g13 (.cells #[.int .i64 2, .int .i64 9] 27)
  have bl := Blk.new g13 (.cells #[.int .i64 2, .int .i64 9] 27)
  have HA := Lib.hid (show PairsAt (g13.alloc (.cells #[.int .i64 2, .int .i64 9] 27)) (.slice (some ⟨g13.heap.size, 0, none⟩) 1 1) [(2, 9)] from PairsAt.of_blk (cap := 1) (l := [(2, 9)]) bl)
  clear bl
  refine hK.out _ _ (fun _ => ⟨cellB hS.1 hb, cellB hS.2 hb⟩) (fun _ => ?_)
  replace inv := HeadM.step inv 2 (by kernel_rfl) (by omega)
  clear hK K
  try simp only [Act.put]
  replace hS := And.intro (cellB hS.1 hb) (cellB hS.2 hb)
  replace KS := Lib.hid (KS.out.below hb)
  clear hb
  generalize g13.alloc (.cells #[.int .i64 2, .int .i64 9] 27) = f14 at *
  generalize g13.heap.size = bb14 at *
  refine wpAnyT_ready [3] (by kernel_rfl) (by simp) ?_
  refine AllReadyT.cons rfl (fun K hK => ?_) AllReadyT.nil
  go_simp
  refine (ranges_any _ _).mono ?_
  rintro e g15 ⟨rfl, rfl⟩
  refine hK.out _ _ (fun _ => hS) (fun _ => ?_)
  replace inv := HeadM.step inv 3 (by kernel_rfl) (by omega)
  clear hK K
  try simp only [Act.put]
  refine wpAnyT_ready [4] (by kernel_rfl) (by simp) ?_
  refine AllReadyT.cons rfl (fun K hK => ?_) AllReadyT.nil
  go_simp
  refine (CheckProof_ok (.agg #[.int .i64 2, .slice sa 5 sc]) _ fiveY [(2, 9)] _ KS.out.2.2.1 five_ok HA.out (by decide)).mono ?_
  rintro e g16 ⟨rfl, hb⟩
  rw [wv_p3.1, wv_p3.2]
  refine hK.out _ _ (fun _ => ⟨cellB hS.1 hb, cellB hS.2 hb⟩) (fun _ => ?_)
  replace inv := HeadM.step inv 4 (by kernel_rfl) (by omega)
  clear hK K
  try simp only [Act.put]
  replace hS := And.intro (cellB hS.1 hb) (cellB hS.2 hb)
  replace KS := Lib.hid (KS.out.below hb)
  replace HA := Lib.hid (HA.out.below hb)
  clear hb
  refine wpAnyT_take inv (by kernel_rfl) (by omega) (i := 5) (v := .tuple #[.int .i64 3, .int .i64 0]) rfl (by kernel_rfl) (by kernel_rfl) (fun _ _ _ h => h) (Or.inl ⟨by kernel_rfl, ?_⟩) (by assumption) ?_
  · rintro W' ⟨q0, q1⟩
    go_simp
  intro inv2
  clear inv
  have inv := inv2
  clear inv2
  simp only [Act.put]
  refine wpAnyT_take inv (by kernel_rfl) (by omega) (i := 6) (v := .int .i64 3) rfl (by kernel_rfl) (by kernel_rfl) (fun _ _ _ h => h) (Or.inl ⟨by kernel_rfl, ?_⟩) (by assumption) ?_
  · rintro W' ⟨q0, q1⟩
    go_simp
  intro inv2
  clear inv
  have inv := inv2
  clear inv2
  simp only [Act.put]
  refine wpAnyT_take inv (by kernel_rfl) (by omega) (i := 7) (v := .int .i64 0) rfl (by kernel_rfl) (by kernel_rfl) (fun _ _ _ h => h) (Or.inl ⟨by kernel_rfl, ?_⟩) (by assumption) ?_
  · rintro W' ⟨q0, q1⟩
    go_simp
  intro inv2
  clear inv
  have inv := inv2
  clear inv2
  simp only [Act.put]
  refine wpAnyT_take inv (by kernel_rfl) (by omega) (i := 8) (v := .int .i64 3) rfl (by kernel_rfl) (by kernel_rfl) (fun _ _ _ h => h) (Or.inl ⟨by kernel_rfl, ?_⟩) (by assumption) ?_
  · rintro W' ⟨q0, q1⟩
    go_simp
  intro inv2
  clear inv
  have inv := inv2
  clear inv2
  simp only [Act.put]
  refine wpAnyT_chain (fuel := 1) rfl (by kernel_rfl) ?_
  simp only [List.drop_succ_cons, List.drop_zero]
  clear inv hS
  clear HA
  have c0 := KS.out.1.cell 0
  have c1 := KS.out.1.cell 1
  have c2 := KS.out.2.1.cell 0
  have c3 := KS.out.2.1.cell 1
  simp at c0 c1 c2 c3
  go_wp2_with fail
  clear c0 c1 c2 c3
  refine (CheckProof_ok (.agg #[.int .i64 2, .slice sa 5 sc]) _ fiveY [] _ KS.out.2.2.1 five_ok (pairs_nil _) (by decide)).mono ?_
  rintro e y17 ⟨rfl, hb⟩
  replace KS := Lib.hid (KS.out.below hb)
  clear hb
  rw [wv_p4.1, wv_p4.2]
  have c0 := KS.out.1.cell 0
  have c1 := KS.out.1.cell 1
  have c2 := KS.out.2.1.cell 0
  have c3 := KS.out.2.1.cell 1
  simp at c0 c1 c2 c3
  go_wp2_with fail
  clear c0 c1 c2 c3
  refine (Late_ok (.agg #[.int .i64 1, .slice na 0 nc]) noneY _ KS.out.2.2.2.1 none_ok).mono ?_
  rintro e y18 ⟨vv, rfl, hi, hb⟩
  replace KS := Lib.hid (KS.out.below hb)
  clear hb
  rw [wv_late0] at hi
  obtain ⟨la, lc, rfl⟩ := hi.slice
  have HL := Lib.hid (show IntsAt y18 (.slice la 0 lc) [] from hi)
  clear hi
  simp only [List.length_nil]
  have c0 := KS.out.1.cell 0
  have c1 := KS.out.1.cell 1
  have c2 := KS.out.2.1.cell 0
  have c3 := KS.out.2.1.cell 1
  simp at c0 c1 c2 c3
  go_wp2_with fail
  clear c0 c1 c2 c3
  refine (Keep_yes (.agg #[.int .i64 2, .slice sa 5 sc]) 1 fiveY _ KS.out.2.2.1 five_ok (by decide)).mono ?_
  rintro e y19 ⟨vv, rfl, hi, hb⟩
  replace KS := Lib.hid (KS.out.below hb)
  replace HL := Lib.hid (HL.out.below hb)
  clear hb
  rw [wv_keep1] at hi
  obtain ⟨ka, kc, rfl⟩ := hi.slice
  have HK1 := Lib.hid (show IntsAt y19 (.slice ka 2 kc) [0, 1] from hi)
  clear hi
  simp only [List.length_cons, List.length_map, Nat.reduceAdd, List.length_nil]
  have c0 := KS.out.1.cell 0
  have c1 := KS.out.1.cell 1
  have c2 := KS.out.2.1.cell 0
  have c3 := KS.out.2.1.cell 1
  simp at c0 c1 c2 c3
  go_wp2_with fail
  clear c0 c1 c2 c3
  refine (Keep_yes (.agg #[.int .i64 2, .slice sa 5 sc]) 3 fiveY _ KS.out.2.2.1 five_ok (by decide)).mono ?_
  rintro e y20 ⟨vv, rfl, hi, hb⟩
  replace KS := Lib.hid (KS.out.below hb)
  replace HL := Lib.hid (HL.out.below hb)
  replace HK1 := Lib.hid (HK1.out.below hb)
  clear hb
  rw [wv_keep3] at hi
  obtain ⟨kb, kd, rfl⟩ := hi.slice
  have HK3 := Lib.hid (show IntsAt y20 (.slice kb 5 kd) [0, 1, 2, 3, 4] from hi)
  clear hi
  simp only [List.length_cons, List.length_map, Nat.reduceAdd, List.length_nil]
  have c0 := KS.out.1.cell 0
  have c1 := KS.out.1.cell 1
  have c2 := KS.out.2.1.cell 0
  have c3 := KS.out.2.1.cell 1
  simp at c0 c1 c2 c3
  go_wp2_with fail
  clear c0 c1 c2 c3
  refine (Keep_yes (.agg #[.int .i64 2, .slice sa 5 sc]) 0 fiveY _ KS.out.2.2.1 five_ok (by decide)).mono ?_
  rintro e y21 ⟨vv, rfl, hi, hb⟩
  replace KS := Lib.hid (KS.out.below hb)
  replace HL := Lib.hid (HL.out.below hb)
  replace HK1 := Lib.hid (HK1.out.below hb)
  replace HK3 := Lib.hid (HK3.out.below hb)
  clear hb
  rw [wv_keep0] at hi
  obtain ⟨ke, kf, rfl⟩ := hi.slice
  have HK0 := Lib.hid (show IntsAt y21 (.slice ke 0 kf) [] from hi)
  clear hi
  simp only [List.length_map, List.length_nil]
  go_wp2_with fail
  have hb := below1 y21 (.cells #[.int .i64 0, .int .i64 1] 3)
  have bl := Blk.new y21 (.cells #[.int .i64 0, .int .i64 1] 3)
  have HA := Lib.hid (IntsAt.of_blk (cap := 2) (l := [0, 1]) bl)
  clear bl
  replace KS := Lib.hid (KS.out.below hb)
  replace HL := Lib.hid (HL.out.below hb)
  replace HK1 := Lib.hid (HK1.out.below hb)
  replace HK3 := Lib.hid (HK3.out.below hb)
  replace HK0 := Lib.hid (HK0.out.below hb)
  clear hb
  generalize y21.alloc (.cells #[.int .i64 0, .int .i64 1] 3) = f22 at *
  generalize y21.heap.size = bb22 at *
  refine (of_any _ _).mono ?_
  rintro e y23 ⟨rfl, rfl⟩
  go_wp2_with fail
  refine (Ints_any (.slice ka 2 kc) _ [0, 1] [0, 1] _ HK1.out HA.out (by decide)).mono ?_
  rintro e y24 ⟨rfl, hb⟩
  replace KS := Lib.hid (KS.out.below hb)
  replace HL := Lib.hid (HL.out.below hb)
  replace HK1 := Lib.hid (HK1.out.below hb)
  replace HK3 := Lib.hid (HK3.out.below hb)
  replace HK0 := Lib.hid (HK0.out.below hb)
  clear hb
  rw [show decide (([0, 1] : List Int) = [0, 1]) = true from rfl]
  clear HA
  go_wp2_with fail
  have hb := below1 y24 (.cells #[.int .i64 0, .int .i64 1, .int .i64 2, .int .i64 3, .int .i64 4] 3)
  have bl := Blk.new y24 (.cells #[.int .i64 0, .int .i64 1, .int .i64 2, .int .i64 3, .int .i64 4] 3)
  have HA := Lib.hid (IntsAt.of_blk (cap := 5) (l := [0, 1, 2, 3, 4]) bl)
  clear bl
  replace KS := Lib.hid (KS.out.below hb)
  replace HL := Lib.hid (HL.out.below hb)
  replace HK1 := Lib.hid (HK1.out.below hb)
  replace HK3 := Lib.hid (HK3.out.below hb)
  replace HK0 := Lib.hid (HK0.out.below hb)
  clear hb
  generalize y24.alloc (.cells #[.int .i64 0, .int .i64 1, .int .i64 2, .int .i64 3, .int .i64 4] 3) = f25 at *
  generalize y24.heap.size = bb25 at *
  refine (of_any _ _).mono ?_
  rintro e y26 ⟨rfl, rfl⟩
  go_wp2_with fail
  refine (Ints_any (.slice kb 5 kd) _ [0, 1, 2, 3, 4] [0, 1, 2, 3, 4] _ HK3.out HA.out (by decide)).mono ?_
  rintro e y27 ⟨rfl, hb⟩
  replace KS := Lib.hid (KS.out.below hb)
  replace HL := Lib.hid (HL.out.below hb)
  replace HK1 := Lib.hid (HK1.out.below hb)
  replace HK3 := Lib.hid (HK3.out.below hb)
  replace HK0 := Lib.hid (HK0.out.below hb)
  clear hb
  rw [show decide (([0, 1, 2, 3, 4] : List Int) = [0, 1, 2, 3, 4]) = true from rfl]
  clear HA
  have c0 := KS.out.1.cell 0
  have c1 := KS.out.1.cell 1
  have c2 := KS.out.2.1.cell 0
  have c3 := KS.out.2.1.cell 1
  simp at c0 c1 c2 c3
  go_wp2_with fail
  clear c0 c1 c2 c3
  refine (CheckYard_any (.agg #[.int .i64 1, .slice na 0 nc]) noneY _ KS.out.2.2.2.1 (by decide)).mono ?_
  rintro e y28 ⟨rfl, hb⟩
  replace KS := Lib.hid (KS.out.below hb)
  replace HL := Lib.hid (HL.out.below hb)
  replace HK1 := Lib.hid (HK1.out.below hb)
  replace HK3 := Lib.hid (HK3.out.below hb)
  replace HK0 := Lib.hid (HK0.out.below hb)
  clear hb
  rw [show yardErr noneY = 0 from yardErr_of none_ok]
  go_wp2_with fail
  refine (Works_any _).mono ?_
  rintro e y29 ⟨rfl, hb⟩
  replace KS := Lib.hid (KS.out.below hb)
  replace HL := Lib.hid (HL.out.below hb)
  replace HK1 := Lib.hid (HK1.out.below hb)
  replace HK3 := Lib.hid (HK3.out.below hb)
  replace HK0 := Lib.hid (HK0.out.below hb)
  clear hb
  go_wp2
  go_ret
  exact ⟨rfl, KS.out.2.2.2.2⟩
end Go.Proofs.Ytemcodfjjdbieaa
