import Derived.Test.YtlhldkiggmlegaaDoorOr
import Derived.Test.YtlhldkiggmlegaaDoorNy
namespace Go.Proofs.YtlhldkiggmlegaaDoor
open Go.RowKit Go.Shelf Go.Sort
attribute [local go_sem] Oper.semAt_some

/-! ## The reference: Span -/
set_option maxRecDepth 100000 in
set_option maxHeartbeats 4000000 in
theorem rSpan_any (v : Value) (r : RoughD) (w : World) (hv : RoughAt w v r) (hs : r.small) :
    Calls Tryd.prog 38 #[v] w fun e w' => e = .returned (spanV r) ∧ Below w.heap.size w w' := by
  obtain ⟨va, vl, vh, rfl, h1, h2, h3⟩ := hv
  obtain ⟨a, cap, rfl⟩ := h1.slice
  obtain ⟨a', cap', rfl⟩ := h2.slice
  obtain ⟨a'', cap'', rfl⟩ := h3.slice
  have HV : Hid (RoughAt w (.agg #[.slice a r.at_.length cap, .slice a' r.low.length cap', .slice a'' r.high.length cap'']) r) := Lib.hid ⟨_, _, _, rfl, h1, h2, h3⟩
  have HS := Lib.hid hs
  clear h1 h2 h3 hs
  have bl := ((Blk.new w (.cells #[.slice a r.at_.length cap, .slice a' r.low.length cap', .slice a'' r.high.length cap''] 53)).alloc (.cells #[.int .i64 0, .int .i64 0] 31)).alloc (.cells #[.int .i64 0, .int .i64 0] 31)
  have br := (Blk.new (w.alloc (.cells #[.slice a r.at_.length cap, .slice a' r.low.length cap', .slice a'' r.high.length cap''] 53)) (.cells #[.int .i64 0, .int .i64 0] 31)).alloc (.cells #[.int .i64 0, .int .i64 0] 31)
  have bs := Blk.new ((w.alloc (.cells #[.slice a r.at_.length cap, .slice a' r.low.length cap', .slice a'' r.high.length cap''] 53)).alloc (.cells #[.int .i64 0, .int .i64 0] 31)) (.cells #[.int .i64 0, .int .i64 0] 31)
  have hB0 := below3 w (.cells #[.slice a r.at_.length cap, .slice a' r.low.length cap', .slice a'' r.high.length cap''] 53) (.cells #[.int .i64 0, .int .i64 0] 31) (.cells #[.int .i64 0, .int .i64 0] 31)
  simp only [World.size_alloc] at br bs
  have HBL := Lib.hid bl
  have HBR := Lib.hid br
  have HBS := Lib.hid bs
  have HB0 := Lib.hid hB0
  clear bl br bs hB0
  have HC := Lib.hid (fun W (h : Below w.heap.size w W) => rCheckRough_any _ r W (HV.out.below h) HS.out)
  go_enter Tryd.func38, Tryd.ntmps38
  go_wp2_with fail
  refine (HC.out _ HB0.out).mono ?_
  rintro e w1 ⟨rfl, hb1⟩
  have HB1 := Lib.hid (bC HB0.out hb1)
  have L1 := Lib.hid (HBL.out.below hb1)
  have R1 := Lib.hid (HBR.out.below hb1)
  have S1 := Lib.hid (HBS.out.below hb1)
  clear hb1
  by_cases h0 : roughErr r = 0
  · have ht : (roughErr r != 0) = false := by simp [h0]
    have H0 := Lib.hid h0
    have l0 := L1.out.cell 0
    have l1 := L1.out.cell 1
    have l2 := L1.out.cell 2
    simp at l0 l1 l2
    clear h0
    go_wp2_with fail
    refine wp_region_T 6 (fun W' => W'.cell? ⟨w.heap.size, 0, none⟩ = some (.slice a r.at_.length cap) ∧ W'.cell? ⟨w.heap.size, 1, none⟩ = some (.slice a' r.low.length cap') ∧ W'.cell? ⟨w.heap.size, 2, none⟩ = some (.slice a'' r.high.length cap'')) (by kernel_rfl) (by kernel_rfl) ⟨l0, l1, l2⟩ ?_
    intro inv hS
    refine wpAnyT_take inv (by kernel_rfl) (by omega) (i := 0) (v := .agg #[.slice a r.at_.length cap, .slice a' r.low.length cap', .slice a'' r.high.length cap'']) rfl (by kernel_rfl) (by kernel_rfl) (fun _ _ _ h => h) (Or.inl ⟨by kernel_rfl, ?_⟩) (by assumption) ?_
    · rintro W' ⟨s0, s1, s2⟩
      go_simp
    intro inv2
    clear inv
    have inv := inv2
    clear inv2
    simp only [Act.put, List.setIfInBounds_toArray]
    refine wpAnyT_take inv (by kernel_rfl) (by omega) (i := 3) (v := .agg #[.slice a r.at_.length cap, .slice a' r.low.length cap', .slice a'' r.high.length cap'']) rfl (by kernel_rfl) (by kernel_rfl) (fun _ _ _ h => h) (Or.inl ⟨by kernel_rfl, ?_⟩) (by assumption) ?_
    · rintro W' ⟨s0, s1, s2⟩
      go_simp
    intro inv2
    clear inv
    have inv := inv2
    clear inv2
    simp only [Act.put]
    refine wpAnyT_ready [1] (by kernel_rfl) (by simp) ?_
    refine AllReadyT.cons rfl (fun K hK => ?_) AllReadyT.nil
    go_simp
    refine (rTruth_any _ r false _ (HV.out.below HB1.out.drew) H0.out).mono ?_
    rintro e v1 ⟨u1, rfl, hT1, hc1⟩
    have hb1 : Below w1.heap.size w1 v1 := bC ((Below.refl w1.heap.size w1).drew) hc1
    obtain ⟨x1, y1, rfl, ha1, he1⟩ := hT1
    obtain ⟨p1, k1, rfl⟩ := ha1.slice
    obtain ⟨p1', k1', rfl⟩ := he1.slice
    have HT1 := Lib.hid (show LogAt v1 _ (narrow r) from ⟨_, _, rfl, ha1, he1⟩)
    clear ha1 he1
    refine hK.out _ _ (fun _ => ⟨cellB l0 hb1, cellB l1 hb1, cellB l2 hb1⟩) (fun _ => ?_)
    clear hK K
    refine wpAnyT_ready [2] (by kernel_rfl) (by simp) ?_
    refine AllReadyT.cons rfl (fun K hK => ?_) AllReadyT.nil
    go_simp
    refine (rBestOf_any _ (narrow r) _ HT1.out (narrow_fit H0.out)).mono ?_
    rintro e v2 ⟨rfl, hc2⟩
    have hb2 : Below w1.heap.size w1 v2 := bC hb1 hc2
    refine hK.out _ _ (fun _ => ⟨cellB l0 hb2, cellB l1 hb2, cellB l2 hb2⟩) (fun _ => ?_)
    clear hK K
    try simp only [Act.put]
    refine wpAnyT_ready [4] (by kernel_rfl) (by simp) ?_
    refine AllReadyT.cons rfl (fun K hK => ?_) AllReadyT.nil
    go_simp
    refine (rTruth_any _ r true _ (HV.out.below (bC HB1.out hb2)) H0.out).mono ?_
    rintro e v4 ⟨u4, rfl, hT4, hc4⟩
    have hb4 : Below w1.heap.size w1 v4 := bC hb2 hc4
    obtain ⟨x4, y4, rfl, ha4, he4⟩ := hT4
    obtain ⟨p4, k4, rfl⟩ := ha4.slice
    obtain ⟨p4', k4', rfl⟩ := he4.slice
    have HT4 := Lib.hid (show LogAt v4 _ (widest r) from ⟨_, _, rfl, ha4, he4⟩)
    clear ha4 he4
    refine hK.out _ _ (fun _ => ⟨cellB l0 hb4, cellB l1 hb4, cellB l2 hb4⟩) (fun _ => ?_)
    clear hK K
    refine wpAnyT_ready [5] (by kernel_rfl) (by simp) ?_
    refine AllReadyT.cons rfl (fun K hK => ?_) AllReadyT.nil
    go_simp
    refine (rBestOf_any _ (widest r) _ HT4.out (widest_fit H0.out)).mono ?_
    rintro e v5 ⟨rfl, hc5⟩
    have hb5 : Below w1.heap.size w1 v5 := bC hb4 hc5
    refine hK.out _ _ (fun _ => ⟨cellB l0 hb5, cellB l1 hb5, cellB l2 hb5⟩) (fun _ => ?_)
    clear hK K
    try simp only [Act.put]
    refine wpAnyT_chain (fuel := 3) rfl (by kernel_rfl) ?_
    simp only [List.drop_succ_cons, List.drop_zero]
    clear hS inv l0 l1 l2
    have hB := bC HB1.out hb5
    have p1 := R1.out.below hb5
    have p2 := S1.out.below hb5
    clear hb1 hb2 hb4 hb5 hc1 hc2 hc4 hc5
    have r0 := p1.cell 0
    have r1 := p1.cell 1
    have r2 := p2.cell 0
    have r3 := p2.cell 1
    have f0 := p1.frozen 0
    have f1 := p1.frozen 1
    have f2 := p2.frozen 0
    have f3 := p2.frozen 1
    have lt1 := p1.lt
    have lt2 := p2.lt
    simp at r0 r1 r2 r3
    obtain ⟨q, hq⟩ : ∃ q, bestV (narrow r) = q := ⟨_, rfl⟩
    obtain ⟨q', hq'⟩ : ∃ q', bestV (widest r) = q' := ⟨_, rfl⟩
    rw [hq, hq']
    have HQ := Lib.hid hq
    have HQ' := Lib.hid hq'
    clear hq hq'
    unfold qv
    go_wp2
    have U1 := (((p1.set (j := 0) (.int .i64 q.num)).set (j := 1) (.int .i64 q.den)).other (b := w.heap.size + 1 + 1) (j := 0) (by omega) (.int .i64 q'.num)).other (b := w.heap.size + 1 + 1) (j := 1) (by omega) (.int .i64 q'.den)
    have U2 := (((p2.other (b := w.heap.size + 1) (j := 0) (by omega) (.int .i64 q.num)).other (b := w.heap.size + 1) (j := 1) (by omega) (.int .i64 q.den)).set (j := 0) (.int .i64 q'.num)).set (j := 1) (.int .i64 q'.den)
    have v0 := U1.cell 0
    have v1 := U1.cell 1
    have v2 := U2.cell 0
    have v3 := U2.cell 1
    simp at v0 v1 v2 v3
    refine bodyPost_ret (v := .tuple #[qv q, qv q', .int .i64 0]) (by simp [results, Tryd.results38, go_sem, qv, v0, v1, v2, v3]) rfl ⟨?_, ?_⟩
    · rw [spanV, H0.out, if_pos rfl, if_pos rfl, HQ.out, HQ'.out]
    · exact (((hB.setCell (by simp <;> omega) _).setCell (by simp <;> omega) _).setCell (by simp <;> omega) _).setCell (by simp <;> omega) _
  · have ht : (roughErr r != 0) = true := by simp [h0]
    have HN := Lib.hid h0
    have l0 := L1.out.cell 0
    have l1 := L1.out.cell 1
    have l2 := L1.out.cell 2
    simp at l0 l1 l2
    clear h0
    go_wp2_with fail
    refine (HC.out _ HB1.out).mono ?_
    rintro e w3 ⟨rfl, hb3⟩
    have HB3 := Lib.hid (bC HB1.out hb3)
    have p1 := R1.out.below hb3
    have p2 := S1.out.below hb3
    clear hb3 l0 l1 l2
    have r0 := p1.cell 0
    have r1 := p1.cell 1
    have r2 := p2.cell 0
    have r3 := p2.cell 1
    have f0 := p1.frozen 0
    have f1 := p1.frozen 1
    have f2 := p2.frozen 0
    have f3 := p2.frozen 1
    have lt1 := p1.lt
    have lt2 := p2.lt
    simp at r0 r1 r2 r3
    go_wp2
    refine bodyPost_ret (v := .tuple #[zq, zq, .int .i64 (roughErr r)]) (by simp [results, Tryd.results38, go_sem, r0, r1, r2, r3]) rfl ⟨by rw [spanV, if_neg HN.out, if_neg HN.out], ?_⟩
    exact (((HB3.out.setCell (by simp <;> omega) _).setCell (by simp <;> omega) _).setCell (by simp <;> omega) _).setCell (by simp <;> omega) _
end Go.Proofs.YtlhldkiggmlegaaDoor
