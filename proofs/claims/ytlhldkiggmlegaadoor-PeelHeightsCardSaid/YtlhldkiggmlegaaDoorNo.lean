import Derived.Test.YtlhldkiggmlegaaDoorNn
namespace Go.Proofs.YtlhldkiggmlegaaDoor
open Go.RowKit Go.Sort
attribute [local go_sem] Oper.semAt_some

/-! ## The narrowest truth and the widest one -/
def narE (r : RoughD) (k : Nat) : Int × Int := ((r.low.getD k (0, 0)).2, (r.high.getD k (0, 0)).1)
def widE (r : RoughD) (k : Nat) : Int × Int := ((r.low.getD k (0, 0)).1, (r.high.getD k (0, 0)).2)
def narrow (r : RoughD) : LogD := ⟨r.at_, (List.range r.at_.length).map (narE r)⟩
def widest (r : RoughD) : LogD := ⟨r.at_, (List.range r.at_.length).map (widE r)⟩
def spanV (r : RoughD) : Value :=
  .tuple #[if roughErr r = 0 then qv (bestV (narrow r)) else zq, if roughErr r = 0 then qv (bestV (widest r)) else zq, .int .i64 (roughErr r)]
theorem rough_fit {r : RoughD} (h : roughErr r = 0) : Fit r.at_ [r.low, r.high] ∧ ∀ k (h1 : k < r.low.length) (h2 : k < r.high.length), r.low[k].2 ≤ r.high[k].1 := by
  unfold roughErr at h
  by_cases h0 : placesErr r.at_ [r.low, r.high] = 0
  · rw [if_neg (by simp [h0])] at h
    refine ⟨placesErr_zero h0, fun k h1 h2 => ?_⟩
    by_cases hg : gapsOk r.low r.high = false
    · rw [if_pos hg] at h; omega
    · rcases Int.lt_or_le r.high[k].1 r.low[k].2 with hlt | hle
      · exact absurd (gaps_false h1 h2 hlt) hg
      · exact hle
  · rw [if_pos h0] at h
    exact absurd h h0
theorem fit_edges {l : List Int} {ls : List (List (Int × Int))} (h : Fit l ls) {f : Nat → Int × Int} (hf : ∀ k, k < l.length → -1000 ≤ (f k).1 ∧ (f k).1 ≤ (f k).2 ∧ (f k).2 ≤ 1000) : Fit l [(List.range l.length).map f] := by
  refine ⟨h.two, h.eight, fun x hx => by rw [List.mem_singleton.1 hx]; simp, h.ats, fun x hx => ?_, h.strict⟩
  rw [List.mem_singleton.1 hx]
  unfold okEdges
  rw [List.all_eq_true]
  intro p hp
  obtain ⟨k, hk, rfl⟩ := List.mem_map.1 hp
  exact (okEdge_iff _ _).2 (hf k (List.mem_range.1 hk))
theorem rough_edges {r : RoughD} (h : roughErr r = 0) {k : Nat} (hk : k < r.at_.length) : (-1000 ≤ (narE r k).1 ∧ (narE r k).1 ≤ (narE r k).2 ∧ (narE r k).2 ≤ 1000) ∧ (-1000 ≤ (widE r k).1 ∧ (widE r k).1 ≤ (widE r k).2 ∧ (widE r k).2 ≤ 1000) := by
  obtain ⟨hf, hg⟩ := rough_fit h
  have l1 := hf.lens r.low (by simp)
  have l2 := hf.lens r.high (by simp)
  have k1 : k < r.low.length := by omega
  have k2 : k < r.high.length := by omega
  have y1 := okEdges_get (hf.edges r.low (by simp)) k k1
  have y2 := okEdges_get (hf.edges r.high (by simp)) k k2
  have y3 := hg k k1 k2
  have e1 : r.low.getD k (0, 0) = r.low[k] := by simp [k1]
  have e2 : r.high.getD k (0, 0) = r.high[k] := by simp [k2]
  unfold narE widE
  rw [e1, e2]
  omega
theorem narrow_fit {r : RoughD} (h : roughErr r = 0) : Fit (narrow r).at_ [(narrow r).edges] := fit_edges (rough_fit h).1 fun _ hk => (rough_edges h hk).1
theorem widest_fit {r : RoughD} (h : roughErr r = 0) : Fit (widest r).at_ [(widest r).edges] := fit_edges (rough_fit h).1 fun _ hk => (rough_edges h hk).2
theorem pairCells_snoc (l : List (Int × Int)) (p : Int × Int) : pairCells (l ++ [p]) = pairCells l ++ [.int .i64 p.1, .int .i64 p.2] := by simp [pairCells]
/-- A list of pairs, as the program holds it. -/
theorem Row.pairs {w : World} {v : Value} {l : List (Int × Int)} (h : Row w v l.length 2 (pairCells l)) : PairsAt w v l := by
  obtain ⟨h1, ⟨h2, h3⟩ | ⟨g, cap, cur, e, e1, e3, e4, e5, e6, e7⟩⟩ := h
  · exact ⟨none, 0, by rw [h2, h3], fun hn => absurd (List.length_eq_zero_iff.1 h3) hn⟩
  · refine ⟨some ⟨g, 0, none⟩, cap, e1, fun _ => ⟨g, 0, rfl, fun j hj => ?_⟩⟩
    obtain ⟨c1, c2⟩ := pairCells_get l j hj
    rw [← e7] at c1 c2
    rw [e3.cell, e3.cell, Nat.zero_add]
    simp only [List.getElem?_take, Array.getElem?_toList] at c1 c2
    rw [if_pos (by omega)] at c1 c2
    exact ⟨c1, c2⟩

theorem below_frLM {w w1 w' : World} {L M : Nat} (hb : Below w.heap.size w w1) (hL : w.heap.size ≤ L) (hM : w.heap.size ≤ M) (h : FrLM w1 L M w') : Below w.heap.size w w' :=
  ⟨h.os.trans hb.os, h.tape.trans hb.tape, h.output.trans hb.output, Nat.le_trans hb.size h.size, fun k hk => (h.same k (by have := hb.size; omega) (by omega) (by omega)).trans (hb.block k hk)⟩
theorem Blk.frLM {w W : World} {L M k : Nat} {o : Obj} (h : Blk w k o) (hF : FrLM w L M W) (hL : k ≠ L) (hM : k ≠ M) : Blk W k o := (hF.same k h.lt hL hM).trans h

set_option maxRecDepth 100000 in
set_option maxHeartbeats 2000000 in
theorem Span_any (v : Value) (r : RoughD) (w : World) (hv : RoughAt w v r) (hs : r.small) :
    Calls Tryd.prog 37 #[v] w fun e w' => e = .returned (spanV r) ∧ Below w.heap.size w w' := by
  obtain ⟨va, vl, vh, rfl, h1, h2, h3⟩ := hv
  obtain ⟨a, cap, rfl⟩ := h1.slice
  obtain ⟨a', cap', rfl⟩ := h2.slice
  obtain ⟨a'', cap'', rfl⟩ := h3.slice
  have H1 := Lib.hid h1
  have H2 := Lib.hid h2
  have H3 := Lib.hid h3
  have HS := Lib.hid hs
  clear h1 h2 h3 hs
  by_cases h0 : roughErr r = 0
  · have H0 := Lib.hid h0
    have HF := Lib.hid (rough_fit h0).1
    clear h0
    go_enter Tryd.func37, Tryd.ntmps37
    go_wp2_with fail
    refine (CheckRough_any _ r _ (RoughAt.below ⟨_, _, _, rfl, H1.out, H2.out, H3.out⟩ (below3 _ _ _ _)) HS.out).mono ?_
    rintro e w1 ⟨rfl, hb1⟩
    rw [H0.out]
    have hK1 : HBlk w w1 := by
      have q1 := ((Blk.new (w.alloc (.cells #[.slice a r.at_.length cap, .slice a' r.low.length cap', .slice a'' r.high.length cap''] 53)) (.cells #[.int .i64 0, .int .i64 0] 31)).alloc (.cells #[.int .i64 0, .int .i64 0] 31)).below hb1
      have q2 := (Blk.new ((w.alloc (.cells #[.slice a r.at_.length cap, .slice a' r.low.length cap', .slice a'' r.high.length cap''] 53)).alloc (.cells #[.int .i64 0, .int .i64 0] 31)) (.cells #[.int .i64 0, .int .i64 0] 31)).below hb1
      simp only [World.size_alloc] at q1 q2
      exact ⟨q1, q2, (below3 w _ _ _).trans (hb1.mono (by simp; omega))⟩
    have q0 := (((Blk.new w (.cells #[.slice a r.at_.length cap, .slice a' r.low.length cap', .slice a'' r.high.length cap''] 53)).alloc (.cells #[.int .i64 0, .int .i64 0] 31)).alloc (.cells #[.int .i64 0, .int .i64 0] 31)).below hb1
    have e0 := q0.cell 0
    have e1 := q0.cell 1
    have e2 := q0.cell 2
    simp at e0 e1 e2
    have HK1 := Lib.hid hK1
    clear q0 hK1 hb1
    go_wp2
    go_loopw [6, 7, 21] (fun u v i wr => ∃ k : Nat, k ≤ r.at_.length ∧ i = .int .i64 k ∧ Row wr u k 2 (pairCells ((List.range k).map (narE r))) ∧ Row wr v k 2 (pairCells ((List.range k).map (widE r))) ∧ Below w1.heap.size w1 wr) (fun _ _ i _ => r.at_.length - (intOf i).toNat)
    case atStart => exact ⟨0, Nat.zero_le _, rfl, Row.nil _ _, Row.nil _ _, Below.refl _ _⟩
    case round =>
      obtain ⟨k, hk, rfl, hr1, hr2, hbk⟩ := hrel
      by_cases hlt : k < r.at_.length
      · have HF1 := HF.out.lens r.low (by simp)
        have HF2 := HF.out.lens r.high (by simp)
        have kl : k < r.low.length := by omega
        have kh : k < r.high.length := by omega
        clear HF1 HF2
        have h8 := HF.out.eight
        obtain ⟨b1, o1, c1, hs1, x1, x2⟩ := H2.out.get k kl
        obtain ⟨b2, o2, c2, hs2, x3, x4⟩ := H3.out.get k kh
        simp at hs1 hs2
        obtain ⟨rfl, rfl⟩ := hs1
        obtain ⟨rfl, rfl⟩ := hs2
        have g1 : r.low[k].1 = (widE r k).1 := by simp [widE, kl]
        have g2 : r.low[k].2 = (narE r k).1 := by simp [narE, kl]
        have g3 : r.high[k].1 = (narE r k).2 := by simp [narE, kh]
        have g4 : r.high[k].2 = (widE r k).2 := by simp [widE, kh]
        rw [g1] at x1
        rw [g2] at x2
        rw [g3] at x3
        rw [g4] at x4
        have hbw := HK1.out.old.trans (hbk.mono HK1.out.old.size)
        obtain ⟨W2, rfl⟩ : ∃ W2 : World, W2 = wr := ⟨_, rfl⟩
        have y1 := cellB x1 hbw
        have y2 := cellB x2 hbw
        have y3 := cellB x3 hbw
        have y4 := cellB x4 hbw
        have z1 := cellB e1 hbk
        have z2 := cellB e2 hbk
        have HBK := Lib.hid hbk
        have HR1 := Lib.hid hr1
        have HR2 := Lib.hid hr2
        clear g1 g2 g3 g4 x1 x2 x3 x4 hbw hbk hr1 hr2
        have t1 := fun d os => cell_regrown z1 d os
        have t2 := fun d os => cell_regrown z2 d os
        have t3 := fun d os => cell_regrown y2 d os
        have t4 := fun d os => cell_regrown y3 d os
        go_wp2_with fail
        refine wp_region_tail 14 (by kernel_rfl) (by kernel_rfl) ?_
        repeat (quiet_step (fail))
        refine wpQuiet_nil ?_
        intro _ hw'
        obtain ⟨⟨dq, osq⟩, hw''⟩ := hw'
        subst hw''
        simp only [List.drop_succ_cons, List.drop_zero]
        have hB2 := below_regrown W2 dq osq
        clear t1 t2 t3 t4
        go_wp2_with fail
        refine (grownE_any _ k _ _ _ _ (HR1.out.below hB2) (by omega)).mono ?_
        rintro e w3 ⟨v3, rfl, hr3, hb3⟩
        have hB3 := hB2.trans (hb3.mono hB2.size)
        have HR3 := Lib.hid hr3
        have HR4 := Lib.hid (HR2.out.below hB3)
        have HBK3 := Lib.hid (HBK.out.trans (hB3.mono HBK.out.size))
        have u1 := cellB y1 hB3
        have u4 := cellB y4 hB3
        have u5 := cellB z1 hB3
        have u6 := cellB z2 hB3
        clear y1 y2 y3 y4 z1 z2 hB2 hB3 hr3 hb3
        have t1 := fun d os => cell_regrown u5 d os
        have t2 := fun d os => cell_regrown u6 d os
        have t3 := fun d os => cell_regrown u1 d os
        have t4 := fun d os => cell_regrown u4 d os
        go_wp2_with fail
        refine wp_region_tail 14 (by kernel_rfl) (by kernel_rfl) ?_
        repeat (quiet_step (fail))
        refine wpQuiet_nil ?_
        intro _ hw'
        obtain ⟨⟨dq2, osq2⟩, hw''⟩ := hw'
        subst hw''
        simp only [List.drop_succ_cons, List.drop_zero]
        have hB4 := below_regrown w3 dq2 osq2
        clear t1 t2 t3 t4 u1 u4 u5 u6
        go_wp2_with fail
        refine (grownE_any _ k _ _ _ _ (HR4.out.below hB4) (by omega)).mono ?_
        rintro e w5 ⟨v5, rfl, hr5, hb5⟩
        have hB5 := hB4.trans (hb5.mono hB4.size)
        have HR5 := Lib.hid hr5
        have HR6 := Lib.hid (HR3.out.below hB5)
        have HBK5 := Lib.hid (HBK3.out.trans (hB5.mono HBK3.out.size))
        clear hB4 hB5 hr5 hb5
        go_wp2
        go_round
        case rel => exact ⟨k + 1, by omega, by simp, by rw [List.range_succ, List.map_append]; simp only [List.map_cons, List.map_nil]; rw [pairCells_snoc]; exact HR6.out, by rw [List.range_succ, List.map_append]; simp only [List.map_cons, List.map_nil]; rw [pairCells_snoc]; exact HR5.out, HBK5.out⟩
        case measure => simp [intOf]; omega
      · obtain rfl : k = r.at_.length := by omega
        obtain ⟨a6, cap6, rfl, _, _, _, _⟩ := hr1.cells
        obtain ⟨a7, cap7, rfl, _, _, _, _⟩ := hr2.cells
        have hrn : Row wr (.slice a6 r.at_.length cap6) (narrow r).edges.length 2 (pairCells (narrow r).edges) := by simpa [narrow] using hr1
        have hrw : Row wr (.slice a7 r.at_.length cap7) (widest r).edges.length 2 (pairCells (widest r).edges) := by simpa [widest] using hr2
        have n1 : (narrow r).edges ≠ [] := (narrow_fit H0.out).ne.2
        have n2 : (widest r).edges ≠ [] := (widest_fit H0.out).ne.2
        have n3 : r.at_ ≠ [] := (narrow_fit H0.out).ne.1
        have N := Lib.hid (And.intro n1 (And.intro n2 n3))
        have h8 := HF.out.eight
        have hE1 : (narrow r).edges.length ≤ 1000 := by simp [narrow]; omega
        have hE2 : (widest r).edges.length ≤ 1000 := by simp [widest]; omega
        have P1 := hrn.pairs
        have P2 := hrw.pairs
        have HK2 := Lib.hid (HK1.out.below hbk)
        have HI := Lib.hid (H1.out.below HK2.out.old)
        obtain ⟨x1, x2⟩ := LogAt.ne (l := narrow r) (L := wr.heap.size + 1) HI.out P1 n3 n1 (by omega)
        obtain ⟨x3, x4⟩ := LogAt.ne (l := widest r) (L := wr.heap.size + 1) HI.out P2 n3 n2 (by omega)
        have X1 := Lib.hid (And.intro x1 (And.intro x2 (And.intro x3 x4)))
        have f0 := cellB e0 hbk
        have Q1 := Lib.hid P1
        have Q2 := Lib.hid P2
        obtain ⟨wz, rfl⟩ : ∃ wz : World, wz = wr := ⟨_, rfl⟩
        have HK1x := HK2.out.old.size
        clear hr1 hr2 hrn hrw n1 n2 n3 P1 P2 x1 x2 x3 x4 e0 e1 e2 hbk
        go_wp2_with fail
        refine (newLathe_any _).mono ?_
        rintro e wA ⟨rfl, rfl⟩
        have bL := Blk.new (wz.alloc (.map #[] 0)) (.cells #[.slice none 0 0, .slice none 0 0, .map (some wz.heap.size)] 112)
        have bM := (Blk.new wz (.map #[] 0)).alloc (.cells #[.slice none 0 0, .slice none 0 0, .map (some wz.heap.size)] 112)
        have hZ := below2 wz (.map #[] 0) (.cells #[.slice none 0 0, .slice none 0 0, .map (some wz.heap.size)] 112)
        rw [World.size_alloc] at bL
        generalize (wz.alloc (.map #[] 0)).alloc (.cells #[.slice none 0 0, .slice none 0 0, .map (some wz.heap.size)] 112) = wA at *
        have hP := Lib.hid (put_any (wz.heap.size + 1) wz.heap.size _ _ #[] 0 (.agg #[.slice a r.at_.length cap, .slice a6 r.at_.length cap6]) (narrow r) _ ⟨_, _, rfl, HI.out.below hZ, Q1.out.below hZ⟩ N.out.2.2 N.out.1 (by simp [narrow]; omega) hE1 bL bM
          (fun va h => by obtain ⟨_, h⟩ := h; cases h; exact X1.out.1) (fun ve h => by obtain ⟨_, h⟩ := h; cases h; exact X1.out.2.1))
        have f1 := cellB f0 hZ
        clear bL bM
        go_wp2_with fail
        refine hP.out.mono ?_
        rintro e wB ⟨rfl, hL, hM, hF⟩
        have hZ2 := below_frLM hZ (by omega) (by omega) hF
        have HLM := Lib.hid (And.intro hL hM)
        clear hL hM hF hZ f1 hP
        go_wp2_with fail
        refine (best_any _ _ _ (narrow r) _ HLM.out.1 (narrow_fit H0.out) HLM.out.2).mono ?_
        rintro e wC ⟨q, c', hq, rfl, hM2, hfr⟩
        have hZ3 := below_frL hZ2 (by omega) hfr
        have HL3 := Lib.hid (LatheAt.frM HLM.out.2 HLM.out.1 hfr)
        have HB := Lib.hid (isBest_eq hq)
        have hq1 := Lib.hid (below1 wC (.cells #[.int .i64 q.num, .int .i64 q.den] 31))
        have hZ4 := hZ3.trans (hq1.out.mono hZ3.size)
        have bq := Blk.new wC (.cells #[.int .i64 q.num, .int .i64 q.den] 31)
        have hM4 := hM2.alloc (.cells #[.int .i64 q.num, .int .i64 q.den] 31)
        have HL4 := Lib.hid (HL3.out.below hq1.out)
        have hg := hZ3.size
        have HM2 := Lib.hid hM4
        have f2 := cellB f0 hZ4
        have HZ4 := Lib.hid hZ4
        have lM := hM2.lt
        have lL : wz.heap.size + 1 < wC.heap.size := by obtain ⟨_, _, h1, _, _⟩ := HL3.out; exact h1.lt
        unfold qv
        clear hq hM2 hM4 hfr hZ2 hZ3 hZ4
        go_wp2_with fail
        obtain ⟨B, hB⟩ : ∃ B, B = wC.heap.size := ⟨_, rfl⟩
        rw [← hB] at bq lM lL ⊢
        clear hB hg
        have HQ := Lib.hid bq
        generalize wC.alloc (.cells #[.int .i64 q.num, .int .i64 q.den] 31) = wD at *
        obtain ⟨va4, ve4, hbl4, _, _⟩ := HL4.out
        have hP := Lib.hid (put_any (wz.heap.size + 1) wz.heap.size _ _ _ c' (.agg #[.slice a r.at_.length cap, .slice a7 r.at_.length cap7]) (widest r) wD ⟨_, _, rfl, HI.out.below HZ4.out, Q2.out.below HZ4.out⟩ N.out.2.2 N.out.2.1 (by simp [widest]; omega) hE2 hbl4 HM2.out
          (fun va h => by obtain ⟨_, h⟩ := h; cases h; exact X1.out.2.2.1) (fun ve h => by obtain ⟨_, h⟩ := h; cases h; exact X1.out.2.2.2))
        clear hbl4 bq
        refine hP.out.mono ?_
        rintro e wE ⟨rfl, hL, hM, hF⟩
        have hZ5 := below_frLM HZ4.out (by omega) (by omega) hF
        have bq5 := Blk.frLM HQ.out hF (by omega) (by omega)
        have HLM5 := Lib.hid (And.intro hL hM)
        clear hL hM hF hP f2
        have q0 := bq5.cell 0
        have q1 := bq5.cell 1
        simp at q0 q1
        have HQd := Lib.hid bq5.drew
        have HLd := Lib.hid (HLM5.out.1.below (Below.refl wE.heap.size wE).drew)
        have HMd := Lib.hid HLM5.out.2.drew
        have HZd := Lib.hid hZ5.drew
        have hBM : B ≠ wz.heap.size := by omega
        clear hZ5 bq5
        go_wp2_with fail
        go_region_law (go_wp2_with (go_at_call 65; refine (best_any _ _ _ (widest r) _ HLd.out (widest_fit H0.out) HMd.out).mono ?_; rintro e wG ⟨q', c'', hq', rfl, hM7, hfr7⟩; have HB' := Lib.hid (isBest_eq hq'); have bq7 := HQd.out.fr hfr7 hBM; have q07 := bq7.cell 0; have q17 := bq7.cell 1; obtain ⟨p1, p2, hBB⟩ := HK2.out.below (below_frL HZd.out (Nat.le_refl _) hfr7); have r0 := p1.cell 0; have r1 := p1.cell 1; have r2 := p2.cell 0; have r3 := p2.cell 1; have g0 := p1.frozen 0; have g1 := p1.frozen 1; have g2 := p2.frozen 0; have g3 := p2.frozen 1; have lt1 := p1.lt; have lt2 := p2.lt; simp at r0 r1 r2 r3 q07 q17; clear hq' hM7 hfr7 bq7; unfold qv))
        all_goals go_wp2
        all_goals
          have U1 := (((p1.set (j := 0) (.int .i64 q.num)).set (j := 1) (.int .i64 q.den)).other (b := w.heap.size + 1 + 1) (j := 0) (by omega) (.int .i64 q'.num)).other (b := w.heap.size + 1 + 1) (j := 1) (by omega) (.int .i64 q'.den)
          have U2 := (((p2.other (b := w.heap.size + 1) (j := 0) (by omega) (.int .i64 q.num)).other (b := w.heap.size + 1) (j := 1) (by omega) (.int .i64 q.den)).set (j := 0) (.int .i64 q'.num)).set (j := 1) (.int .i64 q'.den)
          have v0 := U1.cell 0
          have v1 := U1.cell 1
          have v2 := U2.cell 0
          have v3 := U2.cell 1
          simp at v0 v1 v2 v3
          refine bodyPost_ret (v := .tuple #[qv q, qv q', .int .i64 0]) (by simp [results, Tryd.results37, go_sem, qv, Act.put, v0, v1, v2, v3]) rfl ⟨?_, ?_⟩
          · rw [spanV, H0.out, if_pos rfl, if_pos rfl, HB.out, HB'.out]
          · exact (((hBB.setCell (by simp <;> omega) _).setCell (by simp <;> omega) _).setCell (by simp <;> omega) _).setCell (by simp <;> omega) _
  · have h0' : (roughErr r != 0) = true := by simp [h0]
    have HN := Lib.hid h0
    go_enter Tryd.func37, Tryd.ntmps37
    go_wp2_with fail
    refine (CheckRough_any _ r _ (RoughAt.below ⟨_, _, _, rfl, H1.out, H2.out, H3.out⟩ (below3 _ _ _ _)) HS.out).mono ?_
    rintro e w1 ⟨rfl, hb1⟩
    have hK1 : HBlk w w1 := by
      have q1 := ((Blk.new (w.alloc (.cells #[.slice a r.at_.length cap, .slice a' r.low.length cap', .slice a'' r.high.length cap''] 53)) (.cells #[.int .i64 0, .int .i64 0] 31)).alloc (.cells #[.int .i64 0, .int .i64 0] 31)).below hb1
      have q2 := (Blk.new ((w.alloc (.cells #[.slice a r.at_.length cap, .slice a' r.low.length cap', .slice a'' r.high.length cap''] 53)).alloc (.cells #[.int .i64 0, .int .i64 0] 31)) (.cells #[.int .i64 0, .int .i64 0] 31)).below hb1
      simp only [World.size_alloc] at q1 q2
      exact ⟨q1, q2, (below3 w _ _ _).trans (hb1.mono (by simp; omega))⟩
    clear hb1 h0
    obtain ⟨p1, p2, hB⟩ := hK1
    have r0 := p1.cell 0
    have r1 := p1.cell 1
    have r2 := p2.cell 0
    have r3 := p2.cell 1
    have f0 := p1.frozen 0
    have f1 := p1.frozen 1
    have f2 := p2.frozen 0
    have f3 := p2.frozen 1
    have lt1 := p1.lt
    have lt2 := p2.lt
    simp at r0 r1 r2 r3
    go_wp2
    refine bodyPost_ret (v := .tuple #[zq, zq, .int .i64 (roughErr r)]) (by simp [results, Tryd.results37, go_sem, r0, r1, r2, r3]) rfl ⟨by rw [spanV, if_neg HN.out, if_neg HN.out], ?_⟩
    exact (((hB.setCell (by simp <;> omega) _).setCell (by simp <;> omega) _).setCell (by simp <;> omega) _).setCell (by simp <;> omega) _
end Go.Proofs.YtlhldkiggmlegaaDoor
