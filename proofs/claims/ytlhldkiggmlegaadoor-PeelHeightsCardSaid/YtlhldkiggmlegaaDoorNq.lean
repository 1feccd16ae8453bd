import Derived.Test.YtlhldkiggmlegaaDoorNp
import Derived.Test.YtlhldkiggmlegaaDoorNi
import Derived.Test.YtlhldkiggmlegaaDoorNo
namespace Go.Proofs.YtlhldkiggmlegaaDoor
open Go.RowKit Go.Shelf Go.Sort
attribute [local go_sem] Oper.semAt_some

theorem kpP_set {Pr : Nat → Prop} {n₁ : Nat} {A B : World} {b : Nat} {v : Value} (h : KpP Pr n₁ A B) (h1 : ¬ Pr b) (h2 : b < n₁) : KpP Pr n₁ A (B.setCell ⟨b, 0, none⟩ v) :=
  ⟨by simpa using h.size, fun k o ho hk => Blk.other (h.same k o ho hk) (by rintro rfl; rcases hk with hk | ⟨hk, _⟩; exact h1 hk; omega) v⟩
theorem Row.set4 {W : World} {B n : Nat} {v v' u : Value} {T : TypeId} {xs : List Value} (h : Row W v' (n + 1) 4 xs) (hB : Blk W B (.cells #[v] T)) : Row (W.setCell ⟨B, 0, none⟩ u) v' (n + 1) 4 xs := by
  obtain ⟨h1, ⟨_, h2⟩ | ⟨g, cap, cur, e, e1, e3, e4, e5, e6, e7⟩⟩ := h
  · omega
  refine ⟨h1, .inr ⟨g, cap, cur, e, e1, e3.other (e3.ne_of hB ?_) u, e4, e5, e6, e7⟩⟩
  intro he
  injection he with he _ _
  subst he
  have e6' : 1 = cap * 4 := e6
  omega
/-- What stands before each round of Proof. -/
structure ProofI (w2 : World) (B6 n3 : Nat) (l : LogD) (pre : List PK) (W : World) : Prop where
  old : Below w2.heap.size w2 W
  size : n3 ≤ W.heap.size
  p6 : ∃ v ks, Blk W B6 (.cells #[v] 106) ∧ ks = pre.filter (fun p => decide (valR l p = bestV l)) ∧ Row W v ks.length 4 (pkCells ks)
theorem ProofI.keeps {w2 W W' : World} {B6 n3 : Nat} {l : LogD} {pre : List PK} (h : ProofI w2 B6 n3 l pre W) (hk : KeepsB n3 W W') (hn : w2.heap.size ≤ n3) : ProofI w2 B6 n3 l pre W' := by
  obtain ⟨v, ks, h1, h2, h3⟩ := h.p6
  exact ⟨below_keeps h.old hk hn h.old.size, Nat.le_trans h.size hk.size, v, ks, h1.keepsC hk, h2, h3.keeps hk⟩
theorem ProofI.below {w2 W W' : World} {B6 n3 : Nat} {l : LogD} {pre : List PK} (h : ProofI w2 B6 n3 l pre W) (hb : Below W.heap.size W W') : ProofI w2 B6 n3 l pre W' := by
  obtain ⟨v, ks, h1, h2, h3⟩ := h.p6
  exact ⟨h.old.trans (hb.mono h.old.size), Nat.le_trans h.size hb.size, v, ks, h1.below hb, h2, h3.below hb⟩

set_option maxRecDepth 100000 in
set_option maxHeartbeats 4000000 in
theorem Proof_any (v : Value) (l : LogD) (w : World) (hv : LogAt w v l) (hs : l.small) :
    Calls Tryd.prog 33 #[v] w fun e w' => e = .returned (.tuple #[if logErr l = 0 then pkV (proofX l) else pkV ⟨0, 0, 0, 0⟩, .int .i64 (logErr l)]) ∧ Below w.heap.size w w' := by
  obtain ⟨va, ve, rfl, h1, h2⟩ := hv
  obtain ⟨a, cap, rfl⟩ := h1.slice
  obtain ⟨a', cap', rfl⟩ := h2.slice
  have HV : Hid (LogAt w (.agg #[.slice a l.at_.length cap, .slice a' l.edges.length cap']) l) := Lib.hid ⟨_, _, rfl, h1, h2⟩
  have HS := Lib.hid hs
  clear h1 h2 hs
  by_cases h0 : logErr l = 0
  · have H0 := Lib.hid h0
    have HF := Lib.hid (placesErr_zero h0)
    clear h0
    refine (callsIn_wide (n := 8)).1 ?_
    refine callsIn_of_wp_marks Tryd.func33 rfl trivial ?_ rfl
    simp only [Tryd.ntmps33, List.size_toArray, List.length_cons, List.length_nil, Nat.reduceAdd, Nat.reduceSub, Array.replicate_succ, Array.replicate_zero, List.push_toArray, List.append_toArray, List.nil_append, List.cons_append]
    gi_wp2
    refine ⟨trivial, (callsIn_wide.2 (lay_ok _ l _ (HV.out.below (below2 _ _ _)) HS.out H0.out)).mono ?_⟩
    rintro e w1 ⟨L, M, clock, rfl, hL, hM, l1, l2, hb1⟩
    have hz1 := hb1.size
    simp at hz1 l1 l2
    have hB1 := after2 hb1
    have bR := (Blk.new (w.alloc (.cells #[.slice a l.at_.length cap, .slice a' l.edges.length cap'] 25)) (.cells #[.int .i64 0, .int .i64 0, .int .i64 0, .int .i64 0] 45)).below hb1
    rw [World.size_alloc] at bR
    have lM := hM.lt
    have lL : L < w1.heap.size := by obtain ⟨_, _, h1, _, _⟩ := hL; exact h1.lt
    have HLM := Lib.hid (And.intro hL hM)
    have HB1 := Lib.hid hB1
    have HR := Lib.hid bR
    clear hL hM hb1 hB1 bR
    gi_wp2
    have hb4 := below1 w1 (.cells #[.pointer (some ⟨L, 0, none⟩)] 85)
    have b4 := Blk.new w1 (.cells #[.pointer (some ⟨L, 0, none⟩)] 85)
    refine ⟨trivial, (callsIn_wide.2 (best_any L M clock l _ (HLM.out.1.below hb4) HF.out (HLM.out.2.below hb4))).mono ?_⟩
    rintro e w2 ⟨r, c', hr, rfl, hM2, hfr⟩
    obtain rfl := isBest_eq hr
    have b42 := b4.fr hfr (by omega)
    have HL2 := Lib.hid (LatheAt.frM (HLM.out.2.below hb4) (HLM.out.1.below hb4) hfr)
    have HR2 := Lib.hid ((HR.out.below hb4).fr hfr (by omega))
    have HB2 := Lib.hid (below_frL (HB1.out.trans (hb4.mono HB1.out.size)) (by omega) hfr)
    have HM2 := Lib.hid hM2
    have e4 := b42.cell 0
    simp at e4
    have hl4 := b42.lt
    have hl41 : w1.heap.size < w2.heap.size + 1 := by omega
    have H42 := Lib.hid b42
    have lL2 : L < w2.heap.size := by obtain ⟨_, _, h1, _, _⟩ := HL2.out; exact h1.lt
    have lM2 := hM2.lt
    clear hr hM2 hfr b4 b42 hb4
    unfold qv
    gi_wp2
    refine ⟨trivial, (callsIn_wide.2 (proofs_any L _)).mono ?_⟩
    rintro e w3 ⟨rfl, rfl⟩
    rw [World.size_alloc]
    have b6 := (Blk.new w2 (.cells #[.slice none 0 0] 106)).alloc (.cells #[.pointer (some ⟨L, 0, none⟩)] 85)
    have b7 := Blk.new (w2.alloc (.cells #[.slice none 0 0] 106)) (.cells #[.pointer (some ⟨L, 0, none⟩)] 85)
    have hb3 := below2 w2 (.cells #[.slice none 0 0] 106) (.cells #[.pointer (some ⟨L, 0, none⟩)] 85)
    have hz3 : ((w2.alloc (.cells #[.slice none 0 0] 106)).alloc (.cells #[.pointer (some ⟨L, 0, none⟩)] 85)).heap.size = w2.heap.size + 2 := by simp
    rw [World.size_alloc] at b7
    generalize (w2.alloc (.cells #[.slice none 0 0] 106)).alloc (.cells #[.pointer (some ⟨L, 0, none⟩)] 85) = w3 at *
    have e7 := b7.cell 0
    simp at e7
    obtain ⟨va, ve, bL, hA, hE⟩ := LatheAt.below HL2.out hb3
    obtain ⟨aa, capa, rfl⟩ := hA.slice
    have eL := bL.cell 0
    simp at eL
    have HSq := Lib.hid (proofs_stops (8 - 1) (by omega) (w2.heap.size + 1) L w3.heap.size l.at_.length (fun k => k = w2.heap.size + 1 ∨ k = L) aa capa w3 (by have := HF.out.eight; omega) (.inl rfl) (.inr rfl) (Nat.le_refl _) e7 eL)
    have HZ3 := Lib.hid hz3
    have HB3 := Lib.hid hb3
    have H6 := Lib.hid b6
    clear hA hE bL eL e7 b6 b7 hb3 hz3
    gi_wp2
    refine wpIn_rangeFunc_ownH (F := Fence.wide) rfl (by omega) (gf := 104) (lb := #[.pointer (some ⟨w2.heap.size + 1, 0, none⟩)]) rfl trivial (enters_of Tryd.func104 (by kernel_rfl) rfl)
      HSq.out kpP_t (kpP_b (by have := HZ3.out; rintro k (rfl | rfl) <;> omega)) (Below.refl _ _) (fun _ => rfl)
      (fun (pre : List (PN l.at_.length)) W => ProofI w2 w2.heap.size w3.heap.size l (unP pre) W)
      (fun _ _ _ => False)
      (ownFrom_of fun pre W W' hI hk => hI.keeps hk (by have := HZ3.out; omega))
      (fun _ _ _ _ _ hs _ _ => hs)
      ⟨HB3.out, Nat.le_refl _, _, [], H6.out, rfl, Row.nil _ _⟩
      (fun (x : PN l.at_.length) a2 W => ∃ Bx, w3.heap.size ≤ Bx ∧ Blk W Bx (.cells #[.int .i64 x.1.f, .int .i64 x.1.m, .int .i64 x.1.t, .int .i64 x.1.s] 45) ∧ a2 = { tmps := #[.agg #[.slice a l.at_.length cap, .slice a' l.edges.length cap'], .pointer (some ⟨w.heap.size, 0, none⟩), .pointer (some ⟨w.heap.size + 1, 0, none⟩), .int .i64 0, .pointer (some ⟨w1.heap.size, 0, none⟩), .int .i64 0, .pointer (some ⟨w2.heap.size, 0, none⟩), .pointer (some ⟨Bx, 0, none⟩), undef, undef, .tuple #[.pointer (some ⟨L, 0, none⟩), .int .i64 0], .agg #[.slice a l.at_.length cap, .slice a' l.edges.length cap'], .tuple #[.pointer (some ⟨L, 0, none⟩), .int .i64 0], .pointer (some ⟨L, 0, none⟩), .int .i64 0, .int .i64 0, .bool false, undef, undef, .pointer (some ⟨L, 0, none⟩), .agg #[.int .i64 (bestV l).num, .int .i64 (bestV l).den], .pointer (some ⟨L, 0, none⟩), .func (.func 104) #[] #[.pointer (some ⟨w2.heap.size + 1, 0, none⟩)], pkV x.1, undef, undef, undef, undef, undef, undef, undef, undef, undef, undef, undef, undef, undef, undef, undef, undef], defers := [] })
      (fun x a' => ownFrom_of fun _ W W' h hk => by obtain ⟨Bx, h1, h2, h3⟩ := h; exact ⟨Bx, h1, h2.keepsC hk, h3⟩)
      ?assign ?body ?done ?stop
    case assign =>
      rintro l0 pre x W K hI hK
      unfold pkV
      gi_wp2
      exact hK _ _ ((KeepsOthers.alloc _ _).from _) ((KpP.refl _ _ _).alloc _) (hI.below (below1 _ _)) ⟨W.heap.size, hI.size, Blk.new _ _, rfl⟩
    case body =>
      rintro l0 pre x a2 W hl0 hloop hI ⟨Bx, hBx, bX, rfl⟩ hlt
      have q4 := cellB e4 hI.old
      have hlW := LatheAt.below HL2.out hI.old
      obtain ⟨va', ve', bL', _, _⟩ := hlW
      have eM := bL'.cell 2
      have x0 := bX.cell 0
      have x1 := bX.cell 1
      have x2 := bX.cell 2
      have x3 := bX.cell 3
      simp at eM x0 x1 x2 x3
      have bM := HM2.out.below hI.old
      have HI := Lib.hid hI
      have HBX := Lib.hid bX
      have HLT := Lib.hid hlt
      clear hI bX bL' hlt hloop
      unfold pkV
      gi_wp2
      refine wpIn_region_heldR (S := fun W' => W'.cell? ⟨w1.heap.size, 0, none⟩ = some (.pointer (some ⟨L, 0, none⟩)) ∧ W'.cell? ⟨L, 2, none⟩ = some (.map (some M)) ∧ W'.cell? ⟨Bx, 0, none⟩ = some (.int .i64 x.1.f) ∧ W'.cell? ⟨Bx, 1, none⟩ = some (.int .i64 x.1.m) ∧ W'.cell? ⟨Bx, 2, none⟩ = some (.int .i64 x.1.t) ∧ W'.cell? ⟨Bx, 3, none⟩ = some (.int .i64 x.1.s) ∧ Blk W' M (entsO (asE ((EV l clock (proofsL l.at_.length)).filter fun e => decide (valR l e.1 = bestV l))) c')) (by kernel_rfl) (by kernel_rfl) (fun _ _ h => h) ⟨q4, eM, x0, x1, x2, x3, bM.drew⟩ ?_
      intro hS
      obtain ⟨hvb, hfd⟩ | ⟨hvb, hfd⟩ := find_best (l := l) (clock := clock) (r := bestV l) x.2
      · obtain ⟨i, q, hfd⟩ := hfd
        have hlk := fun (W' : World) (h : Blk W' M (entsO (asE ((EV l clock (proofsL l.at_.length)).filter fun e => decide (valR l e.1 = bestV l))) c')) => run_look_pk h x.1
        rw [hfd] at hlk
        unfold qv pkV at hlk
        refine wpAnyH_take (i := 0) (v := .pointer (some ⟨L, 0, none⟩)) rfl (by kernel_rfl) (by kernel_rfl) (by kernel_rfl) (fun _ _ _ h => h) (Or.inl ⟨by rfl, ?_⟩) (by assumption) ?_
        · rintro W' ⟨s0, s1, s2, s3, s4, s5, s6⟩
          go_simp
        simp only [Act.put, List.setIfInBounds_toArray]
        refine wpAnyH_take (i := 1) (v := .pointer (some ⟨L, 0, none⟩)) rfl (by kernel_rfl) (by kernel_rfl) (by kernel_rfl) (fun _ _ _ h => h) (Or.inl ⟨by rfl, ?_⟩) (by assumption) ?_
        · rintro W' ⟨s0, s1, s2, s3, s4, s5, s6⟩
          go_simp
        simp only [Act.put]
        refine wpAnyH_take (i := 2) (v := .pointer (some ⟨L, 2, none⟩)) rfl (by kernel_rfl) (by kernel_rfl) (by kernel_rfl) (fun _ _ _ h => h) (Or.inl ⟨by rfl, ?_⟩) (by assumption) ?_
        · rintro W' ⟨s0, s1, s2, s3, s4, s5, s6⟩
          go_simp
        simp only [Act.put]
        refine wpAnyH_take (i := 3) (v := .map (some M)) rfl (by kernel_rfl) (by kernel_rfl) (by kernel_rfl) (fun _ _ _ h => h) (Or.inl ⟨by rfl, ?_⟩) (by assumption) ?_
        · rintro W' ⟨s0, s1, s2, s3, s4, s5, s6⟩
          go_simp
        simp only [Act.put]
        refine wpAnyH_take (i := 4) (v := .agg #[.int .i64 x.1.f, .int .i64 x.1.m, .int .i64 x.1.t, .int .i64 x.1.s]) rfl (by kernel_rfl) (by kernel_rfl) (by kernel_rfl) (fun _ _ _ h => h) (Or.inl ⟨by rfl, ?_⟩) (by assumption) ?_
        · rintro W' ⟨s0, s1, s2, s3, s4, s5, s6⟩
          go_simp
        simp only [Act.put]
        refine wpAnyH_take (i := 5) (v := .tuple #[.agg #[.int .i64 q.num, .int .i64 q.den], .bool true]) rfl (by kernel_rfl) (by kernel_rfl) (by kernel_rfl) (fun _ _ _ h => h) (Or.inl ⟨by rfl, ?_⟩) (by assumption) ?_
        · rintro W' ⟨s0, s1, s2, s3, s4, s5, s6⟩
          have hl := hlk W' s6; go_simp
        simp only [Act.put]
        refine wpAnyH_take (i := 6) (v := .tuple #[.agg #[.int .i64 q.num, .int .i64 q.den], .bool true]) rfl (by kernel_rfl) (by kernel_rfl) (by kernel_rfl) (fun _ _ _ h => h) (Or.inl ⟨by rfl, ?_⟩) (by assumption) ?_
        · rintro W' ⟨s0, s1, s2, s3, s4, s5, s6⟩
          go_simp
        simp only [Act.put]
        refine wpAnyH_take (i := 7) (v := .agg #[.int .i64 q.num, .int .i64 q.den]) rfl (by kernel_rfl) (by kernel_rfl) (by kernel_rfl) (fun _ _ _ h => h) (Or.inl ⟨by rfl, ?_⟩) (by assumption) ?_
        · rintro W' ⟨s0, s1, s2, s3, s4, s5, s6⟩
          go_simp
        simp only [Act.put]
        refine wpAnyH_take (i := 8) (v := .bool true) rfl (by kernel_rfl) (by kernel_rfl) (by kernel_rfl) (fun _ _ _ h => h) (Or.inl ⟨by rfl, ?_⟩) (by assumption) ?_
        · rintro W' ⟨s0, s1, s2, s3, s4, s5, s6⟩
          go_simp
        simp only [Act.put]
        have HSB := Lib.hid (fun (X : World) (hX : Below W.drew.heap.size W.drew X) => (⟨cellB (show W.drew.cell? _ = _ from q4) hX, cellB (show W.drew.cell? _ = _ from eM) hX, cellB (show W.drew.cell? _ = _ from x0) hX, cellB (show W.drew.cell? _ = _ from x1) hX, cellB (show W.drew.cell? _ = _ from x2) hX, cellB (show W.drew.cell? _ = _ from x3) hX, bM.drew.below hX⟩ : X.cell? ⟨w1.heap.size, 0, none⟩ = some (.pointer (some ⟨L, 0, none⟩)) ∧ X.cell? ⟨L, 2, none⟩ = some (.map (some M)) ∧ X.cell? ⟨Bx, 0, none⟩ = some (.int .i64 x.1.f) ∧ X.cell? ⟨Bx, 1, none⟩ = some (.int .i64 x.1.m) ∧ X.cell? ⟨Bx, 2, none⟩ = some (.int .i64 x.1.t) ∧ X.cell? ⟨Bx, 3, none⟩ = some (.int .i64 x.1.s) ∧ Blk X M (entsO (asE ((EV l clock (proofsL l.at_.length)).filter fun e => decide (valR l e.1 = bestV l))) c')))
        refine wpAnyH_ready (rs := [9]) (by kernel_rfl) (by simp) ?_
        refine AllReadyH.cons rfl (fun K hK => ?_) AllReadyH.nil
        go_simp
        refine hK.out _ _ (HSB.out _ (below1 _ _)) (fun hS9 => ?_)
        clear hK K
        try simp only [Act.put, List.setIfInBounds_toArray, List.set_cons_zero, List.set_cons_succ]
        refine wpAnyH_ready (rs := [10]) (by kernel_rfl) (by simp) ?_
        refine AllReadyH.cons rfl (fun K hK => ?_) AllReadyH.nil
        go_simp
        refine hK.out _ _ (HSB.out _ (below1 W.drew (.cells #[.int .i64 q.num, .int .i64 q.den] 31))) (fun hS10 => ?_)
        clear hK K
        try simp only [Act.put, List.setIfInBounds_toArray, List.set_cons_zero, List.set_cons_succ]
        refine wpAnyH_ready (rs := [11]) (by kernel_rfl) (by simp) ?_
        refine AllReadyH.cons rfl (fun K hK => ?_) AllReadyH.nil
        go_simp
        refine hK.out _ _ (HSB.out _ (below1 W.drew (.cells #[.int .i64 q.num, .int .i64 q.den] 31))) (fun hS11 => ?_)
        clear hK K
        try simp only [Act.put, List.setIfInBounds_toArray, List.set_cons_zero, List.set_cons_succ]
        refine wpAnyH_done (by kernel_rfl) ?_ _
        have hB5 := (below1 W (.cells #[.int .i64 q.num, .int .i64 q.den] 31)).drew
        simp only [OnlyN]
        clear hS hS9 hS10 hS11 HSB
        generalize (W.alloc (.cells #[.int .i64 q.num, .int .i64 q.den] 31)).drew = W5 at *
        obtain ⟨v6, ks, k1, k2, k3⟩ := (HI.out.below hB5).p6
        have q5 := k1.cell 0
        simp at q5
        have y0 := cellB x0 hB5
        have y1 := cellB x1 hB5
        have y2 := cellB x2 hB5
        have y3 := cellB x3 hB5
        have hkl : ks.length ≤ 1000 := by
          have h1 := congrArg List.length k2
          have h2 : ((unP pre).filter fun p => decide (valR l p = bestV l)).length ≤ (unP pre).length := List.length_filter_le _ _
          have h3 := proofs_len (n := l.at_.length) HF.out.eight
          simp only [unP, List.length_map] at h1 h2
          have := HLT.out
          omega
        have hG := Lib.hid (grownP_any v6 ks.length (pkCells ks) x.1.f x.1.m x.1.t x.1.s W5 k3 (by omega))
        have K1 := Lib.hid k1
        have K2 := Lib.hid k2
        have HB5 := Lib.hid hB5
        clear k1 k2 k3 hB5 x0 x1 x2 x3 q4 eM bM
        gi_wp2_with fail
        refine ⟨trivial, (CallsIn.inRound l0 (callsIn_wide.2 hG.out)).mono ?_⟩
        rintro e w6 ⟨v7, rfl, hrow, hb6⟩
        obtain ⟨a7, cap7, rfl, _, _, _, _⟩ := hrow.cells
        have k16 := K1.out.below hb6
        have q6 := k16.cell 0
        have fz := k16.frozen 0
        simp at q6
        have lt6 := k16.lt
        have HR := Lib.hid hrow
        have HB6 := Lib.hid (HB5.out.trans (hb6.mono HB5.out.size))
        have HK1 := Lib.hid k16
        clear hrow hb6 k16 hG
        gi_wp2
        have hB6 := HB6.out
        have hz3 := HZ3.out
        refine ⟨⟨by simpa using hB6.size, fun k o hk ho _ => Blk.other (Blk.below (W := W) ho hB6) (by omega) _⟩, kpP_set (KpP.of_below hB6) (by omega) (by omega), ?_⟩
        refine ⟨(HI.out.old.trans (hB6.mono HI.out.old.size)).setCell (by simp) _, by simpa using Nat.le_trans HI.out.size hB6.size, _, ks ++ [x.1], HK1.out.set (j := 0) _, ?_, ?_⟩
        · rw [unP_snoc, List.filter_append, K2.out, List.filter_cons_of_pos (by simp [hvb])]
          rfl
        · rw [pkCells_snoc, List.length_append]
          exact Row.set4 HR.out HK1.out
      · have hlk := fun (W' : World) (h : Blk W' M (entsO (asE ((EV l clock (proofsL l.at_.length)).filter fun e => decide (valR l e.1 = bestV l))) c')) => run_look_pk h x.1
        rw [hfd] at hlk
        unfold pkV at hlk
        refine wpAnyH_take (i := 0) (v := .pointer (some ⟨L, 0, none⟩)) rfl (by kernel_rfl) (by kernel_rfl) (by kernel_rfl) (fun _ _ _ h => h) (Or.inl ⟨by rfl, ?_⟩) (by assumption) ?_
        · rintro W' ⟨s0, s1, s2, s3, s4, s5, s6⟩
          go_simp
        simp only [Act.put, List.setIfInBounds_toArray]
        refine wpAnyH_take (i := 1) (v := .pointer (some ⟨L, 0, none⟩)) rfl (by kernel_rfl) (by kernel_rfl) (by kernel_rfl) (fun _ _ _ h => h) (Or.inl ⟨by rfl, ?_⟩) (by assumption) ?_
        · rintro W' ⟨s0, s1, s2, s3, s4, s5, s6⟩
          go_simp
        simp only [Act.put]
        refine wpAnyH_take (i := 2) (v := .pointer (some ⟨L, 2, none⟩)) rfl (by kernel_rfl) (by kernel_rfl) (by kernel_rfl) (fun _ _ _ h => h) (Or.inl ⟨by rfl, ?_⟩) (by assumption) ?_
        · rintro W' ⟨s0, s1, s2, s3, s4, s5, s6⟩
          go_simp
        simp only [Act.put]
        refine wpAnyH_take (i := 3) (v := .map (some M)) rfl (by kernel_rfl) (by kernel_rfl) (by kernel_rfl) (fun _ _ _ h => h) (Or.inl ⟨by rfl, ?_⟩) (by assumption) ?_
        · rintro W' ⟨s0, s1, s2, s3, s4, s5, s6⟩
          go_simp
        simp only [Act.put]
        refine wpAnyH_take (i := 4) (v := .agg #[.int .i64 x.1.f, .int .i64 x.1.m, .int .i64 x.1.t, .int .i64 x.1.s]) rfl (by kernel_rfl) (by kernel_rfl) (by kernel_rfl) (fun _ _ _ h => h) (Or.inl ⟨by rfl, ?_⟩) (by assumption) ?_
        · rintro W' ⟨s0, s1, s2, s3, s4, s5, s6⟩
          go_simp
        simp only [Act.put]
        refine wpAnyH_take (i := 5) (v := .tuple #[.agg #[.int .i64 0, .int .i64 0], .bool false]) rfl (by kernel_rfl) (by kernel_rfl) (by kernel_rfl) (fun _ _ _ h => h) (Or.inl ⟨by rfl, ?_⟩) (by assumption) ?_
        · rintro W' ⟨s0, s1, s2, s3, s4, s5, s6⟩
          have hl := hlk W' s6; go_simp
        simp only [Act.put]
        refine wpAnyH_take (i := 6) (v := .tuple #[.agg #[.int .i64 0, .int .i64 0], .bool false]) rfl (by kernel_rfl) (by kernel_rfl) (by kernel_rfl) (fun _ _ _ h => h) (Or.inl ⟨by rfl, ?_⟩) (by assumption) ?_
        · rintro W' ⟨s0, s1, s2, s3, s4, s5, s6⟩
          go_simp
        simp only [Act.put]
        refine wpAnyH_take (i := 7) (v := .agg #[.int .i64 0, .int .i64 0]) rfl (by kernel_rfl) (by kernel_rfl) (by kernel_rfl) (fun _ _ _ h => h) (Or.inl ⟨by rfl, ?_⟩) (by assumption) ?_
        · rintro W' ⟨s0, s1, s2, s3, s4, s5, s6⟩
          go_simp
        simp only [Act.put]
        refine wpAnyH_take (i := 8) (v := .bool false) rfl (by kernel_rfl) (by kernel_rfl) (by kernel_rfl) (fun _ _ _ h => h) (Or.inl ⟨by rfl, ?_⟩) (by assumption) ?_
        · rintro W' ⟨s0, s1, s2, s3, s4, s5, s6⟩
          go_simp
        simp only [Act.put]
        have HSB := Lib.hid (fun (X : World) (hX : Below W.drew.heap.size W.drew X) => (⟨cellB (show W.drew.cell? _ = _ from q4) hX, cellB (show W.drew.cell? _ = _ from eM) hX, cellB (show W.drew.cell? _ = _ from x0) hX, cellB (show W.drew.cell? _ = _ from x1) hX, cellB (show W.drew.cell? _ = _ from x2) hX, cellB (show W.drew.cell? _ = _ from x3) hX, bM.drew.below hX⟩ : X.cell? ⟨w1.heap.size, 0, none⟩ = some (.pointer (some ⟨L, 0, none⟩)) ∧ X.cell? ⟨L, 2, none⟩ = some (.map (some M)) ∧ X.cell? ⟨Bx, 0, none⟩ = some (.int .i64 x.1.f) ∧ X.cell? ⟨Bx, 1, none⟩ = some (.int .i64 x.1.m) ∧ X.cell? ⟨Bx, 2, none⟩ = some (.int .i64 x.1.t) ∧ X.cell? ⟨Bx, 3, none⟩ = some (.int .i64 x.1.s) ∧ Blk X M (entsO (asE ((EV l clock (proofsL l.at_.length)).filter fun e => decide (valR l e.1 = bestV l))) c')))
        refine wpAnyH_ready (rs := [9]) (by kernel_rfl) (by simp) ?_
        refine AllReadyH.cons rfl (fun K hK => ?_) AllReadyH.nil
        go_simp
        refine hK.out _ _ (HSB.out _ (below1 _ _)) (fun hS9 => ?_)
        clear hK K
        try simp only [Act.put, List.setIfInBounds_toArray, List.set_cons_zero, List.set_cons_succ]
        refine wpAnyH_ready (rs := [10]) (by kernel_rfl) (by simp) ?_
        refine AllReadyH.cons rfl (fun K hK => ?_) AllReadyH.nil
        go_simp
        refine hK.out _ _ (HSB.out _ (below1 W.drew (.cells #[.int .i64 0, .int .i64 0] 31))) (fun hS10 => ?_)
        clear hK K
        try simp only [Act.put, List.setIfInBounds_toArray, List.set_cons_zero, List.set_cons_succ]
        refine wpAnyH_ready (rs := [11]) (by kernel_rfl) (by simp) ?_
        refine AllReadyH.cons rfl (fun K hK => ?_) AllReadyH.nil
        go_simp
        refine hK.out _ _ (HSB.out _ (below1 W.drew (.cells #[.int .i64 0, .int .i64 0] 31))) (fun hS11 => ?_)
        clear hK K
        try simp only [Act.put, List.setIfInBounds_toArray, List.set_cons_zero, List.set_cons_succ]
        refine wpAnyH_done (by kernel_rfl) ?_ _
        have hB5 := (below1 W (.cells #[.int .i64 0, .int .i64 0] 31)).drew
        simp only [OnlyN]
        clear hS hS9 hS10 hS11 HSB
        generalize (W.alloc (.cells #[.int .i64 0, .int .i64 0] 31)).drew = W5 at *
        gi_wp2
        refine ⟨keepsFrom_below hB5, KpP.of_below hB5, ?_⟩
        obtain ⟨o1, o2, v6, ks, k1, k2, k3⟩ := HI.out.below hB5
        refine ⟨o1, o2, v6, ks, k1, ?_, k3⟩
        rw [unP_snoc, List.filter_append, k2, List.filter_cons_of_neg (by simp [hvb])]
        simp
    case done =>
      rintro D zs W hD hS hI hK
      obtain ⟨v6, ks, k1, k2, k3⟩ := hI.p6
      rw [show unP zs = proofsL l.at_.length from hS] at k2
      have hne := bestPs_ne HF.out
      obtain ⟨y, rest, hy⟩ : ∃ y rest, bestPs l = y :: rest := by
        cases h : bestPs l with
        | nil => exact absurd h hne
        | cons y rest => exact ⟨y, rest, rfl⟩
      have hX : proofX l = y := by unfold proofX; rw [hy]; rfl
      obtain rfl : ks = y :: rest := k2.trans hy
      obtain ⟨j1, ⟨_, j2⟩ | ⟨g, capk, cur, T, rfl, hblk, j3, j4, j5, j6⟩⟩ := k3
      · simp at j2
      have hc : ∀ (i : Nat) (u : Value), [Value.int .i64 y.f, .int .i64 y.m, .int .i64 y.t, .int .i64 y.s][i]? = some u → W.cell? ⟨g, i, none⟩ = some u := by
        intro i u hu
        have hi : i < 4 := by
          rcases Nat.lt_or_ge i 4 with h | h
          · exact h
          · rw [List.getElem?_eq_none (by simpa using h)] at hu; cases hu
        rw [hblk.cell]
        have h6 := congrArg (fun x : List Value => x[i]?) j6
        simp only [List.getElem?_take, Array.getElem?_toList] at h6
        rw [if_pos (by simp only [List.length_cons]; omega)] at h6
        rw [h6]
        have e : pkCells (y :: rest) = [Value.int .i64 y.f, .int .i64 y.m, .int .i64 y.t, .int .i64 y.s] ++ pkCells rest := rfl
        rw [e, List.getElem?_append_left (by simpa using hi)]
        exact hu
      have y0 := hc 0 _ rfl
      have y1 := hc 1 _ rfl
      have y2 := hc 2 _ rfl
      have y3 := hc 3 _ rfl
      have q5 := k1.cell 0
      simp at q5
      have bR := HR2.out.below hI.old
      have r0 := bR.cell 0
      have r1 := bR.cell 1
      have r2 := bR.cell 2
      have r3 := bR.cell 3
      have f0 := bR.frozen 0
      have f1 := bR.frozen 1
      have f2 := bR.frozen 2
      have f3 := bR.frozen 3
      have ltr := bR.lt
      simp at r0 r1 r2 r3
      have hDlt := (Array.getElem?_eq_some_iff.1 hK).1
      have hlen : (y :: rest).length = rest.length + 1 := rfl
      rw [hlen] at j3
      have HX := Lib.hid hX
      have hz3 := HZ3.out
      have hwz := HR2.out.lt
      have HBW := Lib.hid (HB2.out.trans (hI.old.mono HB2.out.size))
      clear hc j1 j4 j5 j6 hblk hne hy k1 k2 hX
      gi_wp2
      have U := (((bR.set (j := 0) (.int .i64 y.f)).set (j := 1) (.int .i64 y.m)).set (j := 2) (.int .i64 y.t)).set (j := 3) (.int .i64 y.s)
      have hK3 := ((((KeepsOthers.setCell W ⟨w.heap.size + 1, 0, none⟩ (.int .i64 y.f)).trans (KeepsOthers.setCell _ ⟨w.heap.size + 1, 1, none⟩ (.int .i64 y.m))).trans (KeepsOthers.setCell _ ⟨w.heap.size + 1, 2, none⟩ (.int .i64 y.t))).trans (KeepsOthers.setCell _ ⟨w.heap.size + 1, 3, none⟩ (.int .i64 y.s))).same D _ hK rfl
      refine ⟨by simp, .inl ⟨_, _, rfl, run_takeDeferred hK3, ?_⟩⟩
      have U' := U.put (b := D) (by omega) (.deferred none)
      have g0 := U'.cell 0
      have g1 := U'.cell 1
      have g2 := U'.cell 2
      have g3 := U'.cell 3
      simp at g0 g1 g2 g3
      refine ⟨.tuple #[pkV y, .int .i64 0], by simp [results, Tryd.results33, go_sem, pkV, g0, g1, g2, g3], by rw [HX.out], ?_⟩
      exact below_keeps ((((HBW.out.setCell (by simp) _).setCell (by simp) _).setCell (by simp) _).setCell (by simp) _) (keepsB_put hK3 rfl) (by omega) (by simp; omega)
    case stop =>
      rintro D c pre W _ _ h _
      exact h.elim
  · have h0' : (logErr l != 0) = true := by simp [h0]
    have H0 := Lib.hid h0
    clear h0
    refine (callsIn_wide (n := 8)).1 ?_
    refine callsIn_of_wp_marks Tryd.func33 rfl trivial ?_ rfl
    simp only [Tryd.ntmps33, List.size_toArray, List.length_cons, List.length_nil, Nat.reduceAdd, Nat.reduceSub, Array.replicate_succ, Array.replicate_zero, List.push_toArray, List.append_toArray, List.nil_append, List.cons_append]
    gi_wp2
    refine ⟨trivial, (callsIn_wide.2 (lay_err _ l _ (HV.out.below (below2 _ _ _)) HS.out H0.out)).mono ?_⟩
    rintro e w1 ⟨rfl, hb1⟩
    have hB1 := after2 hb1
    have bR := (Blk.new (w.alloc (.cells #[.slice a l.at_.length cap, .slice a' l.edges.length cap'] 25)) (.cells #[.int .i64 0, .int .i64 0, .int .i64 0, .int .i64 0] 45)).below hb1
    rw [World.size_alloc] at bR
    have r0 := bR.cell 0
    have r1 := bR.cell 1
    have r2 := bR.cell 2
    have r3 := bR.cell 3
    have f0 := bR.frozen 0
    have f1 := bR.frozen 1
    have f2 := bR.frozen 2
    have f3 := bR.frozen 3
    have ltr := bR.lt
    simp at r0 r1 r2 r3
    clear hb1
    gi_wp2
    have U := ((((bR.set (j := 0) (.int .i64 0)).set (j := 1) (.int .i64 0)).set (j := 2) (.int .i64 0)).set (j := 3) (.int .i64 0)).alloc (.cells #[.pointer none] 85)
    have g0 := U.cell 0
    have g1 := U.cell 1
    have g2 := U.cell 2
    have g3 := U.cell 3
    simp at g0 g1 g2 g3
    refine ⟨.tuple #[pkV ⟨0, 0, 0, 0⟩, .int .i64 (logErr l)], by simp [results, Tryd.results33, go_sem, pkV, g0, g1, g2, g3], rfl, ?_⟩
    exact ((((hB1.setCell (by simp) _).setCell (by simp) _).setCell (by simp) _).setCell (by simp) _).alloc (by simpa using hB1.size) _
end Go.Proofs.YtlhldkiggmlegaaDoor
