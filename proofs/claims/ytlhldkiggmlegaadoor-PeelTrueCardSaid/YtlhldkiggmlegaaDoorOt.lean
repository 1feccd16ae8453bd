import Derived.Test.YtlhldkiggmlegaaDoorNx
import Derived.Test.YtlhldkiggmlegaaDoorOs
namespace Go.Proofs.YtlhldkiggmlegaaDoor
open Go.RowKit Go.Shelf Go.Sort
attribute [local go_sem] Oper.semAt_some

/-! ## The law's wide -/
theorem wide_yes (v : Value) (r : RoughD) (w : World) (hv : RoughAt w v r) (h : 12 < r.at_.length ∨ 12 < r.low.length ∨ 12 < r.high.length) :
    Calls Tryd.prog 36 #[v] w fun e w' => e = .returned (.bool true) ∧ Below w.heap.size w w' := by
  obtain ⟨va, vl, vh, rfl, hA, hB, hC⟩ := hv
  obtain ⟨a, cap, rfl⟩ := hA.slice
  obtain ⟨a', cap', rfl⟩ := hB.slice
  obtain ⟨a'', cap'', rfl⟩ := hC.slice
  clear hA hB hC
  by_cases h1 : 12 < r.at_.length
  · have hd : decide ((12 : Int) < (r.at_.length : Int)) = true := by simp; omega
    clear h
    go_enter Tryd.func36, Tryd.ntmps36
    go_wp2
    go_ret
    exact ⟨rfl, below1 _ _⟩
  · have hd : decide ((12 : Int) < (r.at_.length : Int)) = false := by simp; omega
    by_cases h2 : 12 < r.low.length
    · have hd2 : decide ((12 : Int) < (r.low.length : Int)) = true := by simp; omega
      clear h
      go_enter Tryd.func36, Tryd.ntmps36
      go_wp2
      go_ret
      exact ⟨rfl, below1 _ _⟩
    · have hd2 : decide ((12 : Int) < (r.low.length : Int)) = false := by simp; omega
      have hd3 : decide ((12 : Int) < (r.high.length : Int)) = true := by simp; omega
      clear h
      go_enter Tryd.func36, Tryd.ntmps36
      go_wp2
      go_ret
      exact ⟨rfl, below1 _ _⟩
theorem wide_no (v : Value) (r : RoughD) (w : World) (hv : RoughAt w v r) (h1 : r.at_.length ≤ 12) (h2 : r.low.length ≤ 12) (h3 : r.high.length ≤ 12) :
    Calls Tryd.prog 36 #[v] w fun e w' => e = .returned (.bool false) ∧ Below w.heap.size w w' := by
  obtain ⟨va, vl, vh, rfl, hA, hB, hC⟩ := hv
  obtain ⟨a, cap, rfl⟩ := hA.slice
  obtain ⟨a', cap', rfl⟩ := hB.slice
  obtain ⟨a'', cap'', rfl⟩ := hC.slice
  clear hA hB hC
  have hd : decide ((12 : Int) < (r.at_.length : Int)) = false := by simp; omega
  have hd2 : decide ((12 : Int) < (r.low.length : Int)) = false := by simp; omega
  have hd3 : decide ((12 : Int) < (r.high.length : Int)) = false := by simp; omega
  go_enter Tryd.func36, Tryd.ntmps36
  go_wp2
  go_ret
  exact ⟨rfl, below1 _ _⟩
theorem wide_err {r : RoughD} (h : 12 < r.at_.length ∨ 12 < r.low.length ∨ 12 < r.high.length) : roughErr r ≠ 0 := by
  intro h0
  obtain ⟨hf, _⟩ := rough_fit h0
  have h1 := hf.eight
  have h2 := hf.lens r.low (by simp)
  have h3 := hf.lens r.high (by simp)
  omega
theorem sound_any (v : Value) (r : RoughD) (w : World) (hv : RoughAt w v r) :
    Calls Tryd.prog 52 #[v] w fun e w' => e = .returned (.bool (decide (roughErr r = 0))) ∧ Below w.heap.size w w' := by
  obtain ⟨va, vl, vh, rfl, h1, h2, h3⟩ := hv
  obtain ⟨a, cap, rfl⟩ := h1.slice
  obtain ⟨a', cap', rfl⟩ := h2.slice
  obtain ⟨a'', cap'', rfl⟩ := h3.slice
  have HV : Hid (RoughAt w (.agg #[.slice a r.at_.length cap, .slice a' r.low.length cap', .slice a'' r.high.length cap'']) r) := Lib.hid ⟨_, _, _, rfl, h1, h2, h3⟩
  clear h1 h2 h3
  have hL := Blk.new w (.cells #[.slice a r.at_.length cap, .slice a' r.low.length cap', .slice a'' r.high.length cap''] 53)
  have hB0 := below1 w (.cells #[.slice a r.at_.length cap, .slice a' r.low.length cap', .slice a'' r.high.length cap''] 53)
  have HL0 := Lib.hid hL
  have HB0 := Lib.hid hB0
  clear hB0 hL
  by_cases hg : 12 < r.at_.length ∨ 12 < r.low.length ∨ 12 < r.high.length
  · have HE := Lib.hid (show decide (roughErr r = 0) = false from decide_eq_false (wide_err hg))
    have HG := Lib.hid hg
    clear hg
    go_enter Tryd.func52, Tryd.ntmps52
    go_wp2_with fail
    refine (wide_yes _ r _ (HV.out.below HB0.out) HG.out).mono ?_
    rintro e w1x ⟨rfl, hb⟩
    have HB1 := Lib.hid (bC HB0.out hb)
    clear hb HB0 HL0
    go_wp2_with fail
    go_ret
    exact ⟨by rw [HE.out]; rfl, HB1.out⟩
  · have HS := Lib.hid (show r.small by unfold RoughD.small; omega)
    have HG1 := Lib.hid (show r.at_.length ≤ 12 by omega)
    have HG2 := Lib.hid (show r.low.length ≤ 12 by omega)
    have HG3 := Lib.hid (show r.high.length ≤ 12 by omega)
    clear hg
    go_enter Tryd.func52, Tryd.ntmps52
    go_wp2_with fail
    refine (wide_no _ r _ (HV.out.below HB0.out) HG1.out HG2.out HG3.out).mono ?_
    rintro e w1x ⟨rfl, hb⟩
    have HB1 := Lib.hid (bC HB0.out hb)
    have HL1 := Lib.hid (HL0.out.below hb)
    clear hb HB0 HL0
    have Lc0 := HL1.out.cell 0
    have Lc1 := HL1.out.cell 1
    have Lc2 := HL1.out.cell 2
    simp at Lc0 Lc1 Lc2
    have Ll := HL1.out.lt
    go_wp2_with fail
    clear Lc0 Lc1 Lc2 Ll
    by_cases h0 : roughErr r = 0
    · have HE := Lib.hid (show decide (roughErr r = 0) = true from decide_eq_true h0)
      have hb0 : (roughErr r == 0) = true := by simp [h0]
      clear h0
      refine (rCheckRough_any _ r _ (HV.out.below HB1.out) HS.out).mono ?_
      rintro e w2x ⟨rfl, hb⟩
      have HB2 := Lib.hid (bC HB1.out hb)
      clear hb HB1 HL1
      go_wp2_with fail
      go_ret
      exact ⟨by rw [HE.out]; rfl, HB2.out⟩
    · have HE := Lib.hid (show decide (roughErr r = 0) = false from decide_eq_false h0)
      have hb0 : (roughErr r == 0) = false := by simp [h0]
      clear h0
      refine (rCheckRough_any _ r _ (HV.out.below HB1.out) HS.out).mono ?_
      rintro e w2x ⟨rfl, hb⟩
      have HB2 := Lib.hid (bC HB1.out hb)
      clear hb HB1 HL1
      go_wp2_with fail
      go_ret
      exact ⟨by rw [HE.out]; rfl, HB2.out⟩
end Go.Proofs.YtlhldkiggmlegaaDoor

namespace Go.Proofs.YtlhldkiggmlegaaDoor
open Go.RowKit Go.Shelf Go.Sort
attribute [local go_sem] Oper.semAt_some

/-! ## The law PeelRoughs -/
theorem spanV_agg (r : RoughD) : ∃ n d n' d' : Int, spanV r = .tuple #[.agg #[.int .i64 n, .int .i64 d], .agg #[.int .i64 n', .int .i64 d'], .int .i64 (roughErr r)] := by
  unfold spanV
  by_cases h : roughErr r = 0
  · rw [if_pos h, if_pos h]; exact ⟨_, _, _, _, rfl⟩
  · rw [if_neg h, if_neg h]; exact ⟨_, _, _, _, rfl⟩
set_option maxRecDepth 100000 in
set_option maxHeartbeats 4000000 in
theorem PeelRoughs_any (v : Value) (r : RoughD) (w : World) (hN : NoneAt w) (hv : RoughAt w v r) :
    Calls Tryd.prog 7 #[v] w fun e w' => e = .returned (.bool true) ∧ Below w.heap.size w w' := by
  obtain ⟨va, vl, vh, rfl, h1, h2, h3⟩ := hv
  obtain ⟨a, cap, rfl⟩ := h1.slice
  obtain ⟨a', cap', rfl⟩ := h2.slice
  obtain ⟨a'', cap'', rfl⟩ := h3.slice
  have HV : Hid (RoughAt w (.agg #[.slice a r.at_.length cap, .slice a' r.low.length cap', .slice a'' r.high.length cap'']) r) := Lib.hid ⟨_, _, _, rfl, h1, h2, h3⟩
  have HN := Lib.hid hN
  have bl := Blk.new w (.cells #[.slice a r.at_.length cap, .slice a' r.low.length cap', .slice a'' r.high.length cap''] 53)
  have hB0 := below1 w (.cells #[.slice a r.at_.length cap, .slice a' r.low.length cap', .slice a'' r.high.length cap''] 53)
  have HBL := Lib.hid bl
  have HB0 := Lib.hid hB0
  clear bl hB0 h1 h2 h3 hN
  by_cases hg : 12 < r.at_.length ∨ 12 < r.low.length ∨ 12 < r.high.length
  · have HG := Lib.hid hg
    clear hg
    go_enter Tryd.func7, Tryd.ntmps7
    go_wp2_with fail
    refine (wide_yes _ r _ (HV.out.below HB0.out) HG.out).mono ?_
    rintro e w1 ⟨rfl, hb1⟩
    have HB1 := Lib.hid (bC HB0.out hb1)
    clear hb1
    go_wp2_with fail
    refine (Works_any _ (HN.out.below HB1.out)).mono ?_
    rintro e w2 ⟨rfl, hb2⟩
    have HB2 := Lib.hid (bC HB1.out hb2)
    clear hb2
    go_wp2
    go_ret
    exact ⟨rfl, HB2.out⟩
  · have hs : r.small := by unfold RoughD.small; omega
    have HS := Lib.hid hs
    have HG1 := Lib.hid (show r.at_.length ≤ 12 by omega)
    have HG2 := Lib.hid (show r.low.length ≤ 12 by omega)
    have HG3 := Lib.hid (show r.high.length ≤ 12 by omega)
    clear hg hs
    obtain ⟨n, d, n', d', hnd⟩ := spanV_agg r
    have HND := Lib.hid hnd
    clear hnd
    have HC1 := Lib.hid (fun W (h : RoughAt W (.agg #[.slice a r.at_.length cap, .slice a' r.low.length cap', .slice a'' r.high.length cap'']) r) => HND.out ▸ Span_any _ r W h HS.out)
    have HC2 := Lib.hid (fun W (h : RoughAt W (.agg #[.slice a r.at_.length cap, .slice a' r.low.length cap', .slice a'' r.high.length cap'']) r) => HND.out ▸ rSpan_any _ r W h HS.out)
    obtain ⟨er, her⟩ : ∃ er, roughErr r = er := ⟨_, rfl⟩
    have HK1 := Lib.hid (fun W (h : RoughAt W (.agg #[.slice a r.at_.length cap, .slice a' r.low.length cap', .slice a'' r.high.length cap'']) r) => her ▸ CheckRough_any _ r W h HS.out)
    have HK2 := Lib.hid (fun W (h : RoughAt W (.agg #[.slice a r.at_.length cap, .slice a' r.low.length cap', .slice a'' r.high.length cap'']) r) => her ▸ rCheckRough_any _ r W h HS.out)
    rw [her] at HC1 HC2
    clear her
    go_enter Tryd.func7, Tryd.ntmps7
    go_wp2_with fail
    refine (wide_no _ r _ (HV.out.below HB0.out) HG1.out HG2.out HG3.out).mono ?_
    rintro e w1 ⟨rfl, hb1⟩
    have HB1 := Lib.hid (bC HB0.out hb1)
    have L1 := Lib.hid (HBL.out.below hb1)
    clear hb1
    have l0 := L1.out.cell 0
    have l1 := L1.out.cell 1
    have l2 := L1.out.cell 2
    have ll := L1.out.lt
    simp at l0 l1 l2
    go_wp2_with fail
    refine (HC1.out _ (HV.out.below HB1.out)).mono ?_
    rintro e w2 ⟨rfl, hb2⟩
    have HB2 := Lib.hid (bC HB1.out hb2)
    have L2 := Lib.hid (L1.out.below hb2)
    clear hb2 l0 l1 l2 ll
    have l0 := L2.out.cell 0
    have l1 := L2.out.cell 1
    have l2 := L2.out.cell 2
    have ll := L2.out.lt
    simp at l0 l1 l2
    go_wp2_with fail
    have na := (Blk.new w2 (.cells #[.int .i64 n, .int .i64 d] 31)).alloc (.cells #[.int .i64 n', .int .i64 d'] 31)
    have nb := Blk.new (w2.alloc (.cells #[.int .i64 n, .int .i64 d] 31)) (.cells #[.int .i64 n', .int .i64 d'] 31)
    have hb3 := below2 w2 (.cells #[.int .i64 n, .int .i64 d] 31) (.cells #[.int .i64 n', .int .i64 d'] 31)
    simp only [World.size_alloc] at nb
    generalize (w2.alloc (.cells #[.int .i64 n, .int .i64 d] 31)).alloc (.cells #[.int .i64 n', .int .i64 d'] 31) = w3 at *
    have HB3 := Lib.hid (bC HB2.out hb3)
    have L3 := Lib.hid (L2.out.below hb3)
    have NA := Lib.hid na
    have NB := Lib.hid nb
    clear hb3 l0 l1 l2 ll na nb
    refine (HC2.out _ (HV.out.below HB3.out)).mono ?_
    rintro e w4 ⟨rfl, hb4⟩
    have HB4 := Lib.hid (bC HB3.out hb4)
    have L4 := Lib.hid (L3.out.below hb4)
    have NA4 := Lib.hid (NA.out.below hb4)
    have NB4 := Lib.hid (NB.out.below hb4)
    clear hb4 NA NB
    go_wp2_with fail
    have nc := (Blk.new w4 (.cells #[.int .i64 n, .int .i64 d] 31)).alloc (.cells #[.int .i64 n', .int .i64 d'] 31)
    have nd := Blk.new (w4.alloc (.cells #[.int .i64 n, .int .i64 d] 31)) (.cells #[.int .i64 n', .int .i64 d'] 31)
    have hb5 := below2 w4 (.cells #[.int .i64 n, .int .i64 d] 31) (.cells #[.int .i64 n', .int .i64 d'] 31)
    simp only [World.size_alloc] at nd
    generalize (w4.alloc (.cells #[.int .i64 n, .int .i64 d] 31)).alloc (.cells #[.int .i64 n', .int .i64 d'] 31) = w5 at *
    have HB5 := Lib.hid (bC HB4.out hb5)
    have L5 := L4.out.below hb5
    have NA5 := NA4.out.below hb5
    have NB5 := NB4.out.below hb5
    clear hb5
    have l0 := L5.cell 0
    have l1 := L5.cell 1
    have l2 := L5.cell 2
    have x0 := NA5.cell 0
    have x1 := NA5.cell 1
    have x2 := NB5.cell 0
    have x3 := NB5.cell 1
    have z0 := nc.cell 0
    have z1 := nc.cell 1
    have z2 := nd.cell 0
    have z3 := nd.cell 1
    simp at l0 l1 l2 x0 x1 x2 x3 z0 z1 z2 z3
    have g1 := fun d os => cell_regrown l0 d os
    have g2 := fun d os => cell_regrown l1 d os
    have g3 := fun d os => cell_regrown l2 d os
    have g4 := fun d os => cell_regrown x0 d os
    have g5 := fun d os => cell_regrown x1 d os
    have g6 := fun d os => cell_regrown x2 d os
    have g7 := fun d os => cell_regrown x3 d os
    have g8 := fun d os => cell_regrown z0 d os
    have g9 := fun d os => cell_regrown z1 d os
    have g10 := fun d os => cell_regrown z2 d os
    have g11 := fun d os => cell_regrown z3 d os
    clear L5 NA5 NB5 nc nd
    have hk1 := fun (dr : Nat) (os : Array Obj) => Calls.regrown_of (HK1.out (grow (redrawn w5 dr) os) ((HV.out.below HB5.out).below (below_regrown w5 dr os)))
    have hk2 := fun (dr : Nat) (os : Array Obj) => Calls.regrown_of (HK2.out (grow (redrawn w5 dr) os) ((HV.out.below HB5.out).below (below_regrown w5 dr os)))
    have hk5 := fun (dr : Nat) (os : Array Obj) => Calls.regrown_of (Works_any (grow (redrawn w5 dr) os) ((HN.out.below HB5.out).below (below_regrown w5 dr os)))
    have heq := fun w => pair_eq n d w
    have heq2 := fun w => pair_eq n' d' w
    refine wp_region_quiet_below (by kernel_rfl) (by kernel_rfl) ?_
    repeat (quiet_step (first | (go_at_call 39; exact hk1 _ _) | (go_at_call 40; exact hk2 _ _) | (go_at_call 19; exact hk5 _ _)))
    refine wpQuiet_nil ?_
    intro _ hw'
    obtain ⟨⟨dq, osq⟩, hw''⟩ := hw'
    subst hw''
    have HBF := Lib.hid (bC HB5.out (below_regrown w5 dq osq))
    clear g1 g2 g3 g4 g5 g6 g7 g8 g9 g10 g11 hk1 hk2 hk5 heq heq2
    generalize grow (redrawn w5 dq) osq = w6 at *
    go_wp2
    go_ret
    exact ⟨rfl, HBF.out⟩
end Go.Proofs.YtlhldkiggmlegaaDoor
