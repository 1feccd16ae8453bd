import Derived.Test.YtlhldkiggmlegaaDoorOa
namespace Go.Proofs.YtlhldkiggmlegaaDoor
open Go.ChangeShapes Go.WideShapes Go.ChangeAt Go.WideMaps Go.WideElems Go.RowKit Go.Deep Go.Joins
theorem uI16 : Tryd.prog.underlying 57 = some (.int .i16) := by kernel_rfl
theorem uU8 : Tryd.prog.underlying 5 = some (.int .u8) := by kernel_rfl
theorem uBl : Tryd.prog.underlying 4 = some .bool := by kernel_rfl
section
variable {H : Type} {enc : TypeId × Value → H}
set_option maxRecDepth 100000 in
theorem i16_of_trod {W : World} {base : Nat} {held : Bool} {v : Value} {d : DataW H} {p : List MemPlace} (hv : Value.okWide Tryd.prog W .any base 57 v) (h : DataW.Trod enc Tryd.prog W 0 (fun _ => true) held 57 v d p) : ∃ n : Int, v = .int .i16 n ∧ -32768 ≤ n ∧ n ≤ 32767 := by
  obtain ⟨n, rfl, _, _, hw⟩ := open_int uI16 hv h
  simp [Lit.wf] at hw
  have e1 := (show IntKind.i16.min = -32768 by kernel_rfl)
  have e2 := (show IntKind.i16.max = 32767 by kernel_rfl)
  exact ⟨n, rfl, by omega, by omega⟩
set_option maxRecDepth 100000 in
theorem u8_of_trod {W : World} {base : Nat} {held : Bool} {v : Value} {d : DataW H} {p : List MemPlace} (hv : Value.okWide Tryd.prog W .any base 5 v) (h : DataW.Trod enc Tryd.prog W 0 (fun _ => true) held 5 v d p) : ∃ n : Int, v = .int .u8 n ∧ 0 ≤ n ∧ n ≤ 255 := by
  obtain ⟨n, rfl, _, _, hw⟩ := open_int uU8 hv h
  simp [Lit.wf] at hw
  have e1 := (show IntKind.u8.min = 0 by kernel_rfl)
  have e2 := (show IntKind.u8.max = 255 by kernel_rfl)
  exact ⟨n, rfl, by omega, by omega⟩
set_option maxRecDepth 100000 in
theorem bool_of_trod {W : World} {base : Nat} {held : Bool} {v : Value} {d : DataW H} {p : List MemPlace} (hv : Value.okWide Tryd.prog W .any base 4 v) (h : DataW.Trod enc Tryd.prog W 0 (fun _ => true) held 4 v d p) : ∃ b : Bool, v = .bool b := by
  obtain ⟨b, rfl, _⟩ := open_bool uBl hv h
  exact ⟨b, rfl⟩
end
end Go.Proofs.YtlhldkiggmlegaaDoor

namespace Go.Proofs.YtlhldkiggmlegaaDoor
open Go.RowKit Go.Shelf Go.Sort
attribute [local go_sem] Oper.semAt_some

/-! ## The law's own: fine, small, best -/
theorem great_err {l : LogD} (h : 12 < l.at_.length ∨ 12 < l.edges.length) : logErr l ≠ 0 := by
  unfold logErr placesErr
  by_cases h1 : l.at_.length < 2 ∨ 8 < l.at_.length
  · rw [if_pos h1]; omega
  · rw [if_neg h1]
    have h2 : (l.edges.length != l.at_.length) = true := by simp; omega
    rw [if_pos (by simp [h2])]
    omega
theorem fine_any (v : Value) (l : LogD) (w : World) (hv : LogAt w v l) :
    Calls Tryd.prog 41 #[v] w fun e w' => e = .returned (.bool (decide (logErr l = 0))) ∧ Below w.heap.size w w' := by
  obtain ⟨va, ve, rfl, h1, h2⟩ := hv
  obtain ⟨a, cap, rfl⟩ := h1.slice
  obtain ⟨a', cap', rfl⟩ := h2.slice
  have HV : Hid (LogAt w (.agg #[.slice a l.at_.length cap, .slice a' l.edges.length cap']) l) := Lib.hid ⟨_, _, rfl, h1, h2⟩
  clear h1 h2
  have hL := Blk.new w (.cells #[.slice a l.at_.length cap, .slice a' l.edges.length cap'] 25)
  have hB0 := below1 w (.cells #[.slice a l.at_.length cap, .slice a' l.edges.length cap'] 25)
  have HL0 := Lib.hid hL
  have HB0 := Lib.hid hB0
  clear hB0 hL
  by_cases hg : 12 < l.at_.length ∨ 12 < l.edges.length
  · have HE := Lib.hid (show decide (logErr l = 0) = false from decide_eq_false (great_err hg))
    have HG := Lib.hid hg
    clear hg
    go_enter Tryd.func41, Tryd.ntmps41
    have Lc0 := HL0.out.cell 0
    have Lc1 := HL0.out.cell 1
    simp at Lc0 Lc1
    have Ll := HL0.out.lt
    go_wp2_with fail
    clear Lc0 Lc1 Ll
    refine (great_yes _ l _ (HV.out.below HB0.out) HG.out).mono ?_
    rintro e w1x ⟨rfl, hb⟩
    have HB1 := Lib.hid (bC HB0.out hb)
    have HL1 := Lib.hid (HL0.out.below hb)
    clear hb HB0 HL0
    go_wp2_with fail
    go_ret
    exact ⟨by rw [HE.out]; rfl, HB1.out⟩
  · have HS := Lib.hid (show l.small by unfold LogD.small; omega)
    have HG1 := Lib.hid (show l.at_.length ≤ 12 by omega)
    have HG2 := Lib.hid (show l.edges.length ≤ 12 by omega)
    clear hg
    go_enter Tryd.func41, Tryd.ntmps41
    have Lc0 := HL0.out.cell 0
    have Lc1 := HL0.out.cell 1
    simp at Lc0 Lc1
    have Ll := HL0.out.lt
    go_wp2_with fail
    clear Lc0 Lc1 Ll
    refine (great_no _ l _ (HV.out.below HB0.out) HG1.out HG2.out).mono ?_
    rintro e w1x ⟨rfl, hb⟩
    have HB1 := Lib.hid (bC HB0.out hb)
    have HL1 := Lib.hid (HL0.out.below hb)
    clear hb HB0 HL0
    have Lc0 := HL1.out.cell 0
    have Lc1 := HL1.out.cell 1
    simp at Lc0 Lc1
    have Ll := HL1.out.lt
    go_wp2_with fail
    clear Lc0 Lc1 Ll
    by_cases h0 : logErr l = 0
    · have HE := Lib.hid (show decide (logErr l = 0) = true from decide_eq_true h0)
      have hb0 : (logErr l == 0) = true := by simp [h0]
      clear h0
      refine (rCheckLog_any _ l _ (HV.out.below HB1.out) HS.out).mono ?_
      rintro e w2x ⟨rfl, hb⟩
      have HB2 := Lib.hid (bC HB1.out hb)
      have HL2 := Lib.hid (HL1.out.below hb)
      clear hb HB1 HL1
      go_wp2_with fail
      go_ret
      exact ⟨by rw [HE.out]; rfl, HB2.out⟩
    · have HE := Lib.hid (show decide (logErr l = 0) = false from decide_eq_false h0)
      have hb0 : (logErr l == 0) = false := by simp [h0]
      clear h0
      refine (rCheckLog_any _ l _ (HV.out.below HB1.out) HS.out).mono ?_
      rintro e w2x ⟨rfl, hb⟩
      have HB2 := Lib.hid (bC HB1.out hb)
      have HL2 := Lib.hid (HL1.out.below hb)
      clear hb HB1 HL1
      go_wp2_with fail
      go_ret
      exact ⟨by rw [HE.out]; rfl, HB2.out⟩
/-- A fraction that can be a best core. -/
structure Small (r : Rat) : Prop where
  den : (r.den : Int) ≤ 200
  lo : -3000 * (r.den : Int) ≤ r.num
  hi : r.num ≤ 3000 * (r.den : Int)
set_option maxHeartbeats 1000000 in
theorem small_yes (r : Rat) (w : World) (h : Small r) :
    Calls Tryd.prog 46 #[.agg #[.int .i64 r.num, .int .i64 (r.den : Int)]] w fun e w' => e = .returned (.bool true) ∧ Below w.heap.size w w' := by
  obtain ⟨h1, h2, h3⟩ := h
  have h4 : 1 ≤ (r.den : Int) := by have := r.den_pos; omega
  have hm : mkRat r.num (r.den : Int).toNat = r := by rw [Int.toNat_natCast]; exact Rat.mkRat_self r
  obtain ⟨n, hn⟩ : ∃ n, r.num = n := ⟨_, rfl⟩
  obtain ⟨d, hd⟩ : ∃ d, (r.den : Int) = d := ⟨_, rfl⟩
  rw [hd] at h1 h2 h3 h4
  rw [hn] at h2 h3
  rw [hn, hd] at hm ⊢
  have HM := Lib.hid hm
  have hq : qv r = .agg #[.int .i64 n, .int .i64 d] := by rw [qv, hn, hd]
  have hby : ∀ W, Calls Tryd.prog 51 #[.int .i64 n, .int .i64 d] W fun e w' => e = .returned (.agg #[.int .i64 n, .int .i64 d]) ∧ Below W.heap.size W w' := fun W => by
    have := rby_any n d W (by omega) (by omega) (by omega) (by omega)
    rw [HM.out, hq] at this
    exact this
  have HBY := Lib.hid hby
  clear hm hq hby hn hd HM
  have wr1 : IntKind.i64.wrap (-3000 * d) = -3000 * d := IntWalk.i64_in _ (by omega)
  have wr2 : IntKind.i64.wrap (3000 * d) = 3000 * d := IntWalk.i64_in _ (by omega)
  have t1 : decide (1 ≤ d) = true := by simp; omega
  have t2 : decide (d ≤ 200) = true := by simp; omega
  have t3 : decide (-3000 * d ≤ n) = true := by simp; omega
  have t4 : decide (n ≤ 3000 * d) = true := by simp; omega
  have heq := fun w => pair_eq n d w
  have x := Blk.new w (.cells #[.int .i64 n, .int .i64 d] 31)
  have hB := below1 w (.cells #[.int .i64 n, .int .i64 d] 31)
  go_enter Tryd.func46, Tryd.ntmps46
  go_wp2_with fail
  generalize w.alloc (.cells #[.int .i64 n, .int .i64 d] 31) = w1 at *
  have x0 := x.cell 0
  have x1 := x.cell 1
  simp at x0 x1
  have g1 := fun d os => cell_regrown x0 d os
  have g2 := fun d os => cell_regrown x1 d os
  have hk := fun (dr : Nat) (os : Array Obj) => Calls.regrown_of (HBY.out (grow (redrawn w1 dr) os))
  have HB := Lib.hid hB
  clear x x0 x1 hB
  refine wp_region_quiet_below (by kernel_rfl) (by kernel_rfl) ?_
  repeat (quiet_step ((go_at_call 51; exact hk _ _)))
  refine wpQuiet_nil ?_
  intro _ hw'
  obtain ⟨⟨dq, osq⟩, hw''⟩ := hw'
  subst hw''
  have HBF := Lib.hid (bC HB.out (below_regrown w1 dq osq))
  clear g1 g2 hk heq wr1 wr2
  generalize grow (redrawn w1 dq) osq = w6 at *
  go_wp2
  go_ret
  exact ⟨rfl, HBF.out⟩
theorem small_best {l : LogD} (hf : Fit l.at_ [l.edges]) : Small (bestV l) := by
  obtain ⟨h1, h2, h3⟩ := bestCore hf
  have hd : (0 : Rat) < ((bestV l).den : Rat) := Rat.natCast_pos.2 (bestV l).den_pos
  have e : bestV l * ((bestV l).den : Rat) = ((bestV l).num : Rat) := by
    have e0 : bestV l = ((bestV l).num : Rat) / ((bestV l).den : Rat) := by rw [← Rat.mkRat_eq_div]; exact (Rat.mkRat_self _).symm
    have := congrArg (· * ((bestV l).den : Rat)) e0
    simpa [Rat.div_mul_cancel (show ((bestV l).den : Rat) ≠ 0 by grind)] using this
  have a1 := Rat.mul_le_mul_of_nonneg_right h2 (c := ((bestV l).den : Rat)) (by grind)
  have a2 := Rat.mul_le_mul_of_nonneg_right h3 (c := ((bestV l).den : Rat)) (by grind)
  rw [e] at a1 a2
  have c1 : ((1000 : Int) : Rat) = 1000 := rfl
  have c2 : (((bestV l).den : Int) : Rat) = ((bestV l).den : Rat) := Rat.intCast_natCast _
  refine ⟨by have := h1.den; omega, ?_, ?_⟩
  · refine Rat.intCast_le_intCast.1 ?_
    rw [Rat.intCast_mul, c2]
    have c3 : ((-3000 : Int) : Rat) = -3000 := rfl
    rw [c3]
    grind
  · refine Rat.intCast_le_intCast.1 ?_
    rw [Rat.intCast_mul, c2]
    have c3 : ((3000 : Int) : Rat) = 3000 := rfl
    rw [c3]
    grind
theorem cellSO {W : World} {b c j k : Nat} {u v : Value} (h : W.cell? ⟨b, k, none⟩ = some v) (hne : b ≠ c) : (W.setCell ⟨c, j, none⟩ u).cell? ⟨b, k, none⟩ = some v := by
  have e := Below.heap_setCell W ⟨c, j, none⟩ u b hne
  unfold World.cell? at *
  simpa only [e] using h
set_option maxRecDepth 100000 in
set_option maxHeartbeats 4000000 in
theorem best_good (v : Value) (l : LogD) (w : World) (hN : NoneAt w) (hv : LogAt w v l) (h0 : logErr l = 0) :
    Calls Tryd.prog 42 #[v] w fun e w' => e = .returned (.tuple #[qv (bestV l), .bool true]) ∧ Below w.heap.size w w' := by
  obtain ⟨va, ve, rfl, h1, h2⟩ := hv
  obtain ⟨a, cap, rfl⟩ := h1.slice
  obtain ⟨a', cap', rfl⟩ := h2.slice
  have HV : Hid (LogAt w (.agg #[.slice a l.at_.length cap, .slice a' l.edges.length cap']) l) := Lib.hid ⟨_, _, rfl, h1, h2⟩
  have HN := Lib.hid hN
  clear h1 h2 hN
  have hL := (Blk.new w (.cells #[.slice a l.at_.length cap, .slice a' l.edges.length cap'] 25)).alloc (.cells #[.int .i64 0, .int .i64 0] 31)
  have hR := Blk.new (w.alloc (.cells #[.slice a l.at_.length cap, .slice a' l.edges.length cap'] 25)) (.cells #[.int .i64 0, .int .i64 0] 31)
  have hB0 := below2 w (.cells #[.slice a l.at_.length cap, .slice a' l.edges.length cap'] 25) (.cells #[.int .i64 0, .int .i64 0] 31)
  simp only [World.size_alloc] at hR
  have HL0 := Lib.hid hL
  have HR0 := Lib.hid hR
  have HB0 := Lib.hid hB0
  clear hB0 hL hR
  have hfit := logErr_fit' h0
  have HS := Lib.hid (show l.small by unfold LogD.small; have := hfit.eight; have := hfit.lens _ (List.mem_singleton.2 rfl); omega)
  obtain ⟨n, hn⟩ : ∃ n, (bestV l).num = n := ⟨_, rfl⟩
  obtain ⟨d, hd⟩ : ∃ d, ((bestV l).den : Int) = d := ⟨_, rfl⟩
  have hqv : qv (bestV l) = .agg #[.int .i64 n, .int .i64 d] := by rw [qv, hn, hd]
  have hqe : qe (bestV l) 0 = .tuple #[.agg #[.int .i64 n, .int .i64 d], .int .i64 0] := by rw [qe, if_pos rfl, hqv]
  obtain ⟨x, hx⟩ : ∃ x : Int × Int × Int, lineD (lineX l) = x := ⟨_, rfl⟩
  obtain ⟨q, hq⟩ : ∃ q, proofX l = q := ⟨_, rfl⟩
  have hcp : cpE l q = 0 := by
    have hm := (proof_best hfit).1
    obtain ⟨f, m, t, s, e, g1, g2, g3, g4⟩ := pk_shape hm
    rw [← hq, e]
    unfold cpE
    rw [if_neg (by simp [h0]), if_pos]
    rcases g4 with ⟨rfl, rfl, rfl⟩ | ⟨g4, g5, g6⟩
    · exact ⟨by simp, by simp, by simp, by simpa using g1, .inl ⟨rfl, rfl, rfl⟩⟩
    · exact ⟨by simp, by simp; omega, by simp; omega, by simpa using g3, .inr ⟨g4, by simpa using g5, by simpa using g6⟩⟩
  have hvp : valR l q = bestV l := by rw [← hq]; exact (proof_best hfit).2
  have hle : lineErr x.1 x.2.1 x.2.2 = 0 := by rw [← hx]; exact line_valid hfit
  have hce : coreE l x.1 x.2.1 x.2.2 = 0 := by rw [coreE, if_pos h0]; exact hle
  have hco : coreOf l x.1 x.2.1 x.2.2 = bestV l := by rw [← hx]; exact line_best hfit
  have hcv : coreV l x.1 x.2.1 x.2.2 = .agg #[.int .i64 n, .int .i64 d] := by rw [coreV, if_pos hce, hco, hqv]
  have HC1 : Hid (∀ W, LogAt W (.agg #[.slice a l.at_.length cap, .slice a' l.edges.length cap']) l → Calls Tryd.prog 26 #[(.agg #[.slice a l.at_.length cap, .slice a' l.edges.length cap'])] W (Gets (.tuple #[.agg #[.int .i64 n, .int .i64 d], .int .i64 0]) W)) := Lib.hid (fun W h => by have := Best_any _ l W h HS.out; rw [h0, hqe] at this; exact this)
  have HC2 : Hid (∀ W, LogAt W (.agg #[.slice a l.at_.length cap, .slice a' l.edges.length cap']) l → Calls Tryd.prog 28 #[(.agg #[.slice a l.at_.length cap, .slice a' l.edges.length cap'])] W (Gets (.tuple #[.agg #[.int .i64 x.1, .int .i64 x.2.1, .int .i64 x.2.2], .int .i64 0]) W)) := Lib.hid (fun W h => by have := Line_any _ l W h HS.out; rw [h0, hx] at this; exact this)
  have HC3 : Hid (∀ W, LogAt W (.agg #[.slice a l.at_.length cap, .slice a' l.edges.length cap']) l → Calls Tryd.prog 33 #[(.agg #[.slice a l.at_.length cap, .slice a' l.edges.length cap'])] W (Gets (.tuple #[.agg #[.int .i64 q.f, .int .i64 q.m, .int .i64 q.t, .int .i64 q.s], .int .i64 0]) W)) := Lib.hid (fun W h => by have := Proof_any _ l W h HS.out; rw [h0, hq] at this; exact this)
  have HC4 : Hid (∀ W, LogAt W (.agg #[.slice a l.at_.length cap, .slice a' l.edges.length cap']) l → Calls Tryd.prog 20 #[(.agg #[.slice a l.at_.length cap, .slice a' l.edges.length cap']), .agg #[.int .i64 x.1, .int .i64 x.2.1, .int .i64 x.2.2]] W (Gets (.tuple #[.agg #[.int .i64 n, .int .i64 d], .int .i64 0]) W)) := Lib.hid (fun W h => by have := Core_any _ l x.1 x.2.1 x.2.2 W h HS.out; rw [hcv, hce] at this; exact this)
  have HC5 : Hid (∀ W, NoneAt W → LogAt W (.agg #[.slice a l.at_.length cap, .slice a' l.edges.length cap']) l → Calls Tryd.prog 31 #[(.agg #[.slice a l.at_.length cap, .slice a' l.edges.length cap']), .agg #[.int .i64 q.f, .int .i64 q.m, .int .i64 q.t, .int .i64 q.s]] W (Gets (.tuple #[.agg #[.int .i64 n, .int .i64 d], .int .i64 0]) W)) := Lib.hid (fun W hN h => by have := CheckProof_any _ l q W hN h HS.out; rw [hcp, hvp, hqe] at this; exact this)
  have HC6 : Hid (∀ W, LogAt W (.agg #[.slice a l.at_.length cap, .slice a' l.edges.length cap']) l → Calls Tryd.prog 32 #[(.agg #[.slice a l.at_.length cap, .slice a' l.edges.length cap']), .agg #[.int .i64 q.f, .int .i64 q.m, .int .i64 q.t, .int .i64 q.s]] W (Gets (.tuple #[.agg #[.int .i64 n, .int .i64 d], .int .i64 0]) W)) := Lib.hid (fun W h => by have := rCheckProof_any _ l q W h HS.out; rw [hcp, hvp, hqe] at this; exact this)
  have HC7 : Hid (∀ W, LogAt W (.agg #[.slice a l.at_.length cap, .slice a' l.edges.length cap']) l → Calls Tryd.prog 50 #[(.agg #[.slice a l.at_.length cap, .slice a' l.edges.length cap']), .agg #[.int .i64 x.1, .int .i64 x.2.1, .int .i64 x.2.2]] W (Gets (.agg #[.int .i64 n, .int .i64 d]) W)) := Lib.hid (fun W h => by have := rCoreOf_any _ l x.1 x.2.1 x.2.2 W h hfit (lineErr_zero hle); rw [hco, hqv] at this; exact this)
  have HC8 : Hid (∀ W, Calls Tryd.prog 25 #[.agg #[.int .i64 x.1, .int .i64 x.2.1, .int .i64 x.2.2]] W (Gets (.int .i64 0) W)) := Lib.hid (fun W => by have := rCheckLine_any x.1 x.2.1 x.2.2 W; rw [hle] at this; exact this)
  have HC9 : Hid (∀ W, Calls Tryd.prog 46 #[.agg #[.int .i64 n, .int .i64 d]] W (Gets (.bool true) W)) := Lib.hid (fun W => by have := small_yes (bestV l) W (small_best hfit); rw [hn, hd] at this; exact this)
  rw [hqv]
  clear hqv hqe hx hq hcp hvp hle hce hco hcv hn hd hfit h0
  have heq := fun w => pair_eq n d w
  go_enter Tryd.func42, Tryd.ntmps42
  have Lc0 := HL0.out.cell 0
  have Lc1 := HL0.out.cell 1
  have Rc0 := HR0.out.cell 0
  have Rc1 := HR0.out.cell 1
  simp at Lc0 Lc1 Rc0 Rc1
  have Ll := HL0.out.lt
  have Rl := HR0.out.lt
  go_wp2_with fail
  clear Lc0 Lc1 Rc0 Rc1 Ll Rl
  refine (HC1.out _ (HV.out.below HB0.out)).mono ?_
  rintro e w1x ⟨rfl, hb⟩
  have HB1 := Lib.hid (bC HB0.out hb)
  have HL1 := Lib.hid (HL0.out.below hb)
  have HR1 := Lib.hid (HR0.out.below hb)
  have NE1 := Lib.hid (Nat.ne_of_gt HR1.out.lt)
  clear hb HB0 HL0 HR0
  have Lc0 := HL1.out.cell 0
  have Lc1 := HL1.out.cell 1
  simp at Lc0 Lc1
  have Ll := HL1.out.lt
  go_wp2_with fail
  clear Lc0 Lc1 Ll
  have hP := Blk.new w1x (.cells #[.int .i64 n, .int .i64 d] 31)
  have hA := below1 w1x (.cells #[.int .i64 n, .int .i64 d] 31)
  generalize w1x.alloc (.cells #[.int .i64 n, .int .i64 d] 31) = W1x at *
  have HP2 := Lib.hid hP
  clear hP
  have HB2 := Lib.hid (bC HB1.out hA)
  have HL2 := Lib.hid (HL1.out.below hA)
  have HR2 := Lib.hid (HR1.out.below hA)
  clear hA HB1 HL1 HR1
  refine (HC2.out _ (HV.out.below HB2.out)).mono ?_
  rintro e w3x ⟨rfl, hb⟩
  have HB3 := Lib.hid (bC HB2.out hb)
  have HL3 := Lib.hid (HL2.out.below hb)
  have HR3 := Lib.hid (HR2.out.below hb)
  have NE3 := Lib.hid (Nat.ne_of_gt HR3.out.lt)
  have HP3 := Lib.hid (HP2.out.below hb)
  clear hb HB2 HL2 HR2 HP2
  have Lc0 := HL3.out.cell 0
  have Lc1 := HL3.out.cell 1
  simp at Lc0 Lc1
  have Ll := HL3.out.lt
  go_wp2_with fail
  clear Lc0 Lc1 Ll
  have hT := Blk.new w3x (.cells #[.int .i64 x.1, .int .i64 x.2.1, .int .i64 x.2.2] 27)
  have hA := below1 w3x (.cells #[.int .i64 x.1, .int .i64 x.2.1, .int .i64 x.2.2] 27)
  generalize w3x.alloc (.cells #[.int .i64 x.1, .int .i64 x.2.1, .int .i64 x.2.2] 27) = W3x at *
  have HT4 := Lib.hid hT
  clear hT
  have HB4 := Lib.hid (bC HB3.out hA)
  have HL4 := Lib.hid (HL3.out.below hA)
  have HR4 := Lib.hid (HR3.out.below hA)
  have HP4 := Lib.hid (HP3.out.below hA)
  clear hA HB3 HL3 HR3 HP3
  refine (HC3.out _ (HV.out.below HB4.out)).mono ?_
  rintro e w5x ⟨rfl, hb⟩
  have HB5 := Lib.hid (bC HB4.out hb)
  have HL5 := Lib.hid (HL4.out.below hb)
  have HR5 := Lib.hid (HR4.out.below hb)
  have NE5 := Lib.hid (Nat.ne_of_gt HR5.out.lt)
  have HP5 := Lib.hid (HP4.out.below hb)
  have HT5 := Lib.hid (HT4.out.below hb)
  clear hb HB4 HL4 HR4 HP4 HT4
  have Pc0 := HP5.out.cell 0
  have Pc1 := HP5.out.cell 1
  simp at Pc0 Pc1
  have Pl := HP5.out.lt
  go_wp2_with fail
  clear Pc0 Pc1 Pl
  have hU := Blk.new w5x (.cells #[.int .i64 q.f, .int .i64 q.m, .int .i64 q.t, .int .i64 q.s] 45)
  have hA := below1 w5x (.cells #[.int .i64 q.f, .int .i64 q.m, .int .i64 q.t, .int .i64 q.s] 45)
  generalize w5x.alloc (.cells #[.int .i64 q.f, .int .i64 q.m, .int .i64 q.t, .int .i64 q.s] 45) = W5x at *
  have HU6 := Lib.hid hU
  clear hU
  have HB6 := Lib.hid (bC HB5.out hA)
  have HL6 := Lib.hid (HL5.out.below hA)
  have HR6 := Lib.hid (HR5.out.below hA)
  have HP6 := Lib.hid (HP5.out.below hA)
  have HT6 := Lib.hid (HT5.out.below hA)
  clear hA HB5 HL5 HR5 HP5 HT5
  refine (HC9.out _).mono ?_
  rintro e w7x ⟨rfl, hb⟩
  have HB7 := Lib.hid (bC HB6.out hb)
  have HL7 := Lib.hid (HL6.out.below hb)
  have HR7 := Lib.hid (HR6.out.below hb)
  have HP7 := Lib.hid (HP6.out.below hb)
  have HT7 := Lib.hid (HT6.out.below hb)
  have HU7 := Lib.hid (HU6.out.below hb)
  clear hb HB6 HL6 HR6 HP6 HT6 HU6
  have Tc0 := HT7.out.cell 0
  have Tc1 := HT7.out.cell 1
  have Tc2 := HT7.out.cell 2
  simp at Tc0 Tc1 Tc2
  have Tl := HT7.out.lt
  go_wp2_with fail
  clear Tc0 Tc1 Tc2 Tl
  refine (HC8.out _).mono ?_
  rintro e w8x ⟨rfl, hb⟩
  have HB8 := Lib.hid (bC HB7.out hb)
  have HL8 := Lib.hid (HL7.out.below hb)
  have HR8 := Lib.hid (HR7.out.below hb)
  have HP8 := Lib.hid (HP7.out.below hb)
  have HT8 := Lib.hid (HT7.out.below hb)
  have HU8 := Lib.hid (HU7.out.below hb)
  clear hb HB7 HL7 HR7 HP7 HT7 HU7
  have Lc0 := HL8.out.cell 0
  have Lc1 := HL8.out.cell 1
  have Tc0 := HT8.out.cell 0
  have Tc1 := HT8.out.cell 1
  have Tc2 := HT8.out.cell 2
  simp at Lc0 Lc1 Tc0 Tc1 Tc2
  have Ll := HL8.out.lt
  have Tl := HT8.out.lt
  go_wp2_with fail
  clear Lc0 Lc1 Tc0 Tc1 Tc2 Ll Tl
  refine (HC4.out _ (HV.out.below HB8.out)).mono ?_
  rintro e w9x ⟨rfl, hb⟩
  have HB9 := Lib.hid (bC HB8.out hb)
  have HL9 := Lib.hid (HL8.out.below hb)
  have HR9 := Lib.hid (HR8.out.below hb)
  have NE9 := Lib.hid (Nat.ne_of_gt HR9.out.lt)
  have HP9 := Lib.hid (HP8.out.below hb)
  have HT9 := Lib.hid (HT8.out.below hb)
  have HU9 := Lib.hid (HU8.out.below hb)
  clear hb HB8 HL8 HR8 HP8 HT8 HU8
  have Lc0 := HL9.out.cell 0
  have Lc1 := HL9.out.cell 1
  have Uc0 := HU9.out.cell 0
  have Uc1 := HU9.out.cell 1
  have Uc2 := HU9.out.cell 2
  have Uc3 := HU9.out.cell 3
  simp at Lc0 Lc1 Uc0 Uc1 Uc2 Uc3
  have Ll := HL9.out.lt
  have Ul := HU9.out.lt
  go_wp2_with fail
  clear Lc0 Lc1 Uc0 Uc1 Uc2 Uc3 Ll Ul
  have hV := Blk.new w9x (.cells #[.int .i64 n, .int .i64 d] 31)
  have hA := below1 w9x (.cells #[.int .i64 n, .int .i64 d] 31)
  generalize w9x.alloc (.cells #[.int .i64 n, .int .i64 d] 31) = W9x at *
  have HV10 := Lib.hid hV
  clear hV
  have HB10 := Lib.hid (bC HB9.out hA)
  have HL10 := Lib.hid (HL9.out.below hA)
  have HR10 := Lib.hid (HR9.out.below hA)
  have HP10 := Lib.hid (HP9.out.below hA)
  have HT10 := Lib.hid (HT9.out.below hA)
  have HU10 := Lib.hid (HU9.out.below hA)
  clear hA HB9 HL9 HR9 HP9 HT9 HU9
  refine (HC5.out _ (HN.out.below HB10.out) (HV.out.below HB10.out)).mono ?_
  rintro e w11x ⟨rfl, hb⟩
  have HB11 := Lib.hid (bC HB10.out hb)
  have HL11 := Lib.hid (HL10.out.below hb)
  have HR11 := Lib.hid (HR10.out.below hb)
  have NE11 := Lib.hid (Nat.ne_of_gt HR11.out.lt)
  have HP11 := Lib.hid (HP10.out.below hb)
  have HT11 := Lib.hid (HT10.out.below hb)
  have HU11 := Lib.hid (HU10.out.below hb)
  have HV11 := Lib.hid (HV10.out.below hb)
  clear hb HB10 HL10 HR10 HP10 HT10 HU10 HV10
  have Lc0 := HL11.out.cell 0
  have Lc1 := HL11.out.cell 1
  have Uc0 := HU11.out.cell 0
  have Uc1 := HU11.out.cell 1
  have Uc2 := HU11.out.cell 2
  have Uc3 := HU11.out.cell 3
  simp at Lc0 Lc1 Uc0 Uc1 Uc2 Uc3
  have Ll := HL11.out.lt
  have Ul := HU11.out.lt
  go_wp2_with fail
  clear Lc0 Lc1 Uc0 Uc1 Uc2 Uc3 Ll Ul
  have hX := Blk.new w11x (.cells #[.int .i64 n, .int .i64 d] 31)
  have hA := below1 w11x (.cells #[.int .i64 n, .int .i64 d] 31)
  generalize w11x.alloc (.cells #[.int .i64 n, .int .i64 d] 31) = W11x at *
  have HX12 := Lib.hid hX
  clear hX
  have HB12 := Lib.hid (bC HB11.out hA)
  have HL12 := Lib.hid (HL11.out.below hA)
  have HR12 := Lib.hid (HR11.out.below hA)
  have HP12 := Lib.hid (HP11.out.below hA)
  have HT12 := Lib.hid (HT11.out.below hA)
  have HU12 := Lib.hid (HU11.out.below hA)
  have HV12 := Lib.hid (HV11.out.below hA)
  clear hA HB11 HL11 HR11 HP11 HT11 HU11 HV11
  refine (HC6.out _ (HV.out.below HB12.out)).mono ?_
  rintro e w13x ⟨rfl, hb⟩
  have HB13 := Lib.hid (bC HB12.out hb)
  have HL13 := Lib.hid (HL12.out.below hb)
  have HR13 := Lib.hid (HR12.out.below hb)
  have NE13 := Lib.hid (Nat.ne_of_gt HR13.out.lt)
  have HP13 := Lib.hid (HP12.out.below hb)
  have HT13 := Lib.hid (HT12.out.below hb)
  have HU13 := Lib.hid (HU12.out.below hb)
  have HV13 := Lib.hid (HV12.out.below hb)
  have HX13 := Lib.hid (HX12.out.below hb)
  clear hb HB12 HL12 HR12 HP12 HT12 HU12 HV12 HX12
  have Lc0 := HL13.out.cell 0
  have Lc1 := HL13.out.cell 1
  simp at Lc0 Lc1
  have Ll := HL13.out.lt
  go_wp2_with fail
  clear Lc0 Lc1 Ll
  have hY := Blk.new w13x (.cells #[.int .i64 n, .int .i64 d] 31)
  have hA := below1 w13x (.cells #[.int .i64 n, .int .i64 d] 31)
  generalize w13x.alloc (.cells #[.int .i64 n, .int .i64 d] 31) = W13x at *
  have HY14 := Lib.hid hY
  clear hY
  have HB14 := Lib.hid (bC HB13.out hA)
  have HL14 := Lib.hid (HL13.out.below hA)
  have HR14 := Lib.hid (HR13.out.below hA)
  have HP14 := Lib.hid (HP13.out.below hA)
  have HT14 := Lib.hid (HT13.out.below hA)
  have HU14 := Lib.hid (HU13.out.below hA)
  have HV14 := Lib.hid (HV13.out.below hA)
  have HX14 := Lib.hid (HX13.out.below hA)
  clear hA HB13 HL13 HR13 HP13 HT13 HU13 HV13 HX13
  -- the last region
  have Lc0 := HL14.out.cell 0
  have Lc1 := HL14.out.cell 1
  have Pc0 := HP14.out.cell 0
  have Pc1 := HP14.out.cell 1
  have Tc0 := HT14.out.cell 0
  have Tc1 := HT14.out.cell 1
  have Tc2 := HT14.out.cell 2
  have Vc0 := HV14.out.cell 0
  have Vc1 := HV14.out.cell 1
  have Xc0 := HX14.out.cell 0
  have Xc1 := HX14.out.cell 1
  have Yc0 := HY14.out.cell 0
  have Yc1 := HY14.out.cell 1
  simp at Lc0 Lc1 Pc0 Pc1 Tc0 Tc1 Tc2 Vc0 Vc1 Xc0 Xc1 Yc0 Yc1
  have Ll := HL14.out.lt
  have Pl := HP14.out.lt
  have Tl := HT14.out.lt
  have Vl := HV14.out.lt
  have Xl := HX14.out.lt
  have Yl := HY14.out.lt
  have HSB : Hid (∀ W', Below W13x.heap.size W13x W' → (W'.cell? ⟨w.heap.size, 0, none⟩ = some (.slice a l.at_.length cap) ∧ W'.cell? ⟨w.heap.size, 1, none⟩ = some (.slice a' l.edges.length cap') ∧ W'.cell? ⟨w1x.heap.size, 0, none⟩ = some (.int .i64 n) ∧ W'.cell? ⟨w1x.heap.size, 1, none⟩ = some (.int .i64 d) ∧ W'.cell? ⟨w3x.heap.size, 0, none⟩ = some (.int .i64 x.1) ∧ W'.cell? ⟨w3x.heap.size, 1, none⟩ = some (.int .i64 x.2.1) ∧ W'.cell? ⟨w3x.heap.size, 2, none⟩ = some (.int .i64 x.2.2) ∧ W'.cell? ⟨w9x.heap.size, 0, none⟩ = some (.int .i64 n) ∧ W'.cell? ⟨w9x.heap.size, 1, none⟩ = some (.int .i64 d) ∧ W'.cell? ⟨w11x.heap.size, 0, none⟩ = some (.int .i64 n) ∧ W'.cell? ⟨w11x.heap.size, 1, none⟩ = some (.int .i64 d) ∧ W'.cell? ⟨w13x.heap.size, 0, none⟩ = some (.int .i64 n) ∧ W'.cell? ⟨w13x.heap.size, 1, none⟩ = some (.int .i64 d))) := Lib.hid (fun W' h => ⟨cellB Lc0 h, cellB Lc1 h, cellB Pc0 h, cellB Pc1 h, cellB Tc0 h, cellB Tc1 h, cellB Tc2 h, cellB Vc0 h, cellB Vc1 h, cellB Xc0 h, cellB Xc1 h, cellB Yc0 h, cellB Yc1 h⟩)
  clear Lc0 Lc1 Pc0 Pc1 Tc0 Tc1 Tc2 Vc0 Vc1 Xc0 Xc1 Yc0 Yc1 Ll Pl Tl Vl Xl Yl
  refine wp_region_T 34 (fun W' => (W'.cell? ⟨w.heap.size, 0, none⟩ = some (.slice a l.at_.length cap) ∧ W'.cell? ⟨w.heap.size, 1, none⟩ = some (.slice a' l.edges.length cap') ∧ W'.cell? ⟨w1x.heap.size, 0, none⟩ = some (.int .i64 n) ∧ W'.cell? ⟨w1x.heap.size, 1, none⟩ = some (.int .i64 d) ∧ W'.cell? ⟨w3x.heap.size, 0, none⟩ = some (.int .i64 x.1) ∧ W'.cell? ⟨w3x.heap.size, 1, none⟩ = some (.int .i64 x.2.1) ∧ W'.cell? ⟨w3x.heap.size, 2, none⟩ = some (.int .i64 x.2.2) ∧ W'.cell? ⟨w9x.heap.size, 0, none⟩ = some (.int .i64 n) ∧ W'.cell? ⟨w9x.heap.size, 1, none⟩ = some (.int .i64 d) ∧ W'.cell? ⟨w11x.heap.size, 0, none⟩ = some (.int .i64 n) ∧ W'.cell? ⟨w11x.heap.size, 1, none⟩ = some (.int .i64 d) ∧ W'.cell? ⟨w13x.heap.size, 0, none⟩ = some (.int .i64 n) ∧ W'.cell? ⟨w13x.heap.size, 1, none⟩ = some (.int .i64 d))) (by kernel_rfl) (by kernel_rfl) (HSB.out _ (Below.refl _ _).drew) ?_
  intro inv hS
  refine wpAnyT_take inv (by kernel_rfl) (by omega) (i := 0) (v := .agg #[.int .i64 n, .int .i64 d]) rfl (by kernel_rfl) (by kernel_rfl) (fun _ _ _ h => h) (Or.inl ⟨by kernel_rfl, ?_⟩) (by assumption) ?_
  · rintro W' ⟨s0, s1, s2, s3, s4, s5, s6, s7, s8, s9, s10, s11, s12⟩
    go_simp
  intro inv2
  clear inv
  have inv := inv2
  clear inv2
  simp only [Act.put, List.setIfInBounds_toArray]
  refine wpAnyT_take inv (by kernel_rfl) (by omega) (i := 1) (v := .int .i64 0) rfl (by kernel_rfl) (by kernel_rfl) (fun _ _ _ h => h) (Or.inl ⟨by kernel_rfl, ?_⟩) (by assumption) ?_
  · rintro W' ⟨s0, s1, s2, s3, s4, s5, s6, s7, s8, s9, s10, s11, s12⟩
    go_simp
  intro inv2
  clear inv
  have inv := inv2
  clear inv2
  simp only [Act.put]
  refine wpAnyT_take inv (by kernel_rfl) (by omega) (i := 2) (v := .bool true) rfl (by kernel_rfl) (by kernel_rfl) (fun _ _ _ h => h) (Or.inl ⟨by kernel_rfl, ?_⟩) (by assumption) ?_
  · rintro W' ⟨s0, s1, s2, s3, s4, s5, s6, s7, s8, s9, s10, s11, s12⟩
    go_simp
  intro inv2
  clear inv
  have inv := inv2
  clear inv2
  simp only [Act.put]
  refine wpAnyT_take inv (by kernel_rfl) (by omega) (i := 3) (v := .bool true) rfl (by kernel_rfl) (by kernel_rfl) (fun _ _ _ h => h) (Or.inl ⟨by kernel_rfl, ?_⟩) (by assumption) ?_
  · rintro W' ⟨s0, s1, s2, s3, s4, s5, s6, s7, s8, s9, s10, s11, s12⟩
    go_simp
  intro inv2
  clear inv
  have inv := inv2
  clear inv2
  simp only [Act.put]
  refine wpAnyT_take inv (by kernel_rfl) (by omega) (i := 4) (v := .int .i64 0) rfl (by kernel_rfl) (by kernel_rfl) (fun _ _ _ h => h) (Or.inl ⟨by kernel_rfl, ?_⟩) (by assumption) ?_
  · rintro W' ⟨s0, s1, s2, s3, s4, s5, s6, s7, s8, s9, s10, s11, s12⟩
    go_simp
  intro inv2
  clear inv
  have inv := inv2
  clear inv2
  simp only [Act.put]
  refine wpAnyT_take inv (by kernel_rfl) (by omega) (i := 5) (v := .bool true) rfl (by kernel_rfl) (by kernel_rfl) (fun _ _ _ h => h) (Or.inl ⟨by kernel_rfl, ?_⟩) (by assumption) ?_
  · rintro W' ⟨s0, s1, s2, s3, s4, s5, s6, s7, s8, s9, s10, s11, s12⟩
    go_simp
  intro inv2
  clear inv
  have inv := inv2
  clear inv2
  simp only [Act.put]
  refine wpAnyT_take inv (by kernel_rfl) (by omega) (i := 6) (v := .bool true) rfl (by kernel_rfl) (by kernel_rfl) (fun _ _ _ h => h) (Or.inl ⟨by kernel_rfl, ?_⟩) (by assumption) ?_
  · rintro W' ⟨s0, s1, s2, s3, s4, s5, s6, s7, s8, s9, s10, s11, s12⟩
    go_simp
  intro inv2
  clear inv
  have inv := inv2
  clear inv2
  simp only [Act.put]
  refine wpAnyT_take inv (by kernel_rfl) (by omega) (i := 7) (v := .bool true) rfl (by kernel_rfl) (by kernel_rfl) (fun _ _ _ h => h) (Or.inl ⟨by kernel_rfl, ?_⟩) (by assumption) ?_
  · rintro W' ⟨s0, s1, s2, s3, s4, s5, s6, s7, s8, s9, s10, s11, s12⟩
    go_simp
  intro inv2
  clear inv
  have inv := inv2
  clear inv2
  simp only [Act.put]
  refine wpAnyT_take inv (by kernel_rfl) (by omega) (i := 8) (v := .int .i64 0) rfl (by kernel_rfl) (by kernel_rfl) (fun _ _ _ h => h) (Or.inl ⟨by kernel_rfl, ?_⟩) (by assumption) ?_
  · rintro W' ⟨s0, s1, s2, s3, s4, s5, s6, s7, s8, s9, s10, s11, s12⟩
    go_simp
  intro inv2
  clear inv
  have inv := inv2
  clear inv2
  simp only [Act.put]
  refine wpAnyT_take inv (by kernel_rfl) (by omega) (i := 9) (v := .bool true) rfl (by kernel_rfl) (by kernel_rfl) (fun _ _ _ h => h) (Or.inl ⟨by kernel_rfl, ?_⟩) (by assumption) ?_
  · rintro W' ⟨s0, s1, s2, s3, s4, s5, s6, s7, s8, s9, s10, s11, s12⟩
    go_simp
  intro inv2
  clear inv
  have inv := inv2
  clear inv2
  simp only [Act.put]
  refine wpAnyT_take inv (by kernel_rfl) (by omega) (i := 10) (v := .bool true) rfl (by kernel_rfl) (by kernel_rfl) (fun _ _ _ h => h) (Or.inl ⟨by kernel_rfl, ?_⟩) (by assumption) ?_
  · rintro W' ⟨s0, s1, s2, s3, s4, s5, s6, s7, s8, s9, s10, s11, s12⟩
    go_simp
  intro inv2
  clear inv
  have inv := inv2
  clear inv2
  simp only [Act.put]
  refine wpAnyT_take inv (by kernel_rfl) (by omega) (i := 11) (v := .bool true) rfl (by kernel_rfl) (by kernel_rfl) (fun _ _ _ h => h) (Or.inl ⟨by kernel_rfl, ?_⟩) (by assumption) ?_
  · rintro W' ⟨s0, s1, s2, s3, s4, s5, s6, s7, s8, s9, s10, s11, s12⟩
    go_simp
  intro inv2
  clear inv
  have inv := inv2
  clear inv2
  simp only [Act.put]
  refine wpAnyT_take inv (by kernel_rfl) (by omega) (i := 12) (v := .agg #[.int .i64 n, .int .i64 d]) rfl (by kernel_rfl) (by kernel_rfl) (fun _ _ _ h => h) (Or.inl ⟨by kernel_rfl, ?_⟩) (by assumption) ?_
  · rintro W' ⟨s0, s1, s2, s3, s4, s5, s6, s7, s8, s9, s10, s11, s12⟩
    go_simp
  intro inv2
  clear inv
  have inv := inv2
  clear inv2
  simp only [Act.put]
  refine wpAnyT_take inv (by kernel_rfl) (by omega) (i := 13) (v := .agg #[.int .i64 n, .int .i64 d]) rfl (by kernel_rfl) (by kernel_rfl) (fun _ _ _ h => h) (Or.inl ⟨by kernel_rfl, ?_⟩) (by assumption) ?_
  · rintro W' ⟨s0, s1, s2, s3, s4, s5, s6, s7, s8, s9, s10, s11, s12⟩
    go_simp
  intro inv2
  clear inv
  have inv := inv2
  clear inv2
  simp only [Act.put]
  refine wpAnyT_take inv (by kernel_rfl) (by omega) (i := 14) (v := .bool true) rfl (by kernel_rfl) (by kernel_rfl) (fun _ _ _ h => h) (Or.inl ⟨by kernel_rfl, ?_⟩) (by assumption) ?_
  · rintro W' ⟨s0, s1, s2, s3, s4, s5, s6, s7, s8, s9, s10, s11, s12⟩
    have hq := heq W'; go_simp
  intro inv2
  clear inv
  have inv := inv2
  clear inv2
  simp only [Act.put]
  refine wpAnyT_take inv (by kernel_rfl) (by omega) (i := 15) (v := .bool true) rfl (by kernel_rfl) (by kernel_rfl) (fun _ _ _ h => h) (Or.inl ⟨by kernel_rfl, ?_⟩) (by assumption) ?_
  · rintro W' ⟨s0, s1, s2, s3, s4, s5, s6, s7, s8, s9, s10, s11, s12⟩
    go_simp
  intro inv2
  clear inv
  have inv := inv2
  clear inv2
  simp only [Act.put]
  refine wpAnyT_take inv (by kernel_rfl) (by omega) (i := 16) (v := .bool true) rfl (by kernel_rfl) (by kernel_rfl) (fun _ _ _ h => h) (Or.inl ⟨by kernel_rfl, ?_⟩) (by assumption) ?_
  · rintro W' ⟨s0, s1, s2, s3, s4, s5, s6, s7, s8, s9, s10, s11, s12⟩
    go_simp
  intro inv2
  clear inv
  have inv := inv2
  clear inv2
  simp only [Act.put]
  refine wpAnyT_take inv (by kernel_rfl) (by omega) (i := 17) (v := .agg #[.int .i64 n, .int .i64 d]) rfl (by kernel_rfl) (by kernel_rfl) (fun _ _ _ h => h) (Or.inl ⟨by kernel_rfl, ?_⟩) (by assumption) ?_
  · rintro W' ⟨s0, s1, s2, s3, s4, s5, s6, s7, s8, s9, s10, s11, s12⟩
    go_simp
  intro inv2
  clear inv
  have inv := inv2
  clear inv2
  simp only [Act.put]
  refine wpAnyT_take inv (by kernel_rfl) (by omega) (i := 18) (v := .agg #[.int .i64 n, .int .i64 d]) rfl (by kernel_rfl) (by kernel_rfl) (fun _ _ _ h => h) (Or.inl ⟨by kernel_rfl, ?_⟩) (by assumption) ?_
  · rintro W' ⟨s0, s1, s2, s3, s4, s5, s6, s7, s8, s9, s10, s11, s12⟩
    go_simp
  intro inv2
  clear inv
  have inv := inv2
  clear inv2
  simp only [Act.put]
  refine wpAnyT_take inv (by kernel_rfl) (by omega) (i := 19) (v := .bool true) rfl (by kernel_rfl) (by kernel_rfl) (fun _ _ _ h => h) (Or.inl ⟨by kernel_rfl, ?_⟩) (by assumption) ?_
  · rintro W' ⟨s0, s1, s2, s3, s4, s5, s6, s7, s8, s9, s10, s11, s12⟩
    have hq := heq W'; go_simp
  intro inv2
  clear inv
  have inv := inv2
  clear inv2
  simp only [Act.put]
  refine wpAnyT_take inv (by kernel_rfl) (by omega) (i := 20) (v := .bool true) rfl (by kernel_rfl) (by kernel_rfl) (fun _ _ _ h => h) (Or.inl ⟨by kernel_rfl, ?_⟩) (by assumption) ?_
  · rintro W' ⟨s0, s1, s2, s3, s4, s5, s6, s7, s8, s9, s10, s11, s12⟩
    go_simp
  intro inv2
  clear inv
  have inv := inv2
  clear inv2
  simp only [Act.put]
  refine wpAnyT_take inv (by kernel_rfl) (by omega) (i := 21) (v := .bool true) rfl (by kernel_rfl) (by kernel_rfl) (fun _ _ _ h => h) (Or.inl ⟨by kernel_rfl, ?_⟩) (by assumption) ?_
  · rintro W' ⟨s0, s1, s2, s3, s4, s5, s6, s7, s8, s9, s10, s11, s12⟩
    go_simp
  intro inv2
  clear inv
  have inv := inv2
  clear inv2
  simp only [Act.put]
  refine wpAnyT_take inv (by kernel_rfl) (by omega) (i := 22) (v := .agg #[.int .i64 n, .int .i64 d]) rfl (by kernel_rfl) (by kernel_rfl) (fun _ _ _ h => h) (Or.inl ⟨by kernel_rfl, ?_⟩) (by assumption) ?_
  · rintro W' ⟨s0, s1, s2, s3, s4, s5, s6, s7, s8, s9, s10, s11, s12⟩
    go_simp
  intro inv2
  clear inv
  have inv := inv2
  clear inv2
  simp only [Act.put]
  refine wpAnyT_take inv (by kernel_rfl) (by omega) (i := 23) (v := .agg #[.int .i64 n, .int .i64 d]) rfl (by kernel_rfl) (by kernel_rfl) (fun _ _ _ h => h) (Or.inl ⟨by kernel_rfl, ?_⟩) (by assumption) ?_
  · rintro W' ⟨s0, s1, s2, s3, s4, s5, s6, s7, s8, s9, s10, s11, s12⟩
    go_simp
  intro inv2
  clear inv
  have inv := inv2
  clear inv2
  simp only [Act.put]
  refine wpAnyT_take inv (by kernel_rfl) (by omega) (i := 24) (v := .bool true) rfl (by kernel_rfl) (by kernel_rfl) (fun _ _ _ h => h) (Or.inl ⟨by kernel_rfl, ?_⟩) (by assumption) ?_
  · rintro W' ⟨s0, s1, s2, s3, s4, s5, s6, s7, s8, s9, s10, s11, s12⟩
    have hq := heq W'; go_simp
  intro inv2
  clear inv
  have inv := inv2
  clear inv2
  simp only [Act.put]
  refine wpAnyT_take inv (by kernel_rfl) (by omega) (i := 25) (v := .bool true) rfl (by kernel_rfl) (by kernel_rfl) (fun _ _ _ h => h) (Or.inl ⟨by kernel_rfl, ?_⟩) (by assumption) ?_
  · rintro W' ⟨s0, s1, s2, s3, s4, s5, s6, s7, s8, s9, s10, s11, s12⟩
    go_simp
  intro inv2
  clear inv
  have inv := inv2
  clear inv2
  simp only [Act.put]
  refine wpAnyT_take inv (by kernel_rfl) (by omega) (i := 26) (v := .bool true) rfl (by kernel_rfl) (by kernel_rfl) (fun _ _ _ h => h) (Or.inl ⟨by kernel_rfl, ?_⟩) (by assumption) ?_
  · rintro W' ⟨s0, s1, s2, s3, s4, s5, s6, s7, s8, s9, s10, s11, s12⟩
    go_simp
  intro inv2
  clear inv
  have inv := inv2
  clear inv2
  simp only [Act.put]
  refine wpAnyT_take inv (by kernel_rfl) (by omega) (i := 27) (v := (.agg #[.slice a l.at_.length cap, .slice a' l.edges.length cap'])) rfl (by kernel_rfl) (by kernel_rfl) (fun _ _ _ h => h) (Or.inl ⟨by kernel_rfl, ?_⟩) (by assumption) ?_
  · rintro W' ⟨s0, s1, s2, s3, s4, s5, s6, s7, s8, s9, s10, s11, s12⟩
    go_simp
  intro inv2
  clear inv
  have inv := inv2
  clear inv2
  simp only [Act.put]
  refine wpAnyT_take inv (by kernel_rfl) (by omega) (i := 28) (v := .agg #[.int .i64 x.1, .int .i64 x.2.1, .int .i64 x.2.2]) rfl (by kernel_rfl) (by kernel_rfl) (fun _ _ _ h => h) (Or.inl ⟨by kernel_rfl, ?_⟩) (by assumption) ?_
  · rintro W' ⟨s0, s1, s2, s3, s4, s5, s6, s7, s8, s9, s10, s11, s12⟩
    go_simp
  intro inv2
  clear inv
  have inv := inv2
  clear inv2
  simp only [Act.put]
  refine wpAnyT_take inv (by kernel_rfl) (by omega) (i := 30) (v := .agg #[.int .i64 n, .int .i64 d]) rfl (by kernel_rfl) (by kernel_rfl) (fun _ _ _ h => h) (Or.inl ⟨by kernel_rfl, ?_⟩) (by assumption) ?_
  · rintro W' ⟨s0, s1, s2, s3, s4, s5, s6, s7, s8, s9, s10, s11, s12⟩
    go_simp
  intro inv2
  clear inv
  have inv := inv2
  clear inv2
  simp only [Act.put]
  have inv2 := inv.set (i := 29) (List.elem_iff.1 (by kernel_rfl)) (by omega)
  refine wpAnyT_ready [29] (by kernel_rfl) (by simp) ?_
  refine AllReadyT.cons rfl (fun K hK => ?_) AllReadyT.nil
  go_simp
  refine (HC7.out _ ((HV.out.below HB14.out).below (Below.refl _ _).drew)).mono ?_
  rintro e w29 ⟨rfl, hb⟩
  have hb29 : Below W13x.heap.size W13x w29 := ((Below.refl W13x.heap.size W13x).drew).trans hb
  refine hK.out _ _ (fun _ => HSB.out _ hb29) (fun hS29 => ?_)
  clear hK K hS
  have hS := hS29 (by omega)
  clear hS29 inv
  have inv := inv2
  clear inv2
  refine wpAnyT_take inv (by kernel_rfl) (by omega) (i := 31) (v := .bool true) rfl (by kernel_rfl) (by kernel_rfl) (fun _ _ _ h => h) (Or.inl ⟨by kernel_rfl, ?_⟩) (by assumption) ?_
  · rintro W' ⟨s0, s1, s2, s3, s4, s5, s6, s7, s8, s9, s10, s11, s12⟩
    have hq := heq W'; go_simp
  intro inv2
  clear inv
  have inv := inv2
  clear inv2
  simp only [Act.put]
  refine wpAnyT_take inv (by kernel_rfl) (by omega) (i := 32) (v := .bool true) rfl (by kernel_rfl) (by kernel_rfl) (fun _ _ _ h => h) (Or.inl ⟨by kernel_rfl, ?_⟩) (by assumption) ?_
  · rintro W' ⟨s0, s1, s2, s3, s4, s5, s6, s7, s8, s9, s10, s11, s12⟩
    go_simp
  intro inv2
  clear inv
  have inv := inv2
  clear inv2
  simp only [Act.put]
  have Rr := HR14.out.below hb29
  have HBF := Lib.hid (bC HB14.out hb29)
  clear hb
  have f0 := Rr.frozen 0
  have f1 := Rr.frozen 1
  have u0 := Rr.cell 0
  have u1 := Rr.cell 1
  have ltr := Rr.lt
  simp at u0 u1
  have U := ((Rr.set (j := 0) (.int .i64 n)).set (j := 1) (.int .i64 d))
  have v0 := U.cell 0
  have v1 := U.cell 1
  simp at v0 v1
  refine wpAnyT_ready [33] (by kernel_rfl) (by simp) ?_
  refine AllReadyT.cons rfl (fun K hK => ?_) AllReadyT.nil
  go_simp
  refine hK.out _ _ (fun _ => ?_) (fun _ => ?_)
  · obtain ⟨s0, s1, s2, s3, s4, s5, s6, s7, s8, s9, s10, s11, s12⟩ := hS
    exact ⟨cellSO (cellSO s0 (by omega)) (by omega), cellSO (cellSO s1 (by omega)) (by omega), cellSO (cellSO s2 NE1.out) NE1.out, cellSO (cellSO s3 NE1.out) NE1.out, cellSO (cellSO s4 NE3.out) NE3.out, cellSO (cellSO s5 NE3.out) NE3.out, cellSO (cellSO s6 NE3.out) NE3.out, cellSO (cellSO s7 NE9.out) NE9.out, cellSO (cellSO s8 NE9.out) NE9.out, cellSO (cellSO s9 NE11.out) NE11.out, cellSO (cellSO s10 NE11.out) NE11.out, cellSO (cellSO s11 NE13.out) NE13.out, cellSO (cellSO s12 NE13.out) NE13.out⟩
  clear hK K hS inv
  refine wpAnyT_chain (fuel := 1) rfl (by kernel_rfl) ?_
  simp only [List.drop_succ_cons, List.drop_zero]
  go_wp2
  refine bodyPost_ret (v := .tuple #[.agg #[.int .i64 n, .int .i64 d], .bool true]) (by simp [results, Tryd.results42, go_sem, v0, v1]) rfl ⟨rfl, ?_⟩
  exact bS2 HBF.out (by omega)
end Go.Proofs.YtlhldkiggmlegaaDoor

namespace Go.Proofs.YtlhldkiggmlegaaDoor

/-! ## What a proof proves is small; the core of a line by two heights is small -/
theorem num_ge {r : Rat} {m : Int} (h : (m : Rat) ≤ r) : m * (r.den : Int) ≤ r.num := by
  have hd : (0 : Rat) < (r.den : Rat) := Rat.natCast_pos.2 r.den_pos
  have e : r * (r.den : Rat) = (r.num : Rat) := by
    have e0 : r = (r.num : Rat) / (r.den : Rat) := by rw [← Rat.mkRat_eq_div]; exact (Rat.mkRat_self _).symm
    have := congrArg (· * (r.den : Rat)) e0
    simpa [Rat.div_mul_cancel (show (r.den : Rat) ≠ 0 by grind)] using this
  have a1 := Rat.mul_le_mul_of_nonneg_right h (c := (r.den : Rat)) (by grind)
  rw [e] at a1
  refine Rat.intCast_le_intCast.1 ?_
  rw [Rat.intCast_mul, Rat.intCast_natCast]
  exact a1
theorem num_le {r : Rat} {m : Int} (h : r ≤ (m : Rat)) : r.num ≤ m * (r.den : Int) := by
  have hd : (0 : Rat) < (r.den : Rat) := Rat.natCast_pos.2 r.den_pos
  have e : r * (r.den : Rat) = (r.num : Rat) := by
    have e0 : r = (r.num : Rat) / (r.den : Rat) := by rw [← Rat.mkRat_eq_div]; exact (Rat.mkRat_self _).symm
    have := congrArg (· * (r.den : Rat)) e0
    simpa [Rat.div_mul_cancel (show (r.den : Rat) ≠ 0 by grind)] using this
  have a1 := Rat.mul_le_mul_of_nonneg_right h (c := (r.den : Rat)) (by grind)
  rw [e] at a1
  refine Rat.intCast_le_intCast.1 ?_
  rw [Rat.intCast_mul, Rat.intCast_natCast]
  exact a1
theorem small_val {l : LogD} (hf : Fit l.at_ [l.edges]) {p : PK} (hp : p ∈ proofsL l.at_.length) : Small (valR l p) := by
  obtain ⟨D, h1, h2, h3⟩ := valR_fr hf hp
  have hden := Nat.le_trans (h3.dens h1) h2
  have hb : -1000 ≤ valR l p ∧ valR l p ≤ 1000 := by
    rcases List.mem_append.1 hp with hp | hp
    · obtain ⟨i, hi, rfl⟩ := List.mem_map.1 hp
      rw [valR_single]
      have h2 := half_eq ((hiD l i : Rat) - (loD l i : Rat))
      obtain ⟨y1, y2, y3, y4⟩ := edge_bd hf (List.mem_range.1 hi)
      constructor <;> grind
    · obtain ⟨j, hj, hp⟩ := List.mem_flatMap.1 hp
      obtain ⟨m, hm, hp⟩ := List.mem_flatMap.1 hp
      obtain ⟨i, hi, hp⟩ := List.mem_flatMap.1 hp
      rw [List.mem_range] at hj hm hi
      have a1 := strict_at hf hi (show m < l.at_.length by omega)
      have a2 := strict_at hf hm hj
      obtain ⟨y1, y2, y3, y4⟩ := edge_bd hf (show m < l.at_.length by omega)
      obtain ⟨u1, u2, u3, u4⟩ := edge_bd hf (show i < l.at_.length by omega)
      obtain ⟨v1, v2, v3, v4⟩ := edge_bd hf hj
      simp only [tri3, List.mem_cons, List.not_mem_nil, or_false] at hp
      rcases hp with rfl | rfl
      · rw [valR_one]
        have h2 := half_eq ((hiD l m : Rat) - lineAt (loP l i) (loP l j) (atD l m))
        have h3 := line_between (a := loP l i) (b := loP l j) a1 a2 u2 v2
        have h4 := between_line (a := loP l i) (b := loP l j) a1 a2 u1 v1
        constructor <;> grind
      · rw [valR_two]
        have h2 := half_eq (lineAt (hiP l i) (hiP l j) (atD l m) - (loD l m : Rat))
        have h3 := between_line (a := hiP l i) (b := hiP l j) a1 a2 u3 v3
        have h4 := line_between (a := hiP l i) (b := hiP l j) a1 a2 u4 v4
        constructor <;> grind
  have c1 : ((-3000 : Int) : Rat) = -3000 := rfl
  have c2 : ((3000 : Int) : Rat) = 3000 := rfl
  exact ⟨by omega, num_ge (by rw [c1]; grind), num_le (by rw [c2]; grind)⟩

/-- A line by two heights, at the first place and at the last. -/
def linedD (l : LogD) (a b : Int) : Int × Int × Int :=
  (atD l (l.at_.length - 1) - atD l 0, a * atD l (l.at_.length - 1) - b * atD l 0, b - a)
theorem lined_bd {l : LogD} (hf : Fit l.at_ [l.edges]) : 0 ≤ atD l 0 ∧ atD l 0 < atD l (l.at_.length - 1) ∧ atD l (l.at_.length - 1) ≤ 100 := by
  have h2 := hf.two
  exact ⟨(at_bd hf (show 0 < l.at_.length by omega)).1, strict_at hf (show 0 < l.at_.length - 1 by omega) (by omega), (at_bd hf (show l.at_.length - 1 < l.at_.length by omega)).2⟩
theorem mulL_bd {a x : Int} (h1 : -2000 ≤ a) (h2 : a ≤ 2000) (h3 : 0 ≤ x) : -(2000 * x) ≤ a * x ∧ a * x ≤ 2000 * x := by
  have a1 := Int.mul_le_mul_of_nonneg_right h1 h3
  have a2 := Int.mul_le_mul_of_nonneg_right h2 h3
  omega
theorem lined_err {l : LogD} (hf : Fit l.at_ [l.edges]) {a b : Int} (ha : -2000 ≤ a) (ha' : a ≤ 2000) (hb : -2000 ≤ b) (hb' : b ≤ 2000) :
    lineErr (linedD l a b).1 (linedD l a b).2.1 (linedD l a b).2.2 = 0 := by
  obtain ⟨h1, h2, h3⟩ := lined_bd hf
  have m1 := mulL_bd ha ha' (show 0 ≤ atD l (l.at_.length - 1) by omega)
  have m2 := mulL_bd hb hb' h1
  unfold lineErr linedD
  simp only
  rw [if_neg (by omega)]
theorem lined_core {l : LogD} (hf : Fit l.at_ [l.edges]) {a b : Int} (ha : -2000 ≤ a) (ha' : a ≤ 2000) (hb : -2000 ≤ b) (hb' : b ≤ 2000) {c : Rat}
    (hc : coreOf l (linedD l a b).1 (linedD l a b).2.1 (linedD l a b).2.2 = c) : (c.den : Int) ≤ 100 ∧ -5000 * (c.den : Int) ≤ c.num ∧ c.num ≤ 5000 * (c.den : Int) := by
  obtain ⟨h1, h2, h3⟩ := lined_bd hf
  generalize hF : atD l 0 = F at *
  generalize hL : atD l (l.at_.length - 1) = L at *
  simp only [linedD, hF, hL] at hc
  obtain ⟨D, hD⟩ := Int.eq_ofNat_of_zero_le (show 0 ≤ L - F by omega)
  have hD0 : 0 < D := by omega
  have hDr : (0 : Rat) < (D : Rat) := Rat.natCast_pos.2 hD0
  have hm : strAt (L - F) (a * L - b * F) (b - a) (atD l 0) - (loD l 0 : Rat) ∈ coreList l (strAt (L - F) (a * L - b * F) (b - a)) := (mem_core hf).2 ⟨0, by have := hf.two; omega, .inl rfl⟩
  obtain ⟨y, hy⟩ := leastR_some (show coreList l (strAt (L - F) (a * L - b * F) (b - a)) ≠ [] from fun e => by rw [e] at hm; cases hm)
  have e : coreOf l (L - F) (a * L - b * F) (b - a) = y := by unfold coreOf; rw [hy]; rfl
  rw [e] at hc
  subst hc
  obtain ⟨k, hk, h4⟩ := (mem_core hf).1 (leastR_mem hy)
  have hx1 : F ≤ atD l k := by
    by_cases h0 : k = 0
    · subst h0; omega
    · have := strict_at hf (show 0 < k by omega) hk; omega
  have hx2 : atD l k ≤ L := by
    by_cases h0 : k = l.at_.length - 1
    · subst h0; omega
    · have := strict_at hf (show k < l.at_.length - 1 by omega) (by omega); omega
  have hs : strAt (L - F) (a * L - b * F) (b - a) (atD l k) * (D : Rat) = ((a * L - b * F + atD l k * (b - a) : Int) : Rat) := by
    unfold strAt
    rw [hD, Int.toNat_natCast, Rat.mkRat_eq_div]
    exact Rat.div_mul_cancel (by grind)
  have m1 := mulL_bd ha ha' (show 0 ≤ L - atD l k by omega)
  have m2 := mulL_bd hb hb' (show 0 ≤ atD l k - F by omega)
  have hN : a * L - b * F + atD l k * (b - a) = a * (L - atD l k) + b * (atD l k - F) := by grind
  obtain ⟨y1, y2, y3, y4⟩ := edge_bd hf hk
  generalize hz : strAt (L - F) (a * L - b * F) (b - a) (atD l k) = z at *
  generalize hNN : a * L - b * F + atD l k * (b - a) = N at *
  have n1 : -(2000 * (D : Int)) ≤ N := by omega
  have n2 : N ≤ 2000 * (D : Int) := by omega
  have n1' : (-2000 : Rat) * (D : Rat) ≤ z * (D : Rat) := by
    rw [hs]
    have := (Rat.intCast_le_intCast (a := -2000 * (D : Int)) (b := N)).2 (by omega)
    rw [Rat.intCast_mul, Rat.intCast_natCast] at this
    exact this
  have n2' : z * (D : Rat) ≤ (2000 : Rat) * (D : Rat) := by
    rw [hs]
    have := (Rat.intCast_le_intCast (a := N) (b := 2000 * (D : Int))).2 (by omega)
    rw [Rat.intCast_mul, Rat.intCast_natCast] at this
    exact this
  have z1 : -2000 ≤ z := Rat.le_of_mul_le_mul_right n1' hDr
  have z2 : z ≤ 2000 := Rat.le_of_mul_le_mul_right n2' hDr
  have hyb : -5000 ≤ y ∧ y ≤ 5000 := by rcases h4 with h4 | h4 <;> constructor <;> grind
  have hden : y.den ≤ D := by
    obtain ⟨K, hK⟩ : ∃ K : Int, y * (D : Rat) = (K : Rat) := by
      rcases h4 with h4 | h4
      · refine ⟨N - loD l k * (D : Int), ?_⟩
        rw [h4, Rat.intCast_sub, Rat.intCast_mul, Rat.intCast_natCast]; grind
      · refine ⟨hiD l k * (D : Int) - N, ?_⟩
        rw [h4, Rat.intCast_sub, Rat.intCast_mul, Rat.intCast_natCast]; grind
    have : y = mkRat K D := (mkRat_of hD0 hK).symm
    rw [this]
    exact (mkRat_bd K D hD0).2.2
  have c1 : ((-5000 : Int) : Rat) = -5000 := rfl
  have c2 : ((5000 : Int) : Rat) = 5000 := rfl
  exact ⟨by omega, num_ge (by rw [c1]; exact hyb.1), num_le (by rw [c2]; exact hyb.2)⟩
end Go.Proofs.YtlhldkiggmlegaaDoor

namespace Go.Proofs.YtlhldkiggmlegaaDoor
open Go.RowKit Go.Shelf Go.Sort
attribute [local go_sem] Oper.semAt_some

/-! ## The law's own: Lined -/
theorem tm_bd (x : Int) : -2000 ≤ x.tmod 2001 ∧ x.tmod 2001 ≤ 2000 := by
  have h1 : (x.tmod 2001).natAbs = x.natAbs % (2001 : Int).natAbs := Int.natAbs_tmod ..
  have h2 : x.natAbs % (2001 : Int).natAbs < 2001 := Nat.mod_lt _ (by decide)
  omega
set_option maxRecDepth 100000 in
set_option maxHeartbeats 4000000 in
theorem Lined_any (v : Value) (l : LogD) (one two : Int) (w : World) (hv : LogAt w v l) (hf : Fit l.at_ [l.edges]) (h1 : -32768 ≤ one ∧ one ≤ 32767) (h2 : -32768 ≤ two ∧ two ≤ 32767) :
    Calls Tryd.prog 43 #[v, .int .i16 one, .int .i16 two] w fun e w' => e = .returned (.agg #[.int .i64 (linedD l (one.tmod 2001) (two.tmod 2001)).1, .int .i64 (linedD l (one.tmod 2001) (two.tmod 2001)).2.1, .int .i64 (linedD l (one.tmod 2001) (two.tmod 2001)).2.2]) ∧ Below w.heap.size w w' := by
  obtain ⟨va, ve, rfl, g1, g2⟩ := hv
  obtain ⟨a', cap', rfl⟩ := g2.slice
  have hlen := hf.two
  have hlen8 := hf.eight
  obtain ⟨b1, b2, b3⟩ := lined_bd hf
  obtain ⟨t1, t2⟩ := tm_bd one
  obtain ⟨t3, t4⟩ := tm_bd two
  have m1 := mulL_bd t1 t2 (show 0 ≤ atD l (l.at_.length - 1) by omega)
  have m2 := mulL_bd t3 t4 b1
  obtain ⟨ba, oa, ca, hva, e0⟩ := g1.get 0 (by omega)
  obtain ⟨ba2, oa2, ca2, hva2, e1⟩ := g1.get (l.at_.length - 1) (by omega)
  rw [hva] at hva2
  simp only [Value.slice.injEq, Option.some.injEq, Addr.mk.injEq, and_true, true_and] at hva2
  obtain ⟨⟨rfl, rfl⟩, rfl⟩ := hva2
  subst hva
  rw [atD_eq (show 0 < l.at_.length by omega), Nat.add_zero] at e0
  rw [atD_eq (show l.at_.length - 1 < l.at_.length by omega)] at e1
  unfold linedD
  clear g1 g2 hf
  generalize atD l 0 = F at *
  generalize atD l (l.at_.length - 1) = L at *
  have r1 : IntKind.i64.wrap one = one := IntWalk.i64_in _ (by omega)
  have r2 : IntKind.i64.wrap two = two := IntWalk.i64_in _ (by omega)
  have r3 : IntKind.i64.wrap (one.tmod 2001) = one.tmod 2001 := IntWalk.i64_in _ (by omega)
  have r4 : IntKind.i64.wrap (two.tmod 2001) = two.tmod 2001 := IntWalk.i64_in _ (by omega)
  have r5 : IntKind.i64.wrap (L - F) = L - F := IntWalk.i64_in _ (by omega)
  have r6 : IntKind.i64.wrap (one.tmod 2001 * L) = one.tmod 2001 * L := IntWalk.i64_in _ (by omega)
  have r7 : IntKind.i64.wrap (two.tmod 2001 * F) = two.tmod 2001 * F := IntWalk.i64_in _ (by omega)
  have r8 : IntKind.i64.wrap (one.tmod 2001 * L - two.tmod 2001 * F) = one.tmod 2001 * L - two.tmod 2001 * F := IntWalk.i64_in _ (by omega)
  have r9 : IntKind.i64.wrap (two.tmod 2001 - one.tmod 2001) = two.tmod 2001 - one.tmod 2001 := IntWalk.i64_in _ (by omega)
  have r10 : IntKind.i64.wrap ((l.at_.length : Int) - 1) = ((l.at_.length - 1 : Nat) : Int) := by rw [IntWalk.i64_in _ (by omega)]; omega
  have hL := (Blk.new w (.cells #[.slice (some ⟨ba, oa, none⟩) l.at_.length ca, .slice a' l.edges.length cap'] 25)).alloc (.cells #[.int .i64 0, .int .i64 0, .int .i64 0] 27)
  have hR := Blk.new (w.alloc (.cells #[.slice (some ⟨ba, oa, none⟩) l.at_.length ca, .slice a' l.edges.length cap'] 25)) (.cells #[.int .i64 0, .int .i64 0, .int .i64 0] 27)
  have hB0 := below2 w (.cells #[.slice (some ⟨ba, oa, none⟩) l.at_.length ca, .slice a' l.edges.length cap'] 25) (.cells #[.int .i64 0, .int .i64 0, .int .i64 0] 27)
  simp only [World.size_alloc] at hR
  have hin : l.at_.length - 1 < l.at_.length := by omega
  have hin0 : 0 < l.at_.length := by omega
  have BD := Lib.hid (And.intro b1 (And.intro b2 b3))
  clear m1 m2 t1 t2 t3 t4 h1 h2 b1 b2 b3
  have e0' := cellB e0 hB0
  have e1' := cellB e1 hB0
  have HL0 := Lib.hid hL
  have HR0 := Lib.hid hR
  have HB0 := Lib.hid hB0
  have E0 := Lib.hid e0'
  have E1 := Lib.hid e1'
  clear hL hR hB0 e0 e1 e0' e1'
  go_enter Tryd.func43, Tryd.ntmps43
  go_wp2_with fail
  generalize (w.alloc (.cells #[.slice (some ⟨ba, oa, none⟩) l.at_.length ca, .slice a' l.edges.length cap'] 25)).alloc (.cells #[.int .i64 0, .int .i64 0, .int .i64 0] 27) = w1 at *
  have Lc0 := HL0.out.cell 0
  have Lc1 := HL0.out.cell 1
  simp at Lc0 Lc1
  have Ll := HL0.out.lt
  have e0' := E0.out
  have e1' := E1.out
  clear E0 E1
  have q0 := fun d os => cell_regrown Lc0 d os
  have q1 := fun d os => cell_regrown Lc1 d os
  have q2 := fun d os => cell_regrown e0' d os
  have q3 := fun d os => cell_regrown e1' d os
  refine wp_region_quiet_below (by kernel_rfl) (by kernel_rfl) ?_
  repeat (quiet_step (fail))
  refine wpQuiet_nil ?_
  intro _ hw'
  obtain ⟨⟨dq, osq⟩, hw''⟩ := hw'
  subst hw''

  have hB2 := below_regrown w1 dq osq
  have HR1 := Lib.hid (HR0.out.below hB2)
  have HB1 := Lib.hid (bC HB0.out hB2)
  clear q0 q1 q2 q3 hB2 e0' e1' Lc0 Lc1 Ll
  generalize grow (redrawn w1 dq) osq = w2 at *
  go_wp2_with fail
  refine (line_any _ _ _ _).mono ?_
  rintro e w3 ⟨rfl, hb⟩
  have bR := HR1.out.below hb
  have R0 := bR.cell 0
  have R1 := bR.cell 1
  have R2 := bR.cell 2
  have f0 := bR.frozen 0
  have f1 := bR.frozen 1
  have f2 := bR.frozen 2
  simp at R0 R1 R2
  have HB2 := Lib.hid (bC HB1.out hb)
  clear hb
  go_wp2
  exact bodyPost_ret (by simp [results, Tryd.results43, go_sem, R0, R1, R2]) rfl ⟨rfl, bS3 HB2.out (by omega)⟩
end Go.Proofs.YtlhldkiggmlegaaDoor

namespace Go.Proofs.YtlhldkiggmlegaaDoor
open Go.RowKit Go.Shelf Go.Sort
attribute [local go_sem] Oper.semAt_some

/-! ## The cells of a block -/
/-- The cells of a block, by number. -/
def CellsAt (W : World) (k : Nat) (xs : List Value) : Prop := ∀ j (h : j < xs.length), W.cell? ⟨k, j, none⟩ = some xs[j]
theorem CellsAt.cell {W : World} {k : Nat} {xs : List Value} (h : CellsAt W k xs) (j : Nat) : W.cell? ⟨k, j, none⟩ = if h : j < xs.length then some xs[j] else W.cell? ⟨k, j, none⟩ := by
  split
  · exact h j _
  · rfl
theorem CellsAt.lt {W : World} {k : Nat} {x : Value} {xs : List Value} (h : CellsAt W k (x :: xs)) : k < W.heap.size := lt_of_cell (h 0 (by simp))
theorem CellsAt.below {W W' : World} {k : Nat} {xs : List Value} (h : CellsAt W k xs) (hb : Below W.heap.size W W') : CellsAt W' k xs := fun j hj => cellB (h j hj) hb
theorem CellsAt.other {W : World} {k b j : Nat} {xs : List Value} {u : Value} (h : CellsAt W k xs) (hne : k ≠ b) : CellsAt (W.setCell ⟨b, j, none⟩ u) k xs := fun i hi => cellSO (h i hi) hne
theorem CellsAt.two {W : World} {k : Nat} {x y : Value} (h0 : W.cell? ⟨k, 0, none⟩ = some x) (h1 : W.cell? ⟨k, 1, none⟩ = some y) : CellsAt W k [x, y] := fun j hj => by
  match j, hj with
  | 0, _ => exact h0
  | 1, _ => exact h1
theorem CellsAt.four {W : World} {k : Nat} {x y z u : Value} (h0 : W.cell? ⟨k, 0, none⟩ = some x) (h1 : W.cell? ⟨k, 1, none⟩ = some y) (h2 : W.cell? ⟨k, 2, none⟩ = some z) (h3 : W.cell? ⟨k, 3, none⟩ = some u) : CellsAt W k [x, y, z, u] := fun j hj => by
  match j, hj with
  | 0, _ => exact h0
  | 1, _ => exact h1
  | 2, _ => exact h2
  | 3, _ => exact h3
theorem cell_setSame {W : World} {k j : Nat} {u v : Value} (h : W.cell? ⟨k, j, none⟩ = some u) : (W.setCell ⟨k, j, none⟩ v).cell? ⟨k, j, none⟩ = some v := by
  have hl := lt_of_cell h
  have hk : ∃ o, W.heap[k]? = some o := ⟨_, Array.getElem?_eq_getElem hl⟩
  obtain ⟨o, ho⟩ := hk
  unfold World.cell? at h ⊢
  simp only [ho] at h
  cases o <;> simp [World.setCell, Array.getElem?_modify, ho] at h ⊢
  · obtain ⟨hx, _⟩ := Array.getElem?_eq_some_iff.1 h
    simp [hx]
theorem cell_setIdx {W : World} {k j i : Nat} {u v : Value} (h : W.cell? ⟨k, i, none⟩ = some u) (hne : i ≠ j) : (W.setCell ⟨k, j, none⟩ v).cell? ⟨k, i, none⟩ = some u := by
  have hl := lt_of_cell h
  obtain ⟨o, ho⟩ : ∃ o, W.heap[k]? = some o := ⟨_, Array.getElem?_eq_getElem hl⟩
  unfold World.cell? at h ⊢
  simp only [ho] at h
  cases o <;> simp [World.setCell, Array.getElem?_modify, ho] at h ⊢
  · rw [Array.getElem?_setIfInBounds_ne (by omega)]; exact h
end Go.Proofs.YtlhldkiggmlegaaDoor
