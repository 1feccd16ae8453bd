import Derived.Test.YtemcodfjjdbieaaSw
import Derived.Test.YtemcodfjjdbieaaSv
namespace Go.Proofs.Ytemcodfjjdbieaa
open Go.RowKit Go.Vat Go.Sort Go.Shelf
attribute [local go_sem] Oper.semAt_some

/-! ## Laws: program and reference say the same -/
set_option maxRecDepth 100000 in
set_option maxHeartbeats 16000000 in
theorem SteamYards_any (v : Value) (xv : Value) (xs : List Int) (a b : Int) (y : YardD) (w : World) (hv : YardAt w v y) (hx : IntsAt w xv xs) :
    Calls Try.prog 3 #[v, xv, .agg #[.int .i64 a, .int .i64 b]] w fun e w' => e = .returned (.bool true) ∧ Below w.heap.size w w' := by
  obtain ⟨sv, rfl, hp⟩ := hv
  obtain ⟨sa, cap, rfl⟩ := hp.slice
  obtain ⟨xa, xc, rfl⟩ := hx.slice
  have hB0 := below2 w (.cells #[.int .i64 y.load, .slice sa y.logs.length cap] 24) (.cells #[.int .i64 a, .int .i64 b] 27)
  have B0 := Lib.hid ((Blk.new w (.cells #[.int .i64 y.load, .slice sa y.logs.length cap] 24)).alloc (.cells #[.int .i64 a, .int .i64 b] 27))
  have b1 := Blk.new (w.alloc (.cells #[.int .i64 y.load, .slice sa y.logs.length cap] 24)) (.cells #[.int .i64 a, .int .i64 b] 27)
  rw [World.size_alloc] at b1
  have B1 := Lib.hid b1
  clear b1
  have HB := Lib.hid hB0
  have HV := Lib.hid (show YardAt _ (.agg #[.int .i64 y.load, .slice sa y.logs.length cap]) y from ⟨_, rfl, hp.below hB0⟩)
  have HX := Lib.hid (hx.below hB0)
  clear hp hB0 hx
  by_cases hgr : 16 < y.logs.length
  · have HG := Lib.hid (show decide (16 < y.logs.length) = true by rw [decide_eq_true hgr])
    clear hgr
    go_enter Try.func3, Try.ntmps3
    go_wp2_with fail
    generalize (w.alloc (.cells #[.int .i64 y.load, .slice sa y.logs.length cap] 24)).alloc (.cells #[.int .i64 a, .int .i64 b] 27) = W0 at *
    refine (great_any (.agg #[.int .i64 y.load, .slice sa y.logs.length cap]) y _ HV.out).mono ?_
    rintro e v1 ⟨rfl, hb⟩
    replace HV := Lib.hid (HV.out.below hb)
    replace HX := Lib.hid (HX.out.below hb)
    replace B0 := Lib.hid (B0.out.below hb)
    replace B1 := Lib.hid (B1.out.below hb)
    replace HB := Lib.hid (bC HB.out hb)
    clear hb
    rw [HG.out]
    have B0c0 := B0.out.cell 0
    have B0c1 := B0.out.cell 1
    have B1c0 := B1.out.cell 0
    have B1c1 := B1.out.cell 1
    simp at B0c0 B0c1 B1c0 B1c1
    go_wp2_with fail
    clear B0c0 B0c1 B1c0 B1c1
    refine (Works_any _).mono ?_
    rintro e v2 ⟨rfl, hb⟩
    replace HV := Lib.hid (HV.out.below hb)
    replace HX := Lib.hid (HX.out.below hb)
    replace B0 := Lib.hid (B0.out.below hb)
    replace B1 := Lib.hid (B1.out.below hb)
    replace HB := Lib.hid (bC HB.out hb)
    clear hb
    go_wp2
    go_ret
    exact ⟨rfl, HB.out⟩
  have HG := Lib.hid (show decide (16 < y.logs.length) = false by rw [decide_eq_false hgr])
  by_cases hls : 16 < xs.length
  · have g1 : decide ((xs.length : Int) > 16) = true := by simp; omega
    have g2 : decide ((16 : Int) < (xs.length : Int)) = true := by simp; omega
    clear hls
    go_enter Try.func3, Try.ntmps3
    go_wp2_with fail
    generalize (w.alloc (.cells #[.int .i64 y.load, .slice sa y.logs.length cap] 24)).alloc (.cells #[.int .i64 a, .int .i64 b] 27) = W0 at *
    refine (great_any (.agg #[.int .i64 y.load, .slice sa y.logs.length cap]) y _ HV.out).mono ?_
    rintro e v1 ⟨rfl, hb⟩
    replace HV := Lib.hid (HV.out.below hb)
    replace HX := Lib.hid (HX.out.below hb)
    replace B0 := Lib.hid (B0.out.below hb)
    replace B1 := Lib.hid (B1.out.below hb)
    replace HB := Lib.hid (bC HB.out hb)
    clear hb
    rw [HG.out]
    have B0c0 := B0.out.cell 0
    have B0c1 := B0.out.cell 1
    have B1c0 := B1.out.cell 0
    have B1c1 := B1.out.cell 1
    simp at B0c0 B0c1 B1c0 B1c1
    go_wp2_with fail
    clear B0c0 B0c1 B1c0 B1c1
    refine (Works_any _).mono ?_
    rintro e v2 ⟨rfl, hb⟩
    replace HV := Lib.hid (HV.out.below hb)
    replace HX := Lib.hid (HX.out.below hb)
    replace B0 := Lib.hid (B0.out.below hb)
    replace B1 := Lib.hid (B1.out.below hb)
    replace HB := Lib.hid (bC HB.out hb)
    clear hb
    go_wp2
    go_ret
    exact ⟨rfl, HB.out⟩
  have g1 : decide ((xs.length : Int) > 16) = false := by simp; omega
  have g2 : decide ((16 : Int) < (xs.length : Int)) = false := by simp; omega
  go_enter Try.func3, Try.ntmps3
  go_wp2_with fail
  generalize (w.alloc (.cells #[.int .i64 y.load, .slice sa y.logs.length cap] 24)).alloc (.cells #[.int .i64 a, .int .i64 b] 27) = W0 at *
  refine (great_any (.agg #[.int .i64 y.load, .slice sa y.logs.length cap]) y _ HV.out).mono ?_
  rintro e v1 ⟨rfl, hb⟩
  replace HV := Lib.hid (HV.out.below hb)
  replace HX := Lib.hid (HX.out.below hb)
  replace B0 := Lib.hid (B0.out.below hb)
  replace B1 := Lib.hid (B1.out.below hb)
  replace HB := Lib.hid (bC HB.out hb)
  clear hb
  rw [HG.out]
  have B0c0 := B0.out.cell 0
  have B0c1 := B0.out.cell 1
  have B1c0 := B1.out.cell 0
  have B1c1 := B1.out.cell 1
  simp at B0c0 B0c1 B1c0 B1c1
  go_wp2_with fail
  clear B0c0 B0c1 B1c0 B1c1
  refine (CheckHours_all (.agg #[.int .i64 y.load, .slice sa y.logs.length cap]) (.slice xa xs.length xc) y xs _ HV.out (by omega) HX.out).mono ?_
  rintro e v2 ⟨rfl, hb⟩
  replace HV := Lib.hid (HV.out.below hb)
  replace HX := Lib.hid (HX.out.below hb)
  replace B0 := Lib.hid (B0.out.below hb)
  replace B1 := Lib.hid (B1.out.below hb)
  replace HB := Lib.hid (bC HB.out hb)
  clear hb
  have B0c0 := B0.out.cell 0
  have B0c1 := B0.out.cell 1
  have B1c0 := B1.out.cell 0
  have B1c1 := B1.out.cell 1
  simp at B0c0 B0c1 B1c0 B1c1
  go_wp2_with fail
  clear B0c0 B0c1 B1c0 B1c1
  refine (rCheckHours_all (.agg #[.int .i64 y.load, .slice sa y.logs.length cap]) (.slice xa xs.length xc) y xs _ HV.out (by omega) HX.out).mono ?_
  rintro e v3 ⟨rfl, hb⟩
  replace HV := Lib.hid (HV.out.below hb)
  replace HX := Lib.hid (HX.out.below hb)
  replace B0 := Lib.hid (B0.out.below hb)
  replace B1 := Lib.hid (B1.out.below hb)
  replace HB := Lib.hid (bC HB.out hb)
  clear hb
  have B0c0 := B0.out.cell 0
  have B0c1 := B0.out.cell 1
  have B1c0 := B1.out.cell 0
  have B1c1 := B1.out.cell 1
  simp at B0c0 B0c1 B1c0 B1c1
  go_wp2_with fail
  clear B0c0 B0c1 B1c0 B1c1
  refine (Need_all (.agg #[.int .i64 y.load, .slice sa y.logs.length cap]) a b y _ HV.out (by omega)).mono ?_
  rintro e v4 ⟨rfl, hb⟩
  replace HV := Lib.hid (HV.out.below hb)
  replace HX := Lib.hid (HX.out.below hb)
  replace B0 := Lib.hid (B0.out.below hb)
  replace B1 := Lib.hid (B1.out.below hb)
  replace HB := Lib.hid (bC HB.out hb)
  clear hb
  have B0c0 := B0.out.cell 0
  have B0c1 := B0.out.cell 1
  have B1c0 := B1.out.cell 0
  have B1c1 := B1.out.cell 1
  simp at B0c0 B0c1 B1c0 B1c1
  go_wp2_with fail
  clear B0c0 B0c1 B1c0 B1c1
  refine (rNeed_all (.agg #[.int .i64 y.load, .slice sa y.logs.length cap]) a b y _ HV.out (by omega)).mono ?_
  rintro e v5 ⟨rfl, hb⟩
  replace HV := Lib.hid (HV.out.below hb)
  replace HX := Lib.hid (HX.out.below hb)
  replace B0 := Lib.hid (B0.out.below hb)
  replace B1 := Lib.hid (B1.out.below hb)
  replace HB := Lib.hid (bC HB.out hb)
  clear hb
  have B0c0 := B0.out.cell 0
  have B0c1 := B0.out.cell 1
  have B1c0 := B1.out.cell 0
  have B1c1 := B1.out.cell 1
  simp at B0c0 B0c1 B1c0 B1c1
  go_wp2_with fail
  clear B0c0 B0c1 B1c0 B1c1
  have c0 := B0.out.cell 0
  have c1 := B0.out.cell 1
  simp at c0 c1
  have g0 := fun d os => cell_regrown c0 d os
  have g1 := fun d os => cell_regrown c1 d os
  have k1 : ∀ (d : Nat) (os : Array Obj), _ := fun d os => Calls.regrown_of (CheckYard_any (.agg #[.int .i64 y.load, .slice sa y.logs.length cap]) y (grow (redrawn v5 d) os) (HV.out.below (below_regrown v5 d os)) (by omega))
  have k2 : ∀ (d : Nat) (os : Array Obj), _ := fun d os => Calls.regrown_of (rCheckYard_any (.agg #[.int .i64 y.load, .slice sa y.logs.length cap]) y (grow (redrawn v5 d) os) (HV.out.below (below_regrown v5 d os)) (by omega))
  have k3 : ∀ (d : Nat) (os : Array Obj), _ := fun d os => Calls.regrown_of (Works_any (grow (redrawn v5 d) os))
  clear c0 c1
  refine wp_region_quiet_below (by kernel_rfl) (by kernel_rfl) ?_
  repeat (with_reducible refine wpQuiet_step (fun K hK => ?_); go_simp; first | (with_reducible refine hK _ ?_; clear hK K) | (apply Exists.intro; refine ⟨fun _ => ?_, ?_⟩; (first | (go_at_call 23; exact k1 _ _) | (go_at_call 24; exact k2 _ _) | (go_at_call 18; exact k3 _ _)); with_reducible refine hK _ ?_; clear hK K))
  refine wpQuiet_nil ?_
  intro _ hw'
  obtain ⟨⟨dq, osq⟩, hw''⟩ := hw'
  subst hw''
  have HB9 := Lib.hid (bC HB.out (below_regrown v5 dq osq))
  clear g0 g1 k1 k2 k3
  generalize grow (redrawn v5 dq) osq = w9 at *
  go_wp2
  go_ret
  exact ⟨rfl, HB9.out⟩
set_option maxRecDepth 100000 in
set_option maxHeartbeats 16000000 in
theorem SteamOrders_any (v : Value) (y : YardD) (w : World) (hv : YardAt w v y) :
    Calls Try.prog 5 #[v] w fun e w' => e = .returned (.bool true) ∧ Below w.heap.size w w' := by
  obtain ⟨sv, rfl, hp⟩ := hv
  obtain ⟨sa, cap, rfl⟩ := hp.slice
  have hB0 := below1 w (.cells #[.int .i64 y.load, .slice sa y.logs.length cap] 24)
  have B0 := Lib.hid (Blk.new w (.cells #[.int .i64 y.load, .slice sa y.logs.length cap] 24))
  have HB := Lib.hid hB0
  have HV := Lib.hid (show YardAt _ (.agg #[.int .i64 y.load, .slice sa y.logs.length cap]) y from ⟨_, rfl, hp.below hB0⟩)
  clear hp hB0
  by_cases hgr : 16 < y.logs.length
  · have HG := Lib.hid (show decide (16 < y.logs.length) = true by rw [decide_eq_true hgr])
    clear hgr
    go_enter Try.func5, Try.ntmps5
    go_wp2_with fail
    generalize w.alloc (.cells #[.int .i64 y.load, .slice sa y.logs.length cap] 24) = W0 at *
    refine (great_any (.agg #[.int .i64 y.load, .slice sa y.logs.length cap]) y _ HV.out).mono ?_
    rintro e v1 ⟨rfl, hb⟩
    replace HV := Lib.hid (HV.out.below hb)
    replace B0 := Lib.hid (B0.out.below hb)
    replace HB := Lib.hid (bC HB.out hb)
    clear hb
    rw [HG.out]
    have B0c0 := B0.out.cell 0
    have B0c1 := B0.out.cell 1
    simp at B0c0 B0c1
    go_wp2_with fail
    clear B0c0 B0c1
    refine (Works_any _).mono ?_
    rintro e v2 ⟨rfl, hb⟩
    replace HV := Lib.hid (HV.out.below hb)
    replace B0 := Lib.hid (B0.out.below hb)
    replace HB := Lib.hid (bC HB.out hb)
    clear hb
    go_wp2
    go_ret
    exact ⟨rfl, HB.out⟩
  have HG := Lib.hid (show decide (16 < y.logs.length) = false by rw [decide_eq_false hgr])
  go_enter Try.func5, Try.ntmps5
  go_wp2_with fail
  generalize w.alloc (.cells #[.int .i64 y.load, .slice sa y.logs.length cap] 24) = W0 at *
  refine (great_any (.agg #[.int .i64 y.load, .slice sa y.logs.length cap]) y _ HV.out).mono ?_
  rintro e v1 ⟨rfl, hb⟩
  replace HV := Lib.hid (HV.out.below hb)
  replace B0 := Lib.hid (B0.out.below hb)
  replace HB := Lib.hid (bC HB.out hb)
  clear hb
  rw [HG.out]
  have B0c0 := B0.out.cell 0
  have B0c1 := B0.out.cell 1
  simp at B0c0 B0c1
  go_wp2_with fail
  clear B0c0 B0c1
  refine (Early_all (.agg #[.int .i64 y.load, .slice sa y.logs.length cap]) y _ HV.out (by omega)).mono ?_
  rintro e v2 ⟨vv, rfl, hi, hb⟩
  replace HV := Lib.hid (HV.out.below hb)
  replace B0 := Lib.hid (B0.out.below hb)
  replace HB := Lib.hid (bC HB.out hb)
  clear hb
  obtain ⟨a0, c0x, rfl⟩ := hi.slice
  have HI0 := Lib.hid hi
  clear hi
  have B0c0 := B0.out.cell 0
  have B0c1 := B0.out.cell 1
  simp at B0c0 B0c1
  go_wp2_with fail
  clear B0c0 B0c1
  refine (rEarly_all (.agg #[.int .i64 y.load, .slice sa y.logs.length cap]) y _ HV.out (by omega)).mono ?_
  rintro e v3 ⟨vv, rfl, hi, hb⟩
  replace HV := Lib.hid (HV.out.below hb)
  replace HI0 := Lib.hid (HI0.out.below hb)
  replace B0 := Lib.hid (B0.out.below hb)
  replace HB := Lib.hid (bC HB.out hb)
  clear hb
  obtain ⟨a1, c1x, rfl⟩ := hi.slice
  have HI1 := Lib.hid hi
  clear hi
  have B0c0 := B0.out.cell 0
  have B0c1 := B0.out.cell 1
  simp at B0c0 B0c1
  go_wp2_with fail
  clear B0c0 B0c1
  refine (Late_all (.agg #[.int .i64 y.load, .slice sa y.logs.length cap]) y _ HV.out (by omega)).mono ?_
  rintro e v4 ⟨vv, rfl, hi, hb⟩
  replace HV := Lib.hid (HV.out.below hb)
  replace HI0 := Lib.hid (HI0.out.below hb)
  replace HI1 := Lib.hid (HI1.out.below hb)
  replace B0 := Lib.hid (B0.out.below hb)
  replace HB := Lib.hid (bC HB.out hb)
  clear hb
  obtain ⟨a2, c2x, rfl⟩ := hi.slice
  have HI2 := Lib.hid hi
  clear hi
  have B0c0 := B0.out.cell 0
  have B0c1 := B0.out.cell 1
  simp at B0c0 B0c1
  go_wp2_with fail
  clear B0c0 B0c1
  refine (rLate_all (.agg #[.int .i64 y.load, .slice sa y.logs.length cap]) y _ HV.out (by omega)).mono ?_
  rintro e v5 ⟨vv, rfl, hi, hb⟩
  replace HV := Lib.hid (HV.out.below hb)
  replace HI0 := Lib.hid (HI0.out.below hb)
  replace HI1 := Lib.hid (HI1.out.below hb)
  replace HI2 := Lib.hid (HI2.out.below hb)
  replace B0 := Lib.hid (B0.out.below hb)
  replace HB := Lib.hid (bC HB.out hb)
  clear hb
  obtain ⟨a3, c3x, rfl⟩ := hi.slice
  have HI3 := Lib.hid hi
  clear hi
  have B0c0 := B0.out.cell 0
  have B0c1 := B0.out.cell 1
  simp at B0c0 B0c1
  go_wp2_with fail
  clear B0c0 B0c1
  refine (Longs_any _ _ (earlyE y) (earlyE y) _ HI0.out HI1.out (by have := earlyE_len y; omega)).mono ?_
  rintro e v6 ⟨rfl, hb⟩
  replace HV := Lib.hid (HV.out.below hb)
  replace HI0 := Lib.hid (HI0.out.below hb)
  replace HI1 := Lib.hid (HI1.out.below hb)
  replace HI2 := Lib.hid (HI2.out.below hb)
  replace HI3 := Lib.hid (HI3.out.below hb)
  replace B0 := Lib.hid (B0.out.below hb)
  replace HB := Lib.hid (bC HB.out hb)
  clear hb
  rw [show decide (earlyE y = earlyE y) = true from decide_eq_true rfl]
  have B0c0 := B0.out.cell 0
  have B0c1 := B0.out.cell 1
  simp at B0c0 B0c1
  go_wp2_with fail
  clear B0c0 B0c1
  refine (Longs_any _ _ (lateE y) (lateE y) _ HI2.out HI3.out (by have := lateE_len y; omega)).mono ?_
  rintro e v7 ⟨rfl, hb⟩
  replace HV := Lib.hid (HV.out.below hb)
  replace HI0 := Lib.hid (HI0.out.below hb)
  replace HI1 := Lib.hid (HI1.out.below hb)
  replace HI2 := Lib.hid (HI2.out.below hb)
  replace HI3 := Lib.hid (HI3.out.below hb)
  replace B0 := Lib.hid (B0.out.below hb)
  replace HB := Lib.hid (bC HB.out hb)
  clear hb
  rw [show decide (lateE y = lateE y) = true from decide_eq_true rfl]
  have B0c0 := B0.out.cell 0
  have B0c1 := B0.out.cell 1
  simp at B0c0 B0c1
  go_wp2_with fail
  clear B0c0 B0c1
  refine (Works_any _).mono ?_
  rintro e v8 ⟨rfl, hb⟩
  replace HV := Lib.hid (HV.out.below hb)
  replace HI0 := Lib.hid (HI0.out.below hb)
  replace HI1 := Lib.hid (HI1.out.below hb)
  replace HI2 := Lib.hid (HI2.out.below hb)
  replace HI3 := Lib.hid (HI3.out.below hb)
  replace B0 := Lib.hid (B0.out.below hb)
  replace HB := Lib.hid (bC HB.out hb)
  clear hb
  go_wp2
  go_ret
  exact ⟨rfl, HB.out⟩
set_option maxRecDepth 100000 in
set_option maxHeartbeats 16000000 in
theorem SteamKeeps_any (v : Value) (loads : Int) (y : YardD) (w : World) (hv : YardAt w v y) :
    Calls Try.prog 6 #[v, .int .i64 loads] w fun e w' => e = .returned (.bool true) ∧ Below w.heap.size w w' := by
  obtain ⟨sv, rfl, hp⟩ := hv
  obtain ⟨sa, cap, rfl⟩ := hp.slice
  have hB0 := below1 w (.cells #[.int .i64 y.load, .slice sa y.logs.length cap] 24)
  have B0 := Lib.hid (Blk.new w (.cells #[.int .i64 y.load, .slice sa y.logs.length cap] 24))
  have HB := Lib.hid hB0
  have HV := Lib.hid (show YardAt _ (.agg #[.int .i64 y.load, .slice sa y.logs.length cap]) y from ⟨_, rfl, hp.below hB0⟩)
  clear hp hB0
  by_cases hgr : 16 < y.logs.length
  · have HG := Lib.hid (show decide (16 < y.logs.length) = true by rw [decide_eq_true hgr])
    clear hgr
    go_enter Try.func6, Try.ntmps6
    go_wp2_with fail
    generalize w.alloc (.cells #[.int .i64 y.load, .slice sa y.logs.length cap] 24) = W0 at *
    refine (great_any (.agg #[.int .i64 y.load, .slice sa y.logs.length cap]) y _ HV.out).mono ?_
    rintro e v1 ⟨rfl, hb⟩
    replace HV := Lib.hid (HV.out.below hb)
    replace B0 := Lib.hid (B0.out.below hb)
    replace HB := Lib.hid (bC HB.out hb)
    clear hb
    rw [HG.out]
    have B0c0 := B0.out.cell 0
    have B0c1 := B0.out.cell 1
    simp at B0c0 B0c1
    go_wp2_with fail
    clear B0c0 B0c1
    refine (Works_any _).mono ?_
    rintro e v2 ⟨rfl, hb⟩
    replace HV := Lib.hid (HV.out.below hb)
    replace B0 := Lib.hid (B0.out.below hb)
    replace HB := Lib.hid (bC HB.out hb)
    clear hb
    go_wp2
    go_ret
    exact ⟨rfl, HB.out⟩
  have HG := Lib.hid (show decide (16 < y.logs.length) = false by rw [decide_eq_false hgr])
  go_enter Try.func6, Try.ntmps6
  go_wp2_with fail
  generalize w.alloc (.cells #[.int .i64 y.load, .slice sa y.logs.length cap] 24) = W0 at *
  refine (great_any (.agg #[.int .i64 y.load, .slice sa y.logs.length cap]) y _ HV.out).mono ?_
  rintro e v1 ⟨rfl, hb⟩
  replace HV := Lib.hid (HV.out.below hb)
  replace B0 := Lib.hid (B0.out.below hb)
  replace HB := Lib.hid (bC HB.out hb)
  clear hb
  rw [HG.out]
  have B0c0 := B0.out.cell 0
  have B0c1 := B0.out.cell 1
  simp at B0c0 B0c1
  go_wp2_with fail
  clear B0c0 B0c1
  refine (Keep_all (.agg #[.int .i64 y.load, .slice sa y.logs.length cap]) loads y _ HV.out (by omega)).mono ?_
  rintro e v2 ⟨vv, rfl, hi, hb⟩
  replace HV := Lib.hid (HV.out.below hb)
  replace B0 := Lib.hid (B0.out.below hb)
  replace HB := Lib.hid (bC HB.out hb)
  clear hb
  obtain ⟨a0, c0x, rfl⟩ := hi.slice
  have HI0 := Lib.hid hi
  clear hi
  have B0c0 := B0.out.cell 0
  have B0c1 := B0.out.cell 1
  simp at B0c0 B0c1
  go_wp2_with fail
  clear B0c0 B0c1
  refine (rKeep_all (.agg #[.int .i64 y.load, .slice sa y.logs.length cap]) loads y _ HV.out (by omega)).mono ?_
  rintro e v3 ⟨vv, rfl, hi, hb⟩
  replace HV := Lib.hid (HV.out.below hb)
  replace HI0 := Lib.hid (HI0.out.below hb)
  replace B0 := Lib.hid (B0.out.below hb)
  replace HB := Lib.hid (bC HB.out hb)
  clear hb
  obtain ⟨a1, c1x, rfl⟩ := hi.slice
  have HI1 := Lib.hid hi
  clear hi
  have B0c0 := B0.out.cell 0
  have B0c1 := B0.out.cell 1
  simp at B0c0 B0c1
  go_wp2_with fail
  clear B0c0 B0c1
  refine (Ints_any _ _ (keepE y loads) (keepE y loads) _ HI0.out HI1.out (by have := keepE_len y loads; omega)).mono ?_
  rintro e v4 ⟨rfl, hb⟩
  replace HV := Lib.hid (HV.out.below hb)
  replace HI0 := Lib.hid (HI0.out.below hb)
  replace HI1 := Lib.hid (HI1.out.below hb)
  replace B0 := Lib.hid (B0.out.below hb)
  replace HB := Lib.hid (bC HB.out hb)
  clear hb
  rw [show decide (keepE y loads = keepE y loads) = true from decide_eq_true rfl]
  have B0c0 := B0.out.cell 0
  have B0c1 := B0.out.cell 1
  simp at B0c0 B0c1
  go_wp2_with fail
  clear B0c0 B0c1
  refine (Works_any _).mono ?_
  rintro e v5 ⟨rfl, hb⟩
  replace HV := Lib.hid (HV.out.below hb)
  replace HI0 := Lib.hid (HI0.out.below hb)
  replace HI1 := Lib.hid (HI1.out.below hb)
  replace B0 := Lib.hid (B0.out.below hb)
  replace HB := Lib.hid (bC HB.out hb)
  clear hb
  go_wp2
  go_ret
  exact ⟨rfl, HB.out⟩
set_option maxRecDepth 100000 in
set_option maxHeartbeats 16000000 in
theorem SteamFewests_any (v : Value) (wv : Value) (ws : List (Int × Int)) (y : YardD) (w : World) (hv : YardAt w v y) (hw : PairsAt w wv ws) :
    Calls Try.prog 4 #[v, wv] w fun e w' => e = .returned (.bool true) ∧ Below w.heap.size w w' := by
  obtain ⟨sv, rfl, hp⟩ := hv
  obtain ⟨sa, cap, rfl⟩ := hp.slice
  obtain ⟨wa, wc, rfl⟩ := hw.slice
  have hB0 := below1 w (.cells #[.int .i64 y.load, .slice sa y.logs.length cap] 24)
  have B0 := Lib.hid (Blk.new w (.cells #[.int .i64 y.load, .slice sa y.logs.length cap] 24))
  have HB := Lib.hid hB0
  have HV := Lib.hid (show YardAt _ (.agg #[.int .i64 y.load, .slice sa y.logs.length cap]) y from ⟨_, rfl, hp.below hB0⟩)
  have HW := Lib.hid (hw.below hB0)
  clear hp hB0 hw
  by_cases hgr : 16 < y.logs.length
  · have HG := Lib.hid (show decide (16 < y.logs.length) = true by rw [decide_eq_true hgr])
    clear hgr
    go_enter Try.func4, Try.ntmps4
    go_wp2_with fail
    generalize w.alloc (.cells #[.int .i64 y.load, .slice sa y.logs.length cap] 24) = W0 at *
    refine (great_any (.agg #[.int .i64 y.load, .slice sa y.logs.length cap]) y _ HV.out).mono ?_
    rintro e v1 ⟨rfl, hb⟩
    replace HV := Lib.hid (HV.out.below hb)
    replace HW := Lib.hid (HW.out.below hb)
    replace B0 := Lib.hid (B0.out.below hb)
    replace HB := Lib.hid (bC HB.out hb)
    clear hb
    rw [HG.out]
    have B0c0 := B0.out.cell 0
    have B0c1 := B0.out.cell 1
    simp at B0c0 B0c1
    go_wp2_with fail
    clear B0c0 B0c1
    refine (Works_any _).mono ?_
    rintro e v2 ⟨rfl, hb⟩
    replace HV := Lib.hid (HV.out.below hb)
    replace HW := Lib.hid (HW.out.below hb)
    replace B0 := Lib.hid (B0.out.below hb)
    replace HB := Lib.hid (bC HB.out hb)
    clear hb
    go_wp2
    go_ret
    exact ⟨rfl, HB.out⟩
  have HG := Lib.hid (show decide (16 < y.logs.length) = false by rw [decide_eq_false hgr])
  by_cases hls : 16 < ws.length
  · have g1 : decide ((ws.length : Int) > 16) = true := by simp; omega
    have g2 : decide ((16 : Int) < (ws.length : Int)) = true := by simp; omega
    clear hls
    go_enter Try.func4, Try.ntmps4
    go_wp2_with fail
    generalize w.alloc (.cells #[.int .i64 y.load, .slice sa y.logs.length cap] 24) = W0 at *
    refine (great_any (.agg #[.int .i64 y.load, .slice sa y.logs.length cap]) y _ HV.out).mono ?_
    rintro e v1 ⟨rfl, hb⟩
    replace HV := Lib.hid (HV.out.below hb)
    replace HW := Lib.hid (HW.out.below hb)
    replace B0 := Lib.hid (B0.out.below hb)
    replace HB := Lib.hid (bC HB.out hb)
    clear hb
    rw [HG.out]
    have B0c0 := B0.out.cell 0
    have B0c1 := B0.out.cell 1
    simp at B0c0 B0c1
    go_wp2_with fail
    clear B0c0 B0c1
    refine (Works_any _).mono ?_
    rintro e v2 ⟨rfl, hb⟩
    replace HV := Lib.hid (HV.out.below hb)
    replace HW := Lib.hid (HW.out.below hb)
    replace B0 := Lib.hid (B0.out.below hb)
    replace HB := Lib.hid (bC HB.out hb)
    clear hb
    go_wp2
    go_ret
    exact ⟨rfl, HB.out⟩
  have g1 : decide ((ws.length : Int) > 16) = false := by simp; omega
  have g2 : decide ((16 : Int) < (ws.length : Int)) = false := by simp; omega
  go_enter Try.func4, Try.ntmps4
  go_wp2_with fail
  generalize w.alloc (.cells #[.int .i64 y.load, .slice sa y.logs.length cap] 24) = W0 at *
  refine (great_any (.agg #[.int .i64 y.load, .slice sa y.logs.length cap]) y _ HV.out).mono ?_
  rintro e v1 ⟨rfl, hb⟩
  replace HV := Lib.hid (HV.out.below hb)
  replace HW := Lib.hid (HW.out.below hb)
  replace B0 := Lib.hid (B0.out.below hb)
  replace HB := Lib.hid (bC HB.out hb)
  clear hb
  rw [HG.out]
  have B0c0 := B0.out.cell 0
  have B0c1 := B0.out.cell 1
  simp at B0c0 B0c1
  go_wp2_with fail
  clear B0c0 B0c1
  refine (Fewest_all (.agg #[.int .i64 y.load, .slice sa y.logs.length cap]) y _ HV.out (by omega)).mono ?_
  rintro e v2 ⟨rfl, hb⟩
  replace HV := Lib.hid (HV.out.below hb)
  replace HW := Lib.hid (HW.out.below hb)
  replace B0 := Lib.hid (B0.out.below hb)
  replace HB := Lib.hid (bC HB.out hb)
  clear hb
  have B0c0 := B0.out.cell 0
  have B0c1 := B0.out.cell 1
  simp at B0c0 B0c1
  go_wp2_with fail
  clear B0c0 B0c1
  refine (rFewest_all (.agg #[.int .i64 y.load, .slice sa y.logs.length cap]) y _ HV.out (by omega)).mono ?_
  rintro e v3 ⟨rfl, hb⟩
  replace HV := Lib.hid (HV.out.below hb)
  replace HW := Lib.hid (HW.out.below hb)
  replace B0 := Lib.hid (B0.out.below hb)
  replace HB := Lib.hid (bC HB.out hb)
  clear hb
  have B0c0 := B0.out.cell 0
  have B0c1 := B0.out.cell 1
  simp at B0c0 B0c1
  go_wp2_with fail
  clear B0c0 B0c1
  refine (CheckProof_all (.agg #[.int .i64 y.load, .slice sa y.logs.length cap]) (.slice wa ws.length wc) y ws _ HV.out (by omega) HW.out (by omega)).mono ?_
  rintro e v4 ⟨rfl, hb⟩
  replace HV := Lib.hid (HV.out.below hb)
  replace HW := Lib.hid (HW.out.below hb)
  replace B0 := Lib.hid (B0.out.below hb)
  replace HB := Lib.hid (bC HB.out hb)
  clear hb
  have B0c0 := B0.out.cell 0
  have B0c1 := B0.out.cell 1
  simp at B0c0 B0c1
  go_wp2_with fail
  clear B0c0 B0c1
  refine (rCheckProof_all (.agg #[.int .i64 y.load, .slice sa y.logs.length cap]) (.slice wa ws.length wc) y ws _ HV.out (by omega) HW.out).mono ?_
  rintro e v5 ⟨rfl, hb⟩
  replace HV := Lib.hid (HV.out.below hb)
  replace HW := Lib.hid (HW.out.below hb)
  replace B0 := Lib.hid (B0.out.below hb)
  replace HB := Lib.hid (bC HB.out hb)
  clear hb
  have B0c0 := B0.out.cell 0
  have B0c1 := B0.out.cell 1
  simp at B0c0 B0c1
  go_wp2_with fail
  clear B0c0 B0c1
  refine (Hours_all (.agg #[.int .i64 y.load, .slice sa y.logs.length cap]) y _ HV.out (by omega)).mono ?_
  rintro e v6 ⟨vh, xs, rfl, hi, hx0, hx1, hb⟩
  replace HV := Lib.hid (HV.out.below hb)
  replace HW := Lib.hid (HW.out.below hb)
  replace B0 := Lib.hid (B0.out.below hb)
  replace HB := Lib.hid (bC HB.out hb)
  clear hb
  obtain ⟨ha, hc, rfl⟩ := hi.slice
  have HH := Lib.hid hi
  have HX0 := Lib.hid hx0
  have HX1 := Lib.hid hx1
  clear hi hx0 hx1
  have B0c0 := B0.out.cell 0
  have B0c1 := B0.out.cell 1
  simp at B0c0 B0c1
  go_wp2_with fail
  clear B0c0 B0c1
  refine (Proof_all (.agg #[.int .i64 y.load, .slice sa y.logs.length cap]) y _ HV.out (by omega)).mono ?_
  rintro e v7 ⟨vp, rfl, hi, hb⟩
  replace HV := Lib.hid (HV.out.below hb)
  replace HW := Lib.hid (HW.out.below hb)
  replace HH := Lib.hid (HH.out.below hb)
  replace B0 := Lib.hid (B0.out.below hb)
  replace HB := Lib.hid (bC HB.out hb)
  clear hb
  obtain ⟨pa, pc, rfl⟩ := hi.slice
  have HP := Lib.hid hi
  clear hi
  by_cases he : yardErr y = 0
  · obtain ⟨q1, q2, q3, q4⟩ := HX1.out he
    obtain ⟨p1, p2, p3⟩ := proofL_good (yardErr_zero he)
    have hpe : proofE y = proofL y := if_pos he
    have hfw : fewV y = U y 101 := if_pos he
    rw [← hpe] at p1 p2 p3
    rw [← hfw] at q2 p2
    obtain ⟨F, hF⟩ : ∃ F, fewV y = F := ⟨_, rfl⟩
    obtain ⟨PL, hPL⟩ : ∃ PL, proofE y = PL := ⟨_, rfl⟩
    rw [hF] at q2 p2 ⊢
    rw [hPL] at HP p1 p2 p3 ⊢
    have HQ := Lib.hid (And.intro q1 q2)
    have HPQ := Lib.hid (And.intro p1 p2)
    rw [he]
    have g3 : decide ((xs.length : Int) > 16) = false := by simp; omega
    have g4 : decide ((16 : Int) < (xs.length : Int)) = false := by simp; omega
    have g5 : decide ((PL.length : Int) > 16) = false := by simp; omega
    have g6 : decide ((16 : Int) < (PL.length : Int)) = false := by simp; omega
    clear he q1 q2 q4 p1 p2 hpe hfw hF hPL
    have B0c0 := B0.out.cell 0
    have B0c1 := B0.out.cell 1
    simp at B0c0 B0c1
    go_wp2_with fail
    clear B0c0 B0c1
    refine (rCheckHours_all (.agg #[.int .i64 y.load, .slice sa y.logs.length cap]) (.slice ha xs.length hc) y xs _ HV.out (by omega) HH.out).mono ?_
    rintro e v8 ⟨rfl, hb⟩
    replace HV := Lib.hid (HV.out.below hb)
    replace HW := Lib.hid (HW.out.below hb)
    replace HH := Lib.hid (HH.out.below hb)
    replace HP := Lib.hid (HP.out.below hb)
    replace B0 := Lib.hid (B0.out.below hb)
    replace HB := Lib.hid (bC HB.out hb)
    clear hb
    rw [HQ.out.1, HQ.out.2]
    have B0c0 := B0.out.cell 0
    have B0c1 := B0.out.cell 1
    simp at B0c0 B0c1
    go_wp2_with fail
    clear B0c0 B0c1
    refine (rCheckProof_all (.agg #[.int .i64 y.load, .slice sa y.logs.length cap]) (.slice pa PL.length pc) y PL _ HV.out (by omega) HP.out).mono ?_
    rintro e v9 ⟨rfl, hb⟩
    replace HV := Lib.hid (HV.out.below hb)
    replace HW := Lib.hid (HW.out.below hb)
    replace HH := Lib.hid (HH.out.below hb)
    replace HP := Lib.hid (HP.out.below hb)
    replace B0 := Lib.hid (B0.out.below hb)
    replace HB := Lib.hid (bC HB.out hb)
    clear hb
    rw [HPQ.out.1, HPQ.out.2]
    have B0c0 := B0.out.cell 0
    have B0c1 := B0.out.cell 1
    simp at B0c0 B0c1
    go_wp2_with fail
    clear B0c0 B0c1
    refine (Works_any _).mono ?_
    rintro e v10 ⟨rfl, hb⟩
    replace HV := Lib.hid (HV.out.below hb)
    replace HW := Lib.hid (HW.out.below hb)
    replace HH := Lib.hid (HH.out.below hb)
    replace HP := Lib.hid (HP.out.below hb)
    replace B0 := Lib.hid (B0.out.below hb)
    replace HB := Lib.hid (bC HB.out hb)
    clear hb
    go_wp2
    go_ret
    exact ⟨rfl, HB.out⟩
  · have hx := HX0.out he
    subst hx
    have hpe : proofE y = [] := if_neg he
    rw [hpe] at HP ⊢
    obtain ⟨E, hE⟩ : ∃ E, yardErr y = E := ⟨_, rfl⟩
    rw [hE]
    have d5 : (E != 0) = true := by rw [← hE]; simpa using he
    have HE := Lib.hid hE
    clear he hpe hE
    have B0c0 := B0.out.cell 0
    have B0c1 := B0.out.cell 1
    simp at B0c0 B0c1
    go_wp2_with fail
    clear B0c0 B0c1
    refine (Works_any _).mono ?_
    rintro e v8 ⟨rfl, hb⟩
    replace HV := Lib.hid (HV.out.below hb)
    replace HW := Lib.hid (HW.out.below hb)
    replace HH := Lib.hid (HH.out.below hb)
    replace HP := Lib.hid (HP.out.below hb)
    replace B0 := Lib.hid (B0.out.below hb)
    replace HB := Lib.hid (bC HB.out hb)
    clear hb
    go_wp2
    go_ret
    exact ⟨rfl, HB.out⟩
end Go.Proofs.Ytemcodfjjdbieaa
