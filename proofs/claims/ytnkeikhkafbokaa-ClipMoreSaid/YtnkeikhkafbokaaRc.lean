import Derived.Test.YtnkeikhkafbokaaRa
import Derived.Test.YtnkeikhkafbokaaRb
namespace Go.Proofs.Ytnkeikhkafbokaa
open Go.RowKit Go.Dag Go.Sort Go.Shelf

/-! ## Program and reference, with the errors of both -/
def worthV (r : RibD) (ks : List KindD) : Int := if bothErr r ks = 0 then dn (tabOf r ks) 0 else 0
def countV (r : RibD) (ks : List KindD) : Int := if bothErr r ks = 0 then many (tabOf r ks) 0 else 0
def cutsLV (r : RibD) (ks : List KindD) : List (Int × Int) := if bothErr r ks = 0 then firstL (tabOf r ks) else []
def pricesLV (r : RibD) (ks : List KindD) : List Int := if bothErr r ks = 0 then pricesL (tabOf r ks) else []
def partedV' (r : RibD) (ks : List KindD) (p : Int) : Int := if bothErr r ks = 0 then partedV r ks p else 0
def partedErr' (r : RibD) (ks : List KindD) (p : Int) : Int := if bothErr r ks = 0 then partedErr r p else bothErr r ks
def costV' (r : RibD) (ks : List KindD) (i : Int) : Int := if bothErr r ks = 0 then costV r ks i else 0
def costErr' (r : RibD) (ks : List KindD) (i : Int) : Int := if bothErr r ks = 0 then costErr r i else bothErr r ks
theorem cuts_err {r : RibD} {ks : List KindD} {g : List (Int × Int)} (h : bothErr r ks ≠ 0) : cutsErr r ks g = bothErr r ks ∧ cutsV r ks g = 0 := by
  have e : cutsErr r ks g = bothErr r ks := by unfold cutsErr; rw [if_pos h]
  exact ⟨e, by unfold cutsV; rw [if_neg (by rw [e]; exact h)]⟩
theorem prices_err {r : RibD} {ks : List KindD} {l : List Int} (h : bothErr r ks ≠ 0) : pricesErr r ks l = bothErr r ks ∧ pricesV r ks l = 0 := by
  have e : pricesErr r ks l = bothErr r ks := by unfold pricesErr; rw [if_pos h]
  exact ⟨e, by unfold pricesV; rw [if_neg (by rw [e]; exact h)]⟩
section
variable (v kv : Value) (r : RibD) (ks : List KindD) (w : World) (hv : RibAt w v r) (hk : KindsAt w kv ks) (hl : r.fs.length ≤ 1000) (hl2 : ks.length ≤ 1000)
include hv hk hl hl2
theorem Worth_all :
    Calls Try.prog 24 #[v, kv] w fun e w' => e = .returned (.tuple #[.int .i64 (worthV r ks), .int .i64 (bothErr r ks)]) ∧ Below w.heap.size w w' := by
  by_cases he : bothErr r ks = 0
  · obtain ⟨hr, hks⟩ := bothErr_zero he
    have h := Worth_ok v kv r ks w hv hk hr hks
    unfold worthV; rw [if_pos he, he]
    exact h
  · have h := Worth_err v kv r ks w hv hk he hl hl2
    unfold worthV; rw [if_neg he]
    exact h
theorem Count_all :
    Calls Try.prog 28 #[v, kv] w fun e w' => e = .returned (.tuple #[.int .i64 (countV r ks), .int .i64 (bothErr r ks)]) ∧ Below w.heap.size w w' := by
  by_cases he : bothErr r ks = 0
  · obtain ⟨hr, hks⟩ := bothErr_zero he
    have h := Count_ok v kv r ks w hv hk hr hks
    unfold countV; rw [if_pos he, he]
    exact h
  · have h := Count_err v kv r ks w hv hk he hl hl2
    unfold countV; rw [if_neg he]
    exact h
theorem Cuts_all :
    Calls Try.prog 26 #[v, kv] w fun e w' => ∃ vc, e = .returned (.tuple #[vc, .int .i64 (bothErr r ks)]) ∧ PairsAt w' vc (cutsLV r ks) ∧ Below w.heap.size w w' := by
  by_cases he : bothErr r ks = 0
  · obtain ⟨hr, hks⟩ := bothErr_zero he
    have h := Cuts_ok v kv r ks w hv hk hr hks
    unfold cutsLV; rw [if_pos he, he]
    exact h
  · have h := Cuts_err v kv r ks w hv hk he hl hl2
    unfold cutsLV; rw [if_neg he]
    exact h.mono fun e w' ⟨h1, h2⟩ => ⟨_, h1, ⟨none, 0, rfl, fun h => absurd rfl h⟩, h2⟩
theorem Prices_all :
    Calls Try.prog 33 #[v, kv] w fun e w' => ∃ vc, e = .returned (.tuple #[vc, .int .i64 (bothErr r ks)]) ∧ IntsAt w' vc (pricesLV r ks) ∧ Below w.heap.size w w' := by
  by_cases he : bothErr r ks = 0
  · obtain ⟨hr, hks⟩ := bothErr_zero he
    have h := Prices_ok v kv r ks w hv hk hr hks
    unfold pricesLV; rw [if_pos he, he]
    exact h
  · have h := Prices_err v kv r ks w hv hk he hl hl2
    unfold pricesLV; rw [if_neg he]
    exact h.mono fun e w' ⟨h1, h2⟩ => ⟨_, h1, ⟨none, 0, rfl, fun h => absurd rfl h⟩, h2⟩
theorem Parted_all (p : Int) :
    Calls Try.prog 34 #[v, kv, .int .i64 p] w fun e w' => e = .returned (.tuple #[.int .i64 (partedV' r ks p), .int .i64 (partedErr' r ks p)]) ∧ Below w.heap.size w w' := by
  by_cases he : bothErr r ks = 0
  · obtain ⟨hr, hks⟩ := bothErr_zero he
    have h := Parted_ok v kv r ks p w hv hk hr hks
    unfold partedV' partedErr'; rw [if_pos he, if_pos he]
    exact h
  · have h := Parted_err v kv r ks p w hv hk he hl hl2
    unfold partedV' partedErr'; rw [if_neg he, if_neg he]
    exact h
theorem Cost_all (p : Int) :
    Calls Try.prog 36 #[v, kv, .int .i64 p] w fun e w' => e = .returned (.tuple #[.int .i64 (costV' r ks p), .int .i64 (costErr' r ks p)]) ∧ Below w.heap.size w w' := by
  by_cases he : bothErr r ks = 0
  · obtain ⟨hr, hks⟩ := bothErr_zero he
    have h := Cost_ok v kv r ks p w hv hk hr hks
    unfold costV' costErr'; rw [if_pos he, if_pos he]
    exact h
  · have h := Cost_err v kv r ks p w hv hk he hl hl2
    unfold costV' costErr'; rw [if_neg he, if_neg he]
    exact h
theorem CheckCuts_all (cv : Value) (g : List (Int × Int)) (hcv : PairsAt w cv g) (hg : g.length ≤ 1000) :
    Calls Try.prog 18 #[v, kv, cv] w fun e w' => e = .returned (.tuple #[.int .i64 (cutsV r ks g), .int .i64 (cutsErr r ks g)]) ∧ Below w.heap.size w w' := by
  by_cases he : bothErr r ks = 0
  · obtain ⟨hr, hks⟩ := bothErr_zero he
    have h := CheckCuts_ok v kv r ks cv g w hv hk hcv hg hr hks
    skip
    exact h
  · have h := CheckCuts_err v kv r ks cv w hv hk he hl hl2
    rw [(cuts_err he).1, (cuts_err he).2]
    exact h
theorem CheckPrices_all (cv : Value) (l : List Int) (hcv : IntsAt w cv l) (hcap : CapOk cv) (hg : l.length ≤ 1000) :
    Calls Try.prog 31 #[v, kv, cv] w fun e w' => e = .returned (.tuple #[.int .i64 (pricesV r ks l), .int .i64 (pricesErr r ks l)]) ∧ Below w.heap.size w w' := by
  by_cases he : bothErr r ks = 0
  · obtain ⟨hr, hks⟩ := bothErr_zero he
    have h := CheckPrices_ok v kv r ks cv l w hv hk hcv hcap hg hr hks
    skip
    exact h
  · have h := CheckPrices_err v kv r ks cv w hv hk he hl hl2
    rw [(prices_err he).1, (prices_err he).2]
    exact h
theorem rWorth_all :
    Calls Try.prog 25 #[v, kv] w fun e w' => e = .returned (.tuple #[.int .i64 (worthV r ks), .int .i64 (bothErr r ks)]) ∧ Below w.heap.size w w' := by
  by_cases he : bothErr r ks = 0
  · obtain ⟨hr, hks⟩ := bothErr_zero he
    have h := rWorth_ok v kv r ks w hv hk hr hks
    unfold worthV; rw [if_pos he, he]
    exact h
  · have h := rWorth_err v kv r ks w hv hk he hl hl2
    unfold worthV; rw [if_neg he]
    exact h
theorem rCount_all :
    Calls Try.prog 29 #[v, kv] w fun e w' => e = .returned (.tuple #[.int .i64 (countV r ks), .int .i64 (bothErr r ks)]) ∧ Below w.heap.size w w' := by
  by_cases he : bothErr r ks = 0
  · obtain ⟨hr, hks⟩ := bothErr_zero he
    have h := rCount_ok v kv r ks w hv hk hr hks
    unfold countV; rw [if_pos he, he]
    exact h
  · have h := rCount_err v kv r ks w hv hk he hl hl2
    unfold countV; rw [if_neg he]
    exact h
theorem rCuts_all :
    Calls Try.prog 27 #[v, kv] w fun e w' => ∃ vc, e = .returned (.tuple #[vc, .int .i64 (bothErr r ks)]) ∧ PairsAt w' vc (cutsLV r ks) ∧ Below w.heap.size w w' := by
  by_cases he : bothErr r ks = 0
  · obtain ⟨hr, hks⟩ := bothErr_zero he
    have h := rCuts_ok v kv r ks w hv hk hr hks
    unfold cutsLV; rw [if_pos he, he]
    exact h
  · have h := rCuts_err v kv r ks w hv hk he hl hl2
    unfold cutsLV; rw [if_neg he]
    exact h.mono fun e w' ⟨h1, h2⟩ => ⟨_, h1, ⟨none, 0, rfl, fun h => absurd rfl h⟩, h2⟩
theorem rParted_all (p : Int) :
    Calls Try.prog 35 #[v, kv, .int .i64 p] w fun e w' => e = .returned (.tuple #[.int .i64 (partedV' r ks p), .int .i64 (partedErr' r ks p)]) ∧ Below w.heap.size w w' := by
  by_cases he : bothErr r ks = 0
  · obtain ⟨hr, hks⟩ := bothErr_zero he
    have h := rParted_ok v kv r ks p w hv hk hr hks
    unfold partedV' partedErr'; rw [if_pos he, if_pos he]
    exact h
  · have h := rParted_err v kv r ks p w hv hk he hl hl2
    unfold partedV' partedErr'; rw [if_neg he, if_neg he]
    exact h
theorem rCost_all (p : Int) :
    Calls Try.prog 37 #[v, kv, .int .i64 p] w fun e w' => e = .returned (.tuple #[.int .i64 (costV' r ks p), .int .i64 (costErr' r ks p)]) ∧ Below w.heap.size w w' := by
  by_cases he : bothErr r ks = 0
  · obtain ⟨hr, hks⟩ := bothErr_zero he
    have h := rCost_ok v kv r ks p w hv hk hr hks
    unfold costV' costErr'; rw [if_pos he, if_pos he]
    exact h
  · have h := rCost_err v kv r ks p w hv hk he hl hl2
    unfold costV' costErr'; rw [if_neg he, if_neg he]
    exact h
theorem rCheckCuts_all (cv : Value) (g : List (Int × Int)) (hcv : PairsAt w cv g) (hg : g.length ≤ 1000) :
    Calls Try.prog 19 #[v, kv, cv] w fun e w' => e = .returned (.tuple #[.int .i64 (cutsV r ks g), .int .i64 (cutsErr r ks g)]) ∧ Below w.heap.size w w' := by
  by_cases he : bothErr r ks = 0
  · obtain ⟨hr, hks⟩ := bothErr_zero he
    have h := rCheckCuts_ok v kv r ks cv g w hv hk hcv hg hr hks
    skip
    exact h
  · have h := rCheckCuts_err v kv r ks cv g w hv hk hcv he hl hl2
    exact h
theorem rCheckPrices_all (cv : Value) (l : List Int) (hcv : IntsAt w cv l) (hg : l.length ≤ 1000) :
    Calls Try.prog 32 #[v, kv, cv] w fun e w' => e = .returned (.tuple #[.int .i64 (pricesV r ks l), .int .i64 (pricesErr r ks l)]) ∧ Below w.heap.size w w' := by
  by_cases he : bothErr r ks = 0
  · obtain ⟨hr, hks⟩ := bothErr_zero he
    have h := rCheckPrices_ok v kv r ks cv l w hv hk hcv hg hr hks
    skip
    exact h
  · have h := rCheckPrices_err v kv r ks cv l w hv hk hcv he hl hl2
    exact h
end
end Go.Proofs.Ytnkeikhkafbokaa

namespace Go.Proofs.Ytnkeikhkafbokaa
open Go.RowKit Go.Dag Go.Sort Go.Shelf
attribute [local go_sem] Oper.semAt_some

/-! ## The laws that compare program and reference -/
theorem great_len {r : RibD} {ks : List KindD} (h : (decide (40 < r.fs.length) || decide (12 < ks.length)) = false) : r.fs.length ≤ 40 ∧ ks.length ≤ 12 := by
  simp only [Bool.or_eq_false_iff, decide_eq_false_iff_not] at h
  omega
set_option maxRecDepth 100000 in
set_option maxHeartbeats 8000000 in
theorem ClipRibbons_any (v kv : Value) (cv : Value) (g : List (Int × Int)) (r : RibD) (ks : List KindD) (w : World) (hv : RibAt w v r) (hk : KindsAt w kv ks) (hcv : PairsAt w cv g) :
    Calls Try.prog 3 #[v, kv, cv] w fun e w' => e = .returned (.bool true) ∧ Below w.heap.size w w' := by
  obtain ⟨sv, rfl, hi⟩ := hv
  obtain ⟨sa, cap, rfl⟩ := hi.slice
  obtain ⟨ka, kcap, rfl⟩ := hk.slice
  have hB0 := below1 w (.cells #[.int .i64 r.len, .slice sa r.fs.length cap] 24)
  have HB := Lib.hid hB0
  have B0 := Lib.hid (Blk.new w (.cells #[.int .i64 r.len, .slice sa r.fs.length cap] 24))
  have HV := Lib.hid (show RibAt _ (.agg #[.int .i64 r.len, .slice sa r.fs.length cap]) r from ⟨_, rfl, hi.below hB0⟩)
  have HK := Lib.hid (hk.below hB0)
  obtain ⟨ca, cc, rfl⟩ := hcv.slice
  have HC := Lib.hid (hcv.below hB0)
  clear hcv
  clear hi hk hB0
  cases hG : (decide (40 < r.fs.length) || decide (12 < ks.length)) with
  | true =>
    have HG := Lib.hid hG
    clear hG
    go_enter Try.func3, Try.ntmps3
    go_wp2_with fail
    generalize w.alloc (.cells #[.int .i64 r.len, .slice sa r.fs.length cap] 24) = W0 at *
    refine (great_any (.agg #[.int .i64 r.len, .slice sa r.fs.length cap]) (.slice ka ks.length kcap) r ks _ HV.out HK.out).mono ?_
    rintro e v1 ⟨rfl, hb⟩
    replace HV := Lib.hid (HV.out.below hb)
    replace HK := Lib.hid (HK.out.below hb)
    replace B0 := Lib.hid (B0.out.below hb)
    replace HB := Lib.hid (bC HB.out hb)
    clear hb
    rw [HG.out]
    have B0c0 := B0.out.cell 0
    have B0c1 := B0.out.cell 1
    simp at B0c0 B0c1
    go_wp2_with fail
    clear B0c0 B0c1
    refine (Works_any _).mono ?_
    rintro e v2 ⟨rfl, hb⟩
    replace HV := Lib.hid (HV.out.below hb)
    replace HK := Lib.hid (HK.out.below hb)
    replace B0 := Lib.hid (B0.out.below hb)
    replace HB := Lib.hid (bC HB.out hb)
    clear hb
    go_wp2
    go_ret
    exact ⟨rfl, HB.out⟩
  | false =>
    have HG := Lib.hid hG
    obtain ⟨hl1, hl2⟩ := great_len hG
    clear hG
    by_cases q : 40 < g.length
    · have d1 : decide ((g.length : Int) > 40) = true := by simp; omega
      have d2 : decide ((40 : Int) < (g.length : Int)) = true := by simp; omega
      have d3 : decide (40 < g.length) = true := by simp; omega
      go_enter Try.func3, Try.ntmps3
      go_wp2_with fail
      generalize w.alloc (.cells #[.int .i64 r.len, .slice sa r.fs.length cap] 24) = W0 at *
      refine (great_any (.agg #[.int .i64 r.len, .slice sa r.fs.length cap]) (.slice ka ks.length kcap) r ks _ HV.out HK.out).mono ?_
      rintro e v1 ⟨rfl, hb⟩
      replace HV := Lib.hid (HV.out.below hb)
      replace HK := Lib.hid (HK.out.below hb)
      replace HC := Lib.hid (HC.out.below hb)
      replace B0 := Lib.hid (B0.out.below hb)
      replace HB := Lib.hid (bC HB.out hb)
      clear hb
      rw [HG.out]
      have B0c0 := B0.out.cell 0
      have B0c1 := B0.out.cell 1
      simp at B0c0 B0c1
      go_wp2_with fail
      clear B0c0 B0c1
      refine (Works_any _).mono ?_
      rintro e v2 ⟨rfl, hb⟩
      replace HV := Lib.hid (HV.out.below hb)
      replace HK := Lib.hid (HK.out.below hb)
      replace HC := Lib.hid (HC.out.below hb)
      replace B0 := Lib.hid (B0.out.below hb)
      replace HB := Lib.hid (bC HB.out hb)
      clear hb
      go_wp2
      go_ret
      exact ⟨rfl, HB.out⟩
    · have d1 : decide ((g.length : Int) > 40) = false := by simp; omega
      have d2 : decide ((40 : Int) < (g.length : Int)) = false := by simp; omega
      have d3 : decide (40 < g.length) = false := by simp; omega
      go_enter Try.func3, Try.ntmps3
      go_wp2_with fail
      generalize w.alloc (.cells #[.int .i64 r.len, .slice sa r.fs.length cap] 24) = W0 at *
      refine (great_any (.agg #[.int .i64 r.len, .slice sa r.fs.length cap]) (.slice ka ks.length kcap) r ks _ HV.out HK.out).mono ?_
      rintro e v1 ⟨rfl, hb⟩
      replace HV := Lib.hid (HV.out.below hb)
      replace HK := Lib.hid (HK.out.below hb)
      replace HC := Lib.hid (HC.out.below hb)
      replace B0 := Lib.hid (B0.out.below hb)
      replace HB := Lib.hid (bC HB.out hb)
      clear hb
      rw [HG.out]
      have B0c0 := B0.out.cell 0
      have B0c1 := B0.out.cell 1
      simp at B0c0 B0c1
      go_wp2_with fail
      clear B0c0 B0c1
      clear d1 d2 d3
      refine (CheckCuts_all (.agg #[.int .i64 r.len, .slice sa r.fs.length cap]) (.slice ka ks.length kcap) r ks _ HV.out HK.out (by omega) (by omega) _ g HC.out (by omega)).mono ?_
      rintro e v2 ⟨rfl, hb⟩
      replace HV := Lib.hid (HV.out.below hb)
      replace HK := Lib.hid (HK.out.below hb)
      replace HC := Lib.hid (HC.out.below hb)
      replace B0 := Lib.hid (B0.out.below hb)
      replace HB := Lib.hid (bC HB.out hb)
      clear hb
      have B0c0 := B0.out.cell 0
      have B0c1 := B0.out.cell 1
      simp at B0c0 B0c1
      go_wp2_with fail
      clear B0c0 B0c1
      refine (rCheckCuts_all (.agg #[.int .i64 r.len, .slice sa r.fs.length cap]) (.slice ka ks.length kcap) r ks _ HV.out HK.out (by omega) (by omega) _ g HC.out (by omega)).mono ?_
      rintro e v3 ⟨rfl, hb⟩
      replace HV := Lib.hid (HV.out.below hb)
      replace HK := Lib.hid (HK.out.below hb)
      replace HC := Lib.hid (HC.out.below hb)
      replace B0 := Lib.hid (B0.out.below hb)
      replace HB := Lib.hid (bC HB.out hb)
      clear hb
      have B0c0 := B0.out.cell 0
      have B0c1 := B0.out.cell 1
      simp at B0c0 B0c1
      have q0 : ∀ (d : Nat) (os : Array Obj), _ := fun d os => Calls.regrown_of (CheckRibbon_any (.agg #[.int .i64 r.len, .slice sa r.fs.length cap]) r (grow (redrawn v3 d) os) (HV.out.below (below_regrown v3 d os)) (by omega))
      have q1 : ∀ (d : Nat) (os : Array Obj), _ := fun d os => Calls.regrown_of (rCheckRibbon_any (.agg #[.int .i64 r.len, .slice sa r.fs.length cap]) r (grow (redrawn v3 d) os) (HV.out.below (below_regrown v3 d os)) (by omega))
      have q2 : ∀ (d : Nat) (os : Array Obj), _ := fun d os => Calls.regrown_of (CheckKinds_any (.slice ka ks.length kcap) ks (grow (redrawn v3 d) os) (HK.out.below (below_regrown v3 d os)) (by omega))
      have q3 : ∀ (d : Nat) (os : Array Obj), _ := fun d os => Calls.regrown_of (rCheckKinds_any (.slice ka ks.length kcap) ks (grow (redrawn v3 d) os) (HK.out.below (below_regrown v3 d os)) (by omega))
      have q4 : ∀ (d : Nat) (os : Array Obj), _ := fun d os => Calls.regrown_of (Works_any (grow (redrawn v3 d) os))
      have g0 := fun d os => cell_regrown B0c0 d os
      have g1 := fun d os => cell_regrown B0c1 d os
      clear B0c0 B0c1
      go_wp2_with fail
      refine wp_region_quiet_below (by kernel_rfl) (by kernel_rfl) ?_
      repeat (quiet_step ((first | (go_at_call 20; exact q0 _ _) | (go_at_call 21; exact q1 _ _) | (go_at_call 22; exact q2 _ _) | (go_at_call 23; exact q3 _ _) | (go_at_call 17; exact q4 _ _))))
      refine wpQuiet_nil ?_
      intro _ hw'
      obtain ⟨⟨dq, osq⟩, hw''⟩ := hw'
      subst hw''
      have HB9 := Lib.hid (bC HB.out (below_regrown v3 dq osq))
      clear q0 q1 q2 q3 q4 g0 g1
      generalize grow (redrawn v3 dq) osq = w9 at *
      go_wp2
      go_ret
      exact ⟨rfl, HB9.out⟩
theorem cutsLV_len (r : RibD) (ks : List KindD) : (cutsLV r ks).length ≤ 1000 := by
  unfold cutsLV
  split
  · rename_i h
    obtain ⟨hr, hks⟩ := bothErr_zero h
    have := firstL_len hr hks
    omega
  · simp
theorem pricesLV_len (r : RibD) (ks : List KindD) : (pricesLV r ks).length ≤ 24 := by
  unfold pricesLV
  split
  · rename_i h
    obtain ⟨hr, hks⟩ := bothErr_zero h
    have h2 := hr.l2
    simp only [pricesL, List.length_map, List.length_range, tabOf]
    omega
  · simp
set_option maxRecDepth 100000 in
set_option maxHeartbeats 8000000 in
theorem ClipBests_any (v kv : Value) (r : RibD) (ks : List KindD) (w : World) (hv : RibAt w v r) (hk : KindsAt w kv ks) :
    Calls Try.prog 4 #[v, kv] w fun e w' => e = .returned (.bool true) ∧ Below w.heap.size w w' := by
  obtain ⟨sv, rfl, hi⟩ := hv
  obtain ⟨sa, cap, rfl⟩ := hi.slice
  obtain ⟨ka, kcap, rfl⟩ := hk.slice
  have hB0 := below1 w (.cells #[.int .i64 r.len, .slice sa r.fs.length cap] 24)
  have HB := Lib.hid hB0
  have B0 := Lib.hid (Blk.new w (.cells #[.int .i64 r.len, .slice sa r.fs.length cap] 24))
  have HV := Lib.hid (show RibAt _ (.agg #[.int .i64 r.len, .slice sa r.fs.length cap]) r from ⟨_, rfl, hi.below hB0⟩)
  have HK := Lib.hid (hk.below hB0)
  clear hi hk hB0
  cases hG : (decide (40 < r.fs.length) || decide (12 < ks.length)) with
  | true =>
    have HG := Lib.hid hG
    clear hG
    go_enter Try.func4, Try.ntmps4
    go_wp2_with fail
    generalize w.alloc (.cells #[.int .i64 r.len, .slice sa r.fs.length cap] 24) = W0 at *
    refine (great_any (.agg #[.int .i64 r.len, .slice sa r.fs.length cap]) (.slice ka ks.length kcap) r ks _ HV.out HK.out).mono ?_
    rintro e v1 ⟨rfl, hb⟩
    replace HV := Lib.hid (HV.out.below hb)
    replace HK := Lib.hid (HK.out.below hb)
    replace B0 := Lib.hid (B0.out.below hb)
    replace HB := Lib.hid (bC HB.out hb)
    clear hb
    rw [HG.out]
    have B0c0 := B0.out.cell 0
    have B0c1 := B0.out.cell 1
    simp at B0c0 B0c1
    go_wp2_with fail
    clear B0c0 B0c1
    refine (Works_any _).mono ?_
    rintro e v2 ⟨rfl, hb⟩
    replace HV := Lib.hid (HV.out.below hb)
    replace HK := Lib.hid (HK.out.below hb)
    replace B0 := Lib.hid (B0.out.below hb)
    replace HB := Lib.hid (bC HB.out hb)
    clear hb
    go_wp2
    go_ret
    exact ⟨rfl, HB.out⟩
  | false =>
    have HG := Lib.hid hG
    obtain ⟨hl1, hl2⟩ := great_len hG
    clear hG
    go_enter Try.func4, Try.ntmps4
    go_wp2_with fail
    generalize w.alloc (.cells #[.int .i64 r.len, .slice sa r.fs.length cap] 24) = W0 at *
    refine (great_any (.agg #[.int .i64 r.len, .slice sa r.fs.length cap]) (.slice ka ks.length kcap) r ks _ HV.out HK.out).mono ?_
    rintro e v1 ⟨rfl, hb⟩
    replace HV := Lib.hid (HV.out.below hb)
    replace HK := Lib.hid (HK.out.below hb)
    replace B0 := Lib.hid (B0.out.below hb)
    replace HB := Lib.hid (bC HB.out hb)
    clear hb
    rw [HG.out]
    have B0c0 := B0.out.cell 0
    have B0c1 := B0.out.cell 1
    simp at B0c0 B0c1
    go_wp2_with fail
    clear B0c0 B0c1
    refine (Worth_all (.agg #[.int .i64 r.len, .slice sa r.fs.length cap]) (.slice ka ks.length kcap) r ks _ HV.out HK.out (by omega) (by omega)).mono ?_
    rintro e v2 ⟨rfl, hb⟩
    replace HV := Lib.hid (HV.out.below hb)
    replace HK := Lib.hid (HK.out.below hb)
    replace B0 := Lib.hid (B0.out.below hb)
    replace HB := Lib.hid (bC HB.out hb)
    clear hb
    have B0c0 := B0.out.cell 0
    have B0c1 := B0.out.cell 1
    simp at B0c0 B0c1
    go_wp2_with fail
    clear B0c0 B0c1
    refine (rWorth_all (.agg #[.int .i64 r.len, .slice sa r.fs.length cap]) (.slice ka ks.length kcap) r ks _ HV.out HK.out (by omega) (by omega)).mono ?_
    rintro e v3 ⟨rfl, hb⟩
    replace HV := Lib.hid (HV.out.below hb)
    replace HK := Lib.hid (HK.out.below hb)
    replace B0 := Lib.hid (B0.out.below hb)
    replace HB := Lib.hid (bC HB.out hb)
    clear hb
    have B0c0 := B0.out.cell 0
    have B0c1 := B0.out.cell 1
    simp at B0c0 B0c1
    go_wp2_with fail
    clear B0c0 B0c1
    refine (Cuts_all (.agg #[.int .i64 r.len, .slice sa r.fs.length cap]) (.slice ka ks.length kcap) r ks _ HV.out HK.out (by omega) (by omega)).mono ?_
    rintro e v4 ⟨vx, rfl, hp, hb⟩
    replace HV := Lib.hid (HV.out.below hb)
    replace HK := Lib.hid (HK.out.below hb)
    replace B0 := Lib.hid (B0.out.below hb)
    replace HB := Lib.hid (bC HB.out hb)
    clear hb
    have HX := Lib.hid hp
    clear hp
    have B0c0 := B0.out.cell 0
    have B0c1 := B0.out.cell 1
    simp at B0c0 B0c1
    go_wp2_with fail
    clear B0c0 B0c1
    refine (rCuts_all (.agg #[.int .i64 r.len, .slice sa r.fs.length cap]) (.slice ka ks.length kcap) r ks _ HV.out HK.out (by omega) (by omega)).mono ?_
    rintro e v5 ⟨vy, rfl, hp2, hb⟩
    replace HV := Lib.hid (HV.out.below hb)
    replace HK := Lib.hid (HK.out.below hb)
    replace HX := Lib.hid (HX.out.below hb)
    replace B0 := Lib.hid (B0.out.below hb)
    replace HB := Lib.hid (bC HB.out hb)
    clear hb
    have HY := Lib.hid hp2
    clear hp2
    have B0c0 := B0.out.cell 0
    have B0c1 := B0.out.cell 1
    simp at B0c0 B0c1
    go_wp2_with fail
    clear B0c0 B0c1
    refine (Count_all (.agg #[.int .i64 r.len, .slice sa r.fs.length cap]) (.slice ka ks.length kcap) r ks _ HV.out HK.out (by omega) (by omega)).mono ?_
    rintro e v6 ⟨rfl, hb⟩
    replace HV := Lib.hid (HV.out.below hb)
    replace HK := Lib.hid (HK.out.below hb)
    replace HX := Lib.hid (HX.out.below hb)
    replace HY := Lib.hid (HY.out.below hb)
    replace B0 := Lib.hid (B0.out.below hb)
    replace HB := Lib.hid (bC HB.out hb)
    clear hb
    have B0c0 := B0.out.cell 0
    have B0c1 := B0.out.cell 1
    simp at B0c0 B0c1
    go_wp2_with fail
    clear B0c0 B0c1
    refine (rCount_all (.agg #[.int .i64 r.len, .slice sa r.fs.length cap]) (.slice ka ks.length kcap) r ks _ HV.out HK.out (by omega) (by omega)).mono ?_
    rintro e v7 ⟨rfl, hb⟩
    replace HV := Lib.hid (HV.out.below hb)
    replace HK := Lib.hid (HK.out.below hb)
    replace HX := Lib.hid (HX.out.below hb)
    replace HY := Lib.hid (HY.out.below hb)
    replace B0 := Lib.hid (B0.out.below hb)
    replace HB := Lib.hid (bC HB.out hb)
    clear hb
    have B0c0 := B0.out.cell 0
    have B0c1 := B0.out.cell 1
    simp at B0c0 B0c1
    go_wp2_with fail
    clear B0c0 B0c1
    refine (Sheets_any _ _ _ _ _ HX.out HY.out (cutsLV_len r ks)).mono ?_
    rintro e v8 ⟨rfl, hb⟩
    replace HV := Lib.hid (HV.out.below hb)
    replace HK := Lib.hid (HK.out.below hb)
    replace HX := Lib.hid (HX.out.below hb)
    replace HY := Lib.hid (HY.out.below hb)
    replace B0 := Lib.hid (B0.out.below hb)
    replace HB := Lib.hid (bC HB.out hb)
    clear hb
    rw [decide_eq_true rfl]
    have B0c0 := B0.out.cell 0
    have B0c1 := B0.out.cell 1
    simp at B0c0 B0c1
    go_wp2_with fail
    clear B0c0 B0c1
    refine (Works_any _).mono ?_
    rintro e v9 ⟨rfl, hb⟩
    replace HV := Lib.hid (HV.out.below hb)
    replace HK := Lib.hid (HK.out.below hb)
    replace HX := Lib.hid (HX.out.below hb)
    replace HY := Lib.hid (HY.out.below hb)
    replace B0 := Lib.hid (B0.out.below hb)
    replace HB := Lib.hid (bC HB.out hb)
    clear hb
    go_wp2
    go_ret
    exact ⟨rfl, HB.out⟩
set_option maxRecDepth 100000 in
set_option maxHeartbeats 8000000 in
theorem ClipParts_any (v kv : Value) (p i : Int) (r : RibD) (ks : List KindD) (w : World) (hv : RibAt w v r) (hk : KindsAt w kv ks) :
    Calls Try.prog 6 #[v, kv, .int .i64 p, .int .i64 i] w fun e w' => e = .returned (.bool true) ∧ Below w.heap.size w w' := by
  obtain ⟨sv, rfl, hi⟩ := hv
  obtain ⟨sa, cap, rfl⟩ := hi.slice
  obtain ⟨ka, kcap, rfl⟩ := hk.slice
  have hB0 := below1 w (.cells #[.int .i64 r.len, .slice sa r.fs.length cap] 24)
  have HB := Lib.hid hB0
  have B0 := Lib.hid (Blk.new w (.cells #[.int .i64 r.len, .slice sa r.fs.length cap] 24))
  have HV := Lib.hid (show RibAt _ (.agg #[.int .i64 r.len, .slice sa r.fs.length cap]) r from ⟨_, rfl, hi.below hB0⟩)
  have HK := Lib.hid (hk.below hB0)
  clear hi hk hB0
  cases hG : (decide (40 < r.fs.length) || decide (12 < ks.length)) with
  | true =>
    have HG := Lib.hid hG
    clear hG
    go_enter Try.func6, Try.ntmps6
    go_wp2_with fail
    generalize w.alloc (.cells #[.int .i64 r.len, .slice sa r.fs.length cap] 24) = W0 at *
    refine (great_any (.agg #[.int .i64 r.len, .slice sa r.fs.length cap]) (.slice ka ks.length kcap) r ks _ HV.out HK.out).mono ?_
    rintro e v1 ⟨rfl, hb⟩
    replace HV := Lib.hid (HV.out.below hb)
    replace HK := Lib.hid (HK.out.below hb)
    replace B0 := Lib.hid (B0.out.below hb)
    replace HB := Lib.hid (bC HB.out hb)
    clear hb
    rw [HG.out]
    have B0c0 := B0.out.cell 0
    have B0c1 := B0.out.cell 1
    simp at B0c0 B0c1
    go_wp2_with fail
    clear B0c0 B0c1
    refine (Works_any _).mono ?_
    rintro e v2 ⟨rfl, hb⟩
    replace HV := Lib.hid (HV.out.below hb)
    replace HK := Lib.hid (HK.out.below hb)
    replace B0 := Lib.hid (B0.out.below hb)
    replace HB := Lib.hid (bC HB.out hb)
    clear hb
    go_wp2
    go_ret
    exact ⟨rfl, HB.out⟩
  | false =>
    have HG := Lib.hid hG
    obtain ⟨hl1, hl2⟩ := great_len hG
    clear hG
    go_enter Try.func6, Try.ntmps6
    go_wp2_with fail
    generalize w.alloc (.cells #[.int .i64 r.len, .slice sa r.fs.length cap] 24) = W0 at *
    refine (great_any (.agg #[.int .i64 r.len, .slice sa r.fs.length cap]) (.slice ka ks.length kcap) r ks _ HV.out HK.out).mono ?_
    rintro e v1 ⟨rfl, hb⟩
    replace HV := Lib.hid (HV.out.below hb)
    replace HK := Lib.hid (HK.out.below hb)
    replace B0 := Lib.hid (B0.out.below hb)
    replace HB := Lib.hid (bC HB.out hb)
    clear hb
    rw [HG.out]
    have B0c0 := B0.out.cell 0
    have B0c1 := B0.out.cell 1
    simp at B0c0 B0c1
    go_wp2_with fail
    clear B0c0 B0c1
    refine (Parted_all (.agg #[.int .i64 r.len, .slice sa r.fs.length cap]) (.slice ka ks.length kcap) r ks _ HV.out HK.out (by omega) (by omega) p).mono ?_
    rintro e v2 ⟨rfl, hb⟩
    replace HV := Lib.hid (HV.out.below hb)
    replace HK := Lib.hid (HK.out.below hb)
    replace B0 := Lib.hid (B0.out.below hb)
    replace HB := Lib.hid (bC HB.out hb)
    clear hb
    have B0c0 := B0.out.cell 0
    have B0c1 := B0.out.cell 1
    simp at B0c0 B0c1
    go_wp2_with fail
    clear B0c0 B0c1
    refine (rParted_all (.agg #[.int .i64 r.len, .slice sa r.fs.length cap]) (.slice ka ks.length kcap) r ks _ HV.out HK.out (by omega) (by omega) p).mono ?_
    rintro e v3 ⟨rfl, hb⟩
    replace HV := Lib.hid (HV.out.below hb)
    replace HK := Lib.hid (HK.out.below hb)
    replace B0 := Lib.hid (B0.out.below hb)
    replace HB := Lib.hid (bC HB.out hb)
    clear hb
    have B0c0 := B0.out.cell 0
    have B0c1 := B0.out.cell 1
    simp at B0c0 B0c1
    go_wp2_with fail
    clear B0c0 B0c1
    refine (Cost_all (.agg #[.int .i64 r.len, .slice sa r.fs.length cap]) (.slice ka ks.length kcap) r ks _ HV.out HK.out (by omega) (by omega) i).mono ?_
    rintro e v4 ⟨rfl, hb⟩
    replace HV := Lib.hid (HV.out.below hb)
    replace HK := Lib.hid (HK.out.below hb)
    replace B0 := Lib.hid (B0.out.below hb)
    replace HB := Lib.hid (bC HB.out hb)
    clear hb
    have B0c0 := B0.out.cell 0
    have B0c1 := B0.out.cell 1
    simp at B0c0 B0c1
    go_wp2_with fail
    clear B0c0 B0c1
    refine (rCost_all (.agg #[.int .i64 r.len, .slice sa r.fs.length cap]) (.slice ka ks.length kcap) r ks _ HV.out HK.out (by omega) (by omega) i).mono ?_
    rintro e v5 ⟨rfl, hb⟩
    replace HV := Lib.hid (HV.out.below hb)
    replace HK := Lib.hid (HK.out.below hb)
    replace B0 := Lib.hid (B0.out.below hb)
    replace HB := Lib.hid (bC HB.out hb)
    clear hb
    have B0c0 := B0.out.cell 0
    have B0c1 := B0.out.cell 1
    simp at B0c0 B0c1
    go_wp2_with fail
    clear B0c0 B0c1
    refine (Works_any _).mono ?_
    rintro e v6 ⟨rfl, hb⟩
    replace HV := Lib.hid (HV.out.below hb)
    replace HK := Lib.hid (HK.out.below hb)
    replace B0 := Lib.hid (B0.out.below hb)
    replace HB := Lib.hid (bC HB.out hb)
    clear hb
    go_wp2
    go_ret
    exact ⟨rfl, HB.out⟩
set_option maxRecDepth 100000 in
set_option maxHeartbeats 8000000 in
theorem ClipPrices_any (v kv : Value) (cv : Value) (l : List Int) (r : RibD) (ks : List KindD) (w : World) (hv : RibAt w v r) (hk : KindsAt w kv ks) (hcv : IntsAt w cv l) (hcap : CapOk cv) :
    Calls Try.prog 5 #[v, kv, cv] w fun e w' => e = .returned (.bool true) ∧ Below w.heap.size w w' := by
  obtain ⟨sv, rfl, hi⟩ := hv
  obtain ⟨sa, cap, rfl⟩ := hi.slice
  obtain ⟨ka, kcap, rfl⟩ := hk.slice
  have hB0 := below1 w (.cells #[.int .i64 r.len, .slice sa r.fs.length cap] 24)
  have HB := Lib.hid hB0
  have B0 := Lib.hid (Blk.new w (.cells #[.int .i64 r.len, .slice sa r.fs.length cap] 24))
  have HV := Lib.hid (show RibAt _ (.agg #[.int .i64 r.len, .slice sa r.fs.length cap]) r from ⟨_, rfl, hi.below hB0⟩)
  have HK := Lib.hid (hk.below hB0)
  obtain ⟨ca, cc, rfl⟩ := hcv.slice
  have HC := Lib.hid (hcv.below hB0)
  have HCAP := Lib.hid hcap
  clear hcv hcap
  clear hi hk hB0
  cases hG : (decide (40 < r.fs.length) || decide (12 < ks.length)) with
  | true =>
    have HG := Lib.hid hG
    clear hG
    go_enter Try.func5, Try.ntmps5
    go_wp2_with fail
    generalize w.alloc (.cells #[.int .i64 r.len, .slice sa r.fs.length cap] 24) = W0 at *
    refine (great_any (.agg #[.int .i64 r.len, .slice sa r.fs.length cap]) (.slice ka ks.length kcap) r ks _ HV.out HK.out).mono ?_
    rintro e v1 ⟨rfl, hb⟩
    replace HV := Lib.hid (HV.out.below hb)
    replace HK := Lib.hid (HK.out.below hb)
    replace B0 := Lib.hid (B0.out.below hb)
    replace HB := Lib.hid (bC HB.out hb)
    clear hb
    rw [HG.out]
    have B0c0 := B0.out.cell 0
    have B0c1 := B0.out.cell 1
    simp at B0c0 B0c1
    go_wp2_with fail
    clear B0c0 B0c1
    refine (Works_any _).mono ?_
    rintro e v2 ⟨rfl, hb⟩
    replace HV := Lib.hid (HV.out.below hb)
    replace HK := Lib.hid (HK.out.below hb)
    replace B0 := Lib.hid (B0.out.below hb)
    replace HB := Lib.hid (bC HB.out hb)
    clear hb
    go_wp2
    go_ret
    exact ⟨rfl, HB.out⟩
  | false =>
    have HG := Lib.hid hG
    obtain ⟨hl1, hl2⟩ := great_len hG
    clear hG
    by_cases q : 40 < l.length
    · have d1 : decide ((l.length : Int) > 40) = true := by simp; omega
      have d2 : decide ((40 : Int) < (l.length : Int)) = true := by simp; omega
      have d3 : decide (40 < l.length) = true := by simp; omega
      go_enter Try.func5, Try.ntmps5
      go_wp2_with fail
      generalize w.alloc (.cells #[.int .i64 r.len, .slice sa r.fs.length cap] 24) = W0 at *
      refine (great_any (.agg #[.int .i64 r.len, .slice sa r.fs.length cap]) (.slice ka ks.length kcap) r ks _ HV.out HK.out).mono ?_
      rintro e v1 ⟨rfl, hb⟩
      replace HV := Lib.hid (HV.out.below hb)
      replace HK := Lib.hid (HK.out.below hb)
      replace HC := Lib.hid (HC.out.below hb)
      replace B0 := Lib.hid (B0.out.below hb)
      replace HB := Lib.hid (bC HB.out hb)
      clear hb
      rw [HG.out]
      have B0c0 := B0.out.cell 0
      have B0c1 := B0.out.cell 1
      simp at B0c0 B0c1
      go_wp2_with fail
      clear B0c0 B0c1
      refine (Works_any _).mono ?_
      rintro e v2 ⟨rfl, hb⟩
      replace HV := Lib.hid (HV.out.below hb)
      replace HK := Lib.hid (HK.out.below hb)
      replace HC := Lib.hid (HC.out.below hb)
      replace B0 := Lib.hid (B0.out.below hb)
      replace HB := Lib.hid (bC HB.out hb)
      clear hb
      go_wp2
      go_ret
      exact ⟨rfl, HB.out⟩
    · have d1 : decide ((l.length : Int) > 40) = false := by simp; omega
      have d2 : decide ((40 : Int) < (l.length : Int)) = false := by simp; omega
      have d3 : decide (40 < l.length) = false := by simp; omega
      have hpl := pricesLV_len r ks
      have d4 : decide (((pricesLV r ks).length : Int) > 40) = false := by simp; omega
      have d5 : decide ((40 : Int) < ((pricesLV r ks).length : Int)) = false := by simp; omega
      have d6 : decide (40 < (pricesLV r ks).length) = false := by simp; omega
      by_cases he : bothErr r ks = 0
      · have HE := Lib.hid he
        obtain ⟨hr, hks⟩ := bothErr_zero he
        have HWV := Lib.hid (show worthV r ks = dn (tabOf r ks) 0 by unfold worthV; rw [if_pos he])
        have HPV := Lib.hid (show pricesErr r ks (pricesLV r ks) = 0 ∧ pricesV r ks (pricesLV r ks) = worthV r ks by unfold pricesLV; rw [if_pos he, HWV.out]; exact prices_good hr hks)
        clear he hr hks
        go_enter Try.func5, Try.ntmps5
        go_wp2_with fail
        generalize w.alloc (.cells #[.int .i64 r.len, .slice sa r.fs.length cap] 24) = W0 at *
        refine (great_any (.agg #[.int .i64 r.len, .slice sa r.fs.length cap]) (.slice ka ks.length kcap) r ks _ HV.out HK.out).mono ?_
        rintro e v1 ⟨rfl, hb⟩
        replace HV := Lib.hid (HV.out.below hb)
        replace HK := Lib.hid (HK.out.below hb)
        replace HC := Lib.hid (HC.out.below hb)
        replace B0 := Lib.hid (B0.out.below hb)
        replace HB := Lib.hid (bC HB.out hb)
        clear hb
        rw [HG.out]
        have B0c0 := B0.out.cell 0
        have B0c1 := B0.out.cell 1
        simp at B0c0 B0c1
        go_wp2_with fail
        clear B0c0 B0c1
        clear d1 d2 d3
        refine (CheckPrices_all (.agg #[.int .i64 r.len, .slice sa r.fs.length cap]) (.slice ka ks.length kcap) r ks _ HV.out HK.out (by omega) (by omega) _ l HC.out HCAP.out (by omega)).mono ?_
        rintro e v2 ⟨rfl, hb⟩
        replace HV := Lib.hid (HV.out.below hb)
        replace HK := Lib.hid (HK.out.below hb)
        replace HC := Lib.hid (HC.out.below hb)
        replace B0 := Lib.hid (B0.out.below hb)
        replace HB := Lib.hid (bC HB.out hb)
        clear hb
        have B0c0 := B0.out.cell 0
        have B0c1 := B0.out.cell 1
        simp at B0c0 B0c1
        go_wp2_with fail
        clear B0c0 B0c1
        refine (rCheckPrices_all (.agg #[.int .i64 r.len, .slice sa r.fs.length cap]) (.slice ka ks.length kcap) r ks _ HV.out HK.out (by omega) (by omega) _ l HC.out (by omega)).mono ?_
        rintro e v3 ⟨rfl, hb⟩
        replace HV := Lib.hid (HV.out.below hb)
        replace HK := Lib.hid (HK.out.below hb)
        replace HC := Lib.hid (HC.out.below hb)
        replace B0 := Lib.hid (B0.out.below hb)
        replace HB := Lib.hid (bC HB.out hb)
        clear hb
        have B0c0 := B0.out.cell 0
        have B0c1 := B0.out.cell 1
        simp at B0c0 B0c1
        go_wp2_with fail
        clear B0c0 B0c1
        refine (Prices_all (.agg #[.int .i64 r.len, .slice sa r.fs.length cap]) (.slice ka ks.length kcap) r ks _ HV.out HK.out (by omega) (by omega)).mono ?_
        rintro e v4 ⟨vx, rfl, hp, hb⟩
        replace HV := Lib.hid (HV.out.below hb)
        replace HK := Lib.hid (HK.out.below hb)
        replace HC := Lib.hid (HC.out.below hb)
        replace B0 := Lib.hid (B0.out.below hb)
        replace HB := Lib.hid (bC HB.out hb)
        clear hb
        obtain ⟨xa, xc, rfl⟩ := hp.slice
        have HX := Lib.hid hp
        clear hp
        have B0c0 := B0.out.cell 0
        have B0c1 := B0.out.cell 1
        simp at B0c0 B0c1
        go_wp2_with fail
        clear B0c0 B0c1
        refine (rWorth_all (.agg #[.int .i64 r.len, .slice sa r.fs.length cap]) (.slice ka ks.length kcap) r ks _ HV.out HK.out (by omega) (by omega)).mono ?_
        rintro e v5 ⟨rfl, hb⟩
        replace HV := Lib.hid (HV.out.below hb)
        replace HK := Lib.hid (HK.out.below hb)
        replace HC := Lib.hid (HC.out.below hb)
        replace HX := Lib.hid (HX.out.below hb)
        replace B0 := Lib.hid (B0.out.below hb)
        replace HB := Lib.hid (bC HB.out hb)
        clear hb
        rw [HE.out]
        have B0c0 := B0.out.cell 0
        have B0c1 := B0.out.cell 1
        simp at B0c0 B0c1
        go_wp2_with fail
        clear B0c0 B0c1
        refine (rCheckPrices_all (.agg #[.int .i64 r.len, .slice sa r.fs.length cap]) (.slice ka ks.length kcap) r ks _ HV.out HK.out (by omega) (by omega) _ (pricesLV r ks) HX.out (by omega)).mono ?_
        rintro e v6 ⟨rfl, hb⟩
        replace HV := Lib.hid (HV.out.below hb)
        replace HK := Lib.hid (HK.out.below hb)
        replace HC := Lib.hid (HC.out.below hb)
        replace HX := Lib.hid (HX.out.below hb)
        replace B0 := Lib.hid (B0.out.below hb)
        replace HB := Lib.hid (bC HB.out hb)
        clear hb
        rw [HPV.out.1, HPV.out.2]
        have B0c0 := B0.out.cell 0
        have B0c1 := B0.out.cell 1
        simp at B0c0 B0c1
        go_wp2_with fail
        clear B0c0 B0c1
        refine (Works_any _).mono ?_
        rintro e v7 ⟨rfl, hb⟩
        replace HV := Lib.hid (HV.out.below hb)
        replace HK := Lib.hid (HK.out.below hb)
        replace HC := Lib.hid (HC.out.below hb)
        replace HX := Lib.hid (HX.out.below hb)
        replace B0 := Lib.hid (B0.out.below hb)
        replace HB := Lib.hid (bC HB.out hb)
        clear hb
        go_wp2
        go_ret
        exact ⟨rfl, HB.out⟩
      · have he' : (bothErr r ks != 0) = true := by simpa using he
        have hl0 : (pricesLV r ks).length = 0 := by unfold pricesLV; rw [if_neg he]; rfl
        have HL0 := Lib.hid hl0
        have d7 : (((pricesLV r ks).length : Int) == 0) = true := by rw [hl0]; rfl
        clear he hl0
        go_enter Try.func5, Try.ntmps5
        go_wp2_with fail
        generalize w.alloc (.cells #[.int .i64 r.len, .slice sa r.fs.length cap] 24) = W0 at *
        refine (great_any (.agg #[.int .i64 r.len, .slice sa r.fs.length cap]) (.slice ka ks.length kcap) r ks _ HV.out HK.out).mono ?_
        rintro e v1 ⟨rfl, hb⟩
        replace HV := Lib.hid (HV.out.below hb)
        replace HK := Lib.hid (HK.out.below hb)
        replace HC := Lib.hid (HC.out.below hb)
        replace B0 := Lib.hid (B0.out.below hb)
        replace HB := Lib.hid (bC HB.out hb)
        clear hb
        rw [HG.out]
        have B0c0 := B0.out.cell 0
        have B0c1 := B0.out.cell 1
        simp at B0c0 B0c1
        go_wp2_with fail
        clear B0c0 B0c1
        clear d1 d2 d3
        refine (CheckPrices_all (.agg #[.int .i64 r.len, .slice sa r.fs.length cap]) (.slice ka ks.length kcap) r ks _ HV.out HK.out (by omega) (by omega) _ l HC.out HCAP.out (by omega)).mono ?_
        rintro e v2 ⟨rfl, hb⟩
        replace HV := Lib.hid (HV.out.below hb)
        replace HK := Lib.hid (HK.out.below hb)
        replace HC := Lib.hid (HC.out.below hb)
        replace B0 := Lib.hid (B0.out.below hb)
        replace HB := Lib.hid (bC HB.out hb)
        clear hb
        have B0c0 := B0.out.cell 0
        have B0c1 := B0.out.cell 1
        simp at B0c0 B0c1
        go_wp2_with fail
        clear B0c0 B0c1
        refine (rCheckPrices_all (.agg #[.int .i64 r.len, .slice sa r.fs.length cap]) (.slice ka ks.length kcap) r ks _ HV.out HK.out (by omega) (by omega) _ l HC.out (by omega)).mono ?_
        rintro e v3 ⟨rfl, hb⟩
        replace HV := Lib.hid (HV.out.below hb)
        replace HK := Lib.hid (HK.out.below hb)
        replace HC := Lib.hid (HC.out.below hb)
        replace B0 := Lib.hid (B0.out.below hb)
        replace HB := Lib.hid (bC HB.out hb)
        clear hb
        have B0c0 := B0.out.cell 0
        have B0c1 := B0.out.cell 1
        simp at B0c0 B0c1
        go_wp2_with fail
        clear B0c0 B0c1
        refine (Prices_all (.agg #[.int .i64 r.len, .slice sa r.fs.length cap]) (.slice ka ks.length kcap) r ks _ HV.out HK.out (by omega) (by omega)).mono ?_
        rintro e v4 ⟨vx, rfl, hp, hb⟩
        replace HV := Lib.hid (HV.out.below hb)
        replace HK := Lib.hid (HK.out.below hb)
        replace HC := Lib.hid (HC.out.below hb)
        replace B0 := Lib.hid (B0.out.below hb)
        replace HB := Lib.hid (bC HB.out hb)
        clear hb
        obtain ⟨xa, xc, rfl⟩ := hp.slice
        have HX := Lib.hid hp
        clear hp
        have B0c0 := B0.out.cell 0
        have B0c1 := B0.out.cell 1
        simp at B0c0 B0c1
        go_wp2_with fail
        clear B0c0 B0c1
        refine (rWorth_all (.agg #[.int .i64 r.len, .slice sa r.fs.length cap]) (.slice ka ks.length kcap) r ks _ HV.out HK.out (by omega) (by omega)).mono ?_
        rintro e v5 ⟨rfl, hb⟩
        replace HV := Lib.hid (HV.out.below hb)
        replace HK := Lib.hid (HK.out.below hb)
        replace HC := Lib.hid (HC.out.below hb)
        replace HX := Lib.hid (HX.out.below hb)
        replace B0 := Lib.hid (B0.out.below hb)
        replace HB := Lib.hid (bC HB.out hb)
        clear hb
        have B0c0 := B0.out.cell 0
        have B0c1 := B0.out.cell 1
        simp at B0c0 B0c1
        go_wp2_with fail
        clear B0c0 B0c1
        refine (Works_any _).mono ?_
        rintro e v6 ⟨rfl, hb⟩
        replace HV := Lib.hid (HV.out.below hb)
        replace HK := Lib.hid (HK.out.below hb)
        replace HC := Lib.hid (HC.out.below hb)
        replace HX := Lib.hid (HX.out.below hb)
        replace B0 := Lib.hid (B0.out.below hb)
        replace HB := Lib.hid (bC HB.out hb)
        clear hb
        go_wp2
        go_ret
        exact ⟨rfl, HB.out⟩
end Go.Proofs.Ytnkeikhkafbokaa
