import Derived.Test.YtnkeikhkafbokaaQj
import Derived.Test.YtnkeikhkafbokaaQy
namespace Go.Proofs.Ytnkeikhkafbokaa
open Go.RowKit Go.Dag

/-! ## The chapter's examples: closed values -/
def tenR : RibD := ⟨10, [3, 8]⟩
def threeK : List KindD := [⟨4, 10, 0⟩, ⟨2, 3, 0⟩, ⟨3, 4, 1⟩]
theorem ten_err : bothErr tenR threeK = 0 := by decide
theorem ten_ok : RibOk tenR ∧ KindsOk threeK := bothErr_zero ten_err
theorem wv1 : cutsErr tenR threeK [(0, 1), (2, 2), (5, 1), (7, 2)] = 0 ∧ cutsV tenR threeK [(0, 1), (2, 2), (5, 1), (7, 2)] = 14 := by decide +kernel
theorem wv2 : cutsErr tenR threeK [(0, 0)] = 18 ∧ cutsV tenR threeK [(0, 0)] = 0 := by decide +kernel
theorem wv3 : cutsErr tenR threeK [(4, 2), (5, 1)] = 16 ∧ cutsV tenR threeK [(4, 2), (5, 1)] = 0 := by decide +kernel
theorem wv4 : cutsErr tenR threeK [(11, 0)] = 3 ∧ cutsV tenR threeK [(11, 0)] = 0 := by decide +kernel
theorem wv5 : dn (tabOf tenR threeK) 0 = 14 := by decide +kernel
theorem wv6 : firstL (tabOf tenR threeK) = [(0, 1), (2, 2), (5, 1), (7, 2)] := by decide +kernel
theorem wv7 : many (tabOf tenR threeK) 0 = 3 := by decide +kernel
theorem wv8 : partedV tenR threeK 0 = 2 ∧ partedV tenR threeK 5 = 1 ∧ partedV tenR threeK 6 = 0 ∧ partedV tenR threeK 11 = 0 := by decide +kernel
theorem wv8e : partedErr tenR 0 = 0 ∧ partedErr tenR 5 = 0 ∧ partedErr tenR 6 = 0 ∧ partedErr tenR 11 = 2 := by decide +kernel
theorem wv9 : pricesErr tenR threeK [0, 3, 1, 0, 3, 1, 2, 4, 0, 0] = 0 ∧ pricesV tenR threeK [0, 3, 1, 0, 3, 1, 2, 4, 0, 0] = 14 := by decide +kernel
theorem wv10 : pricesErr tenR threeK [1, 1, 1, 1, 1, 1, 1, 1, 1, 1] = 14 ∧ pricesV tenR threeK [1, 1, 1, 1, 1, 1, 1, 1, 1, 1] = 0 := by decide +kernel
theorem wv11 : pricesErr tenR threeK [0, 0] = 15 ∧ pricesV tenR threeK [0, 0] = 0 := by decide +kernel
theorem wv12 : costV tenR threeK 0 = 6 ∧ costV tenR threeK 1 = 4 ∧ costV tenR threeK 2 = 0 := by decide +kernel
theorem wv12e : costErr tenR 0 = 0 ∧ costErr tenR 1 = 0 ∧ costErr tenR 2 = 2 := by decide +kernel
theorem wv13 : pricesErr tenR threeK (pricesL (tabOf tenR threeK)) = 0 ∧ pricesV tenR threeK (pricesL (tabOf tenR threeK)) = 14 := by
  have h := prices_good ten_ok.1 ten_ok.2
  rw [wv5] at h
  exact h
theorem wv14 : cutsErr tenR threeK [(8, 2)] = 18 ∧ cutsV tenR threeK [(8, 2)] = 0 := by decide +kernel
theorem wv15 : pricesErr tenR threeK [3, 3, 3, 3, 3, 3, 3, 3, 3, 3] = 0 ∧ pricesV tenR threeK [3, 3, 3, 3, 3, 3, 3, 3, 3, 3] = 30 := by decide +kernel
theorem wv16 : cutsErr tenR threeK [] = 0 ∧ cutsV tenR threeK [] = 0 := by decide +kernel
theorem wv17 : ribErr tenR = 0 ∧ kindErr threeK = 0 ∧ ribErr ⟨3, [2, 1]⟩ = 3 := by decide +kernel
end Go.Proofs.Ytnkeikhkafbokaa

namespace Go.Proofs.Ytnkeikhkafbokaa
open Go.RowKit Go.Dag Go.Sort Go.Shelf
attribute [local go_sem] Oper.semAt_some

/-! ## The law's own functions -/
set_option maxHeartbeats 1000000 in
theorem great_any (v : Value) (kv : Value) (r : RibD) (ks : List KindD) (w : World) (hv : RibAt w v r) (hk : KindsAt w kv ks) :
    Calls Try.prog 16 #[v, kv] w fun e w' => e = .returned (.bool (decide (40 < r.fs.length) || decide (12 < ks.length))) ∧ Below w.heap.size w w' := by
  obtain ⟨sv, rfl, hi⟩ := hv
  obtain ⟨sa, cap, rfl⟩ := hi.slice
  obtain ⟨ka, kcap, rfl⟩ := hk.slice
  have hB0 := below1 w (.cells #[.int .i64 r.len, .slice sa r.fs.length cap] 24)
  clear hi hk
  by_cases q1 : 40 < r.fs.length
  · have d1 : decide ((r.fs.length : Int) > 40) = true := by simp; omega
    have d2 : decide ((40 : Int) < (r.fs.length : Int)) = true := by simp; omega
    have d3 : decide (40 < r.fs.length) = true := by simp; omega
    have HT := Lib.hid (show true = (decide (40 < r.fs.length) || decide (12 < ks.length)) by rw [d3]; rfl)
    clear q1
    go_enter Try.func16, Try.ntmps16
    go_wp2
    go_ret
    exact ⟨ret_bool HT.out, hB0⟩
  · have d1 : decide ((r.fs.length : Int) > 40) = false := by simp; omega
    have d2 : decide ((40 : Int) < (r.fs.length : Int)) = false := by simp; omega
    have d3 : decide (40 < r.fs.length) = false := by simp; omega
    by_cases q2 : 12 < ks.length
    · have d4 : decide ((ks.length : Int) > 12) = true := by simp; omega
      have d5 : decide ((12 : Int) < (ks.length : Int)) = true := by simp; omega
      have d6 : decide (12 < ks.length) = true := by simp; omega
      have HT := Lib.hid (show true = (decide (40 < r.fs.length) || decide (12 < ks.length)) by rw [d3, d6]; rfl)
      clear q1 q2
      go_enter Try.func16, Try.ntmps16
      go_wp2
      go_ret
      exact ⟨ret_bool HT.out, hB0⟩
    · have d4 : decide ((ks.length : Int) > 12) = false := by simp; omega
      have d5 : decide ((12 : Int) < (ks.length : Int)) = false := by simp; omega
      have d6 : decide (12 < ks.length) = false := by simp; omega
      have HT := Lib.hid (show false = (decide (40 < r.fs.length) || decide (12 < ks.length)) by rw [d3, d6]; rfl)
      clear q1 q2
      go_enter Try.func16, Try.ntmps16
      go_wp2
      go_ret
      exact ⟨ret_bool HT.out, hB0⟩
theorem longs_any (v : Value) (w : World) : Calls Try.prog 51 #[v] w fun e w' => e = .returned v ∧ w = w' := by
  go_enter Try.func51, Try.ntmps51
  go_wp2
  go_ret
  exact ⟨rfl, rfl⟩
theorem of_any (v : Value) (w : World) : Calls Try.prog 52 #[v] w fun e w' => e = .returned v ∧ w = w' := by
  go_enter Try.func52, Try.ntmps52
  go_wp2
  go_ret
  exact ⟨rfl, rfl⟩
theorem Ribbon_any (n : Int) (a : Option Addr) (m c : Nat) (w : World) : Calls Try.prog 46 #[.int .i64 n, .slice a m c] w fun e w' => e = .returned (.agg #[.int .i64 n, .slice a m c]) ∧ Below w.heap.size w w' := by
  go_enter Try.func46, Try.ntmps46
  go_wp2
  exact bodyPost_ret (v := .agg #[.int .i64 n, .slice a m c]) (by simp [results, Try.results46, go_sem]) rfl ⟨rfl, below1 _ _⟩
theorem Kind_any (a b c : Int) (w : World) : Calls Try.prog 76 #[.int .i64 a, .int .i64 b, .int .i64 c] w fun e w' => e = .returned (.agg #[.int .i64 a, .int .i64 b, .int .i64 c]) ∧ Below w.heap.size w w' := by
  go_enter Try.func76, Try.ntmps76
  go_wp2
  exact bodyPost_ret (v := .agg #[.int .i64 a, .int .i64 b, .int .i64 c]) (by simp [results, Try.results76, go_sem]) rfl ⟨rfl, below1 _ _⟩
set_option maxHeartbeats 1000000 in
theorem ten_any (w : World) : Calls Try.prog 48 #[] w fun e w' => ∃ v, e = .returned v ∧ RibAt w' v tenR ∧ Below w.heap.size w w' := by
  go_enter Try.func48, Try.ntmps48
  go_wp2_with fail
  have b1 := (Blk.new w (.cells #[.int .i64 0, .slice none 0 0] 24)).alloc (.cells #[.int .i64 3, .int .i64 8] 3)
  have b2 := Blk.new (w.alloc (.cells #[.int .i64 0, .slice none 0 0] 24)) (.cells #[.int .i64 3, .int .i64 8] 3)
  rw [World.size_alloc] at b2
  have HB := Lib.hid (below2 w (.cells #[.int .i64 0, .slice none 0 0] 24) (.cells #[.int .i64 3, .int .i64 8] 3))
  generalize (w.alloc (.cells #[.int .i64 0, .slice none 0 0] 24)).alloc (.cells #[.int .i64 3, .int .i64 8] 3) = W0 at *
  refine (Ribbon_any 10 _ _ _ _).mono ?_
  rintro e w1 ⟨rfl, hb1⟩
  replace b1 := b1.below hb1
  replace b2 := b2.below hb1
  have HB1 := Lib.hid (bC HB.out hb1)
  have y0 := b1.cell 0
  have y1 := b1.cell 1
  have f0 := b1.frozen 0
  have f1 := b1.frozen 1
  simp at y0 y1
  clear hb1
  go_wp2_with fail
  have b3 := (b1.set (j := 0) (.int .i64 10)).set (j := 1) (.slice (some ⟨w.heap.size + 1, 0, none⟩) 2 2)
  have b4 := (b2.other (b := w.heap.size) (j := 0) (by omega) (.int .i64 10)).other (b := w.heap.size) (j := 1) (by omega) (.slice (some ⟨w.heap.size + 1, 0, none⟩) 2 2)
  have HB3 := Lib.hid ((HB1.out.setCell (p := ⟨w.heap.size, 0, none⟩) (by simp) (.int .i64 10)).setCell (p := ⟨w.heap.size, 1, none⟩) (by simp) (.slice (some ⟨w.heap.size + 1, 0, none⟩) 2 2))
  generalize (w1.setCell ⟨w.heap.size, 0, none⟩ (.int .i64 10)).setCell ⟨w.heap.size, 1, none⟩ (.slice (some ⟨w.heap.size + 1, 0, none⟩) 2 2) = w9 at *
  have z0 := b3.cell 0
  have z1 := b3.cell 1
  have u0 := b4.cell 0
  have u1 := b4.cell 1
  simp at z0 z1 u0 u1
  exact bodyPost_ret (v := .agg #[.int .i64 10, .slice (some ⟨w.heap.size + 1, 0, none⟩) 2 2]) (by simp [results, Try.results48, go_sem, z0, z1]) rfl ⟨_, rfl, ⟨_, rfl, IntsAt.mk2 u0 u1⟩, HB3.out⟩
set_option maxHeartbeats 1000000 in
theorem three_any (w : World) : Calls Try.prog 49 #[] w fun e w' => ∃ v, e = .returned v ∧ KindsAt w' v threeK ∧ Below w.heap.size w w' := by
  go_enter Try.func49, Try.ntmps49
  go_wp2_with fail
  refine (Kind_any _ _ _ _).mono ?_
  rintro e w1 ⟨rfl, hb1⟩
  go_wp2_with fail
  refine (Kind_any _ _ _ _).mono ?_
  rintro e w2 ⟨rfl, hb2⟩
  go_wp2_with fail
  refine (Kind_any _ _ _ _).mono ?_
  rintro e w3 ⟨rfl, hb3⟩
  have HB3 := Lib.hid (bC (bC hb1 hb2) hb3)
  clear hb1 hb2 hb3
  go_wp2
  go_ret
  have b := Blk.new w3 (.cells #[.int .i64 4, .int .i64 10, .int .i64 0, .int .i64 2, .int .i64 3, .int .i64 0, .int .i64 3, .int .i64 4, .int .i64 1] 67)
  refine ⟨_, rfl, ⟨some ⟨w3.heap.size, 0, none⟩, 3, rfl, fun _ => ⟨w3.heap.size, 0, rfl, fun i hi => ?_⟩⟩, HB3.out.alloc HB3.out.size _⟩
  rw [b.cell, b.cell, b.cell]
  match i, hi with
  | 0, _ => exact ⟨rfl, rfl, rfl⟩
  | 1, _ => exact ⟨rfl, rfl, rfl⟩
  | 2, _ => exact ⟨rfl, rfl, rfl⟩
end Go.Proofs.Ytnkeikhkafbokaa

namespace Go.Proofs.Ytnkeikhkafbokaa
open Go.RowKit Go.Dag Go.Sort Go.Shelf
attribute [local go_sem] Oper.semAt_some

/-! ## The law's own functions: lists of sheets, valid ribbons and kinds, best cuts -/
theorem fine_of {r : RibD} {ks : List KindD} (hr : RibOk r) (hks : KindsOk ks) : (decide (40 < r.fs.length) || decide (12 < ks.length)) = false := by
  have h1 := hr.count
  have h2 := hks.1.2
  rw [decide_eq_false (by omega), decide_eq_false (by omega)]
  rfl
set_option maxHeartbeats 2000000 in
theorem fine_yes (v kv : Value) (r : RibD) (ks : List KindD) (w : World) (hv : RibAt w v r) (hk : KindsAt w kv ks) (hr : RibOk r) (hks : KindsOk ks) :
    Calls Try.prog 38 #[v, kv] w fun e w' => e = .returned (.bool true) ∧ Below w.heap.size w w' := by
  obtain ⟨sv, rfl, hi⟩ := hv
  obtain ⟨sa, cap, rfl⟩ := hi.slice
  obtain ⟨ka, kcap, rfl⟩ := hk.slice
  have hB0 := below1 w (.cells #[.int .i64 r.len, .slice sa r.fs.length cap] 24)
  have HB := Lib.hid hB0
  have B0 := Lib.hid (Blk.new w (.cells #[.int .i64 r.len, .slice sa r.fs.length cap] 24))
  have HV := Lib.hid (show RibAt _ (.agg #[.int .i64 r.len, .slice sa r.fs.length cap]) r from ⟨_, rfl, hi.below hB0⟩)
  have HK := Lib.hid (hk.below hB0)
  clear hi hk hB0
  have HG := Lib.hid (fine_of hr hks)
  have H1 := Lib.hid (ribErr_of hr)
  have H2 := Lib.hid (kindErr_of hks)
  have hfc := hr.count
  have hk6 := hks.1.2
  clear hr hks
  go_enter Try.func38, Try.ntmps38
  go_wp2_with fail
  generalize w.alloc (.cells #[.int .i64 r.len, .slice sa r.fs.length cap] 24) = W0 at *
  refine (great_any (.agg #[.int .i64 r.len, .slice sa r.fs.length cap]) (.slice ka ks.length kcap) r ks _ HV.out HK.out).mono ?_
  rintro e v1 ⟨rfl, hb⟩
  replace HV := Lib.hid (HV.out.below hb)
  replace HK := Lib.hid (HK.out.below hb)
  replace B0 := Lib.hid (B0.out.below hb)
  replace HB := Lib.hid (bC HB.out hb)
  clear hb
  rw [HG.out]
  have B0c0 := B0.out.cell 0
  have B0c1 := B0.out.cell 1
  simp at B0c0 B0c1
  go_wp2_with fail
  clear B0c0 B0c1
  refine (rCheckRibbon_any (.agg #[.int .i64 r.len, .slice sa r.fs.length cap]) r _ HV.out (by omega)).mono ?_
  rintro e v2 ⟨rfl, hb⟩
  replace HV := Lib.hid (HV.out.below hb)
  replace HK := Lib.hid (HK.out.below hb)
  replace B0 := Lib.hid (B0.out.below hb)
  replace HB := Lib.hid (bC HB.out hb)
  clear hb
  rw [H1.out]
  have B0c0 := B0.out.cell 0
  have B0c1 := B0.out.cell 1
  simp at B0c0 B0c1
  go_wp2_with fail
  clear B0c0 B0c1
  refine (rCheckKinds_any (.slice ka ks.length kcap) ks _ HK.out (by omega)).mono ?_
  rintro e v3 ⟨rfl, hb⟩
  replace HV := Lib.hid (HV.out.below hb)
  replace HK := Lib.hid (HK.out.below hb)
  replace B0 := Lib.hid (B0.out.below hb)
  replace HB := Lib.hid (bC HB.out hb)
  clear hb
  rw [H2.out]
  have B0c0 := B0.out.cell 0
  have B0c1 := B0.out.cell 1
  simp at B0c0 B0c1
  go_wp2
  go_ret
  exact ⟨rfl, HB.out⟩
set_option maxHeartbeats 2000000 in
theorem fine_no (v kv : Value) (r : RibD) (ks : List KindD) (w : World) (hv : RibAt w v r) (hk : KindsAt w kv ks) (h : ¬ (RibOk r ∧ KindsOk ks)) :
    Calls Try.prog 38 #[v, kv] w fun e w' => e = .returned (.bool false) ∧ Below w.heap.size w w' := by
  obtain ⟨sv, rfl, hi⟩ := hv
  obtain ⟨sa, cap, rfl⟩ := hi.slice
  obtain ⟨ka, kcap, rfl⟩ := hk.slice
  have hB0 := below1 w (.cells #[.int .i64 r.len, .slice sa r.fs.length cap] 24)
  have HB := Lib.hid hB0
  have B0 := Lib.hid (Blk.new w (.cells #[.int .i64 r.len, .slice sa r.fs.length cap] 24))
  have HV := Lib.hid (show RibAt _ (.agg #[.int .i64 r.len, .slice sa r.fs.length cap]) r from ⟨_, rfl, hi.below hB0⟩)
  have HK := Lib.hid (hk.below hB0)
  clear hi hk hB0
  by_cases g : (decide (40 < r.fs.length) || decide (12 < ks.length)) = true
  · have HG := Lib.hid g
    clear g
    go_enter Try.func38, Try.ntmps38
    go_wp2_with fail
    generalize w.alloc (.cells #[.int .i64 r.len, .slice sa r.fs.length cap] 24) = W0 at *
    refine (great_any (.agg #[.int .i64 r.len, .slice sa r.fs.length cap]) (.slice ka ks.length kcap) r ks _ HV.out HK.out).mono ?_
    rintro e v1 ⟨rfl, hb⟩
    replace HV := Lib.hid (HV.out.below hb)
    replace HK := Lib.hid (HK.out.below hb)
    replace B0 := Lib.hid (B0.out.below hb)
    replace HB := Lib.hid (bC HB.out hb)
    clear hb
    rw [HG.out]
    have B0c0 := B0.out.cell 0
    have B0c1 := B0.out.cell 1
    simp at B0c0 B0c1
    go_wp2
    go_ret
    exact ⟨rfl, HB.out⟩
  · have hg := g
    rw [Bool.not_eq_true] at g
    have HG := Lib.hid g
    have hl : r.fs.length ≤ 40 ∧ ks.length ≤ 12 := by
      simp only [Bool.or_eq_true, decide_eq_true_eq] at hg
      omega
    clear g hg
    by_cases q : ribErr r = 0
    · have q2 : ¬ kindErr ks = 0 := fun h2 => h ⟨ribErr_zero q, kindErr_zero h2⟩
      have d1 : (kindErr ks == 0) = false := by simpa using q2
      have H1 := Lib.hid q
      clear q q2 h
      go_enter Try.func38, Try.ntmps38
      go_wp2_with fail
      generalize w.alloc (.cells #[.int .i64 r.len, .slice sa r.fs.length cap] 24) = W0 at *
      refine (great_any (.agg #[.int .i64 r.len, .slice sa r.fs.length cap]) (.slice ka ks.length kcap) r ks _ HV.out HK.out).mono ?_
      rintro e v1 ⟨rfl, hb⟩
      replace HV := Lib.hid (HV.out.below hb)
      replace HK := Lib.hid (HK.out.below hb)
      replace B0 := Lib.hid (B0.out.below hb)
      replace HB := Lib.hid (bC HB.out hb)
      clear hb
      rw [HG.out]
      have B0c0 := B0.out.cell 0
      have B0c1 := B0.out.cell 1
      simp at B0c0 B0c1
      go_wp2_with fail
      clear B0c0 B0c1
      refine (rCheckRibbon_any (.agg #[.int .i64 r.len, .slice sa r.fs.length cap]) r _ HV.out (by omega)).mono ?_
      rintro e v2 ⟨rfl, hb⟩
      replace HV := Lib.hid (HV.out.below hb)
      replace HK := Lib.hid (HK.out.below hb)
      replace B0 := Lib.hid (B0.out.below hb)
      replace HB := Lib.hid (bC HB.out hb)
      clear hb
      rw [H1.out]
      have B0c0 := B0.out.cell 0
      have B0c1 := B0.out.cell 1
      simp at B0c0 B0c1
      go_wp2_with fail
      clear B0c0 B0c1
      refine (rCheckKinds_any (.slice ka ks.length kcap) ks _ HK.out (by omega)).mono ?_
      rintro e v3 ⟨rfl, hb⟩
      replace HV := Lib.hid (HV.out.below hb)
      replace HK := Lib.hid (HK.out.below hb)
      replace B0 := Lib.hid (B0.out.below hb)
      replace HB := Lib.hid (bC HB.out hb)
      clear hb
      have B0c0 := B0.out.cell 0
      have B0c1 := B0.out.cell 1
      simp at B0c0 B0c1
      go_wp2
      go_ret
      exact ⟨rfl, HB.out⟩
    · have d1 : (ribErr r == 0) = false := by simpa using q
      clear q h
      go_enter Try.func38, Try.ntmps38
      go_wp2_with fail
      generalize w.alloc (.cells #[.int .i64 r.len, .slice sa r.fs.length cap] 24) = W0 at *
      refine (great_any (.agg #[.int .i64 r.len, .slice sa r.fs.length cap]) (.slice ka ks.length kcap) r ks _ HV.out HK.out).mono ?_
      rintro e v1 ⟨rfl, hb⟩
      replace HV := Lib.hid (HV.out.below hb)
      replace HK := Lib.hid (HK.out.below hb)
      replace B0 := Lib.hid (B0.out.below hb)
      replace HB := Lib.hid (bC HB.out hb)
      clear hb
      rw [HG.out]
      have B0c0 := B0.out.cell 0
      have B0c1 := B0.out.cell 1
      simp at B0c0 B0c1
      go_wp2_with fail
      clear B0c0 B0c1
      refine (rCheckRibbon_any (.agg #[.int .i64 r.len, .slice sa r.fs.length cap]) r _ HV.out (by omega)).mono ?_
      rintro e v2 ⟨rfl, hb⟩
      replace HV := Lib.hid (HV.out.below hb)
      replace HK := Lib.hid (HK.out.below hb)
      replace B0 := Lib.hid (B0.out.below hb)
      replace HB := Lib.hid (bC HB.out hb)
      clear hb
      have B0c0 := B0.out.cell 0
      have B0c1 := B0.out.cell 1
      simp at B0c0 B0c1
      go_wp2
      go_ret
      exact ⟨rfl, HB.out⟩
theorem firstL_good {r : RibD} {ks : List KindD} (hr : RibOk r) (hks : KindsOk ks) : cutsErr r ks (firstL (tabOf r ks)) = 0 ∧ cutsV r ks (firstL (tabOf r ks)) = dn (tabOf r ks) 0 := by
  have hok := tabOf_ok (r := r) (ks := ks) (by have := hr.l1; omega) hks
  have hb := first_best hok (tabOf r ks).L 0 (by omega)
  have h := cuts_of hr hks hb.1
  exact ⟨h.1, h.2.trans hb.2⟩
set_option maxHeartbeats 4000000 in
theorem best_any (v kv : Value) (r : RibD) (ks : List KindD) (w : World) (hv : RibAt w v r) (hk : KindsAt w kv ks) (hr : RibOk r) (hks : KindsOk ks) :
    Calls Try.prog 39 #[v, kv] w fun e w' => ∃ vc, e = .returned (.tuple #[.int .i64 (dn (tabOf r ks) 0), vc, .bool true]) ∧ PairsAt w' vc (firstL (tabOf r ks)) ∧ Below w.heap.size w w' := by
  obtain ⟨sv, rfl, hi⟩ := hv
  obtain ⟨sa, cap, rfl⟩ := hi.slice
  obtain ⟨ka, kcap, rfl⟩ := hk.slice
  have hB0 := below1 w (.cells #[.int .i64 r.len, .slice sa r.fs.length cap] 24)
  have HB := Lib.hid hB0
  have B0 := Lib.hid (Blk.new w (.cells #[.int .i64 r.len, .slice sa r.fs.length cap] 24))
  have HV := Lib.hid (show RibAt _ (.agg #[.int .i64 r.len, .slice sa r.fs.length cap]) r from ⟨_, rfl, hi.below hB0⟩)
  have HK := Lib.hid (hk.below hB0)
  clear hi hk hB0
  have HRK := Lib.hid (And.intro hr hks)
  have HFG := Lib.hid (firstL_good hr hks)
  have hfl := firstL_len hr hks
  have hdn := tabOf_dn (r := r) (by have := hr.l1; omega) hr.l2 hks 0
  obtain ⟨D, hD⟩ : ∃ D, dn (tabOf r ks) 0 = D := ⟨_, rfl⟩
  rw [hD] at hdn HFG ⊢
  have HD := Lib.hid hD
  have d1 : decide (D < 0) = false := by simp; omega
  have d2 : decide (D > 24000) = false := by simp; omega
  have d3 : decide (24000 < D) = false := by simp; omega
  clear hr hks hD
  go_enter Try.func39, Try.ntmps39
  go_wp2_with fail
  generalize w.alloc (.cells #[.int .i64 r.len, .slice sa r.fs.length cap] 24) = W0 at *
  refine (Worth_ok (.agg #[.int .i64 r.len, .slice sa r.fs.length cap]) (.slice ka ks.length kcap) r ks _ HV.out HK.out HRK.out.1 HRK.out.2).mono ?_
  rintro e v1 ⟨rfl, hb⟩
  replace HV := Lib.hid (HV.out.below hb)
  replace HK := Lib.hid (HK.out.below hb)
  replace B0 := Lib.hid (B0.out.below hb)
  replace HB := Lib.hid (bC HB.out hb)
  clear hb
  rw [HD.out]
  have B0c0 := B0.out.cell 0
  have B0c1 := B0.out.cell 1
  simp at B0c0 B0c1
  go_wp2_with fail
  clear B0c0 B0c1
  refine (Cuts_ok (.agg #[.int .i64 r.len, .slice sa r.fs.length cap]) (.slice ka ks.length kcap) r ks _ HV.out HK.out HRK.out.1 HRK.out.2).mono ?_
  rintro e v2 ⟨vc, rfl, hp, hb⟩
  replace HV := Lib.hid (HV.out.below hb)
  replace HK := Lib.hid (HK.out.below hb)
  replace B0 := Lib.hid (B0.out.below hb)
  replace HB := Lib.hid (bC HB.out hb)
  clear hb
  obtain ⟨va, vcc, rfl⟩ := hp.slice
  have HP := Lib.hid hp
  have d4 : decide (((firstL (tabOf r ks)).length : Int) > 24) = false := by simp; omega
  have d5 : decide (24 < (firstL (tabOf r ks)).length) = false := by simp; omega
  have d6 : decide ((24 : Int) < ((firstL (tabOf r ks)).length : Int)) = false := by simp; omega
  clear hp
  have B0c0 := B0.out.cell 0
  have B0c1 := B0.out.cell 1
  simp at B0c0 B0c1
  go_wp2_with fail
  clear B0c0 B0c1
  refine (CheckCuts_ok (.agg #[.int .i64 r.len, .slice sa r.fs.length cap]) (.slice ka ks.length kcap) r ks _ (firstL (tabOf r ks)) _ HV.out HK.out HP.out (by omega) HRK.out.1 HRK.out.2).mono ?_
  rintro e v3 ⟨rfl, hb⟩
  replace HV := Lib.hid (HV.out.below hb)
  replace HK := Lib.hid (HK.out.below hb)
  replace HP := Lib.hid (HP.out.below hb)
  replace B0 := Lib.hid (B0.out.below hb)
  replace HB := Lib.hid (bC HB.out hb)
  clear hb
  rw [HFG.out.1, HFG.out.2]
  have B0c0 := B0.out.cell 0
  have B0c1 := B0.out.cell 1
  simp at B0c0 B0c1
  go_wp2_with fail
  clear B0c0 B0c1
  refine (rCheckCuts_ok (.agg #[.int .i64 r.len, .slice sa r.fs.length cap]) (.slice ka ks.length kcap) r ks _ (firstL (tabOf r ks)) _ HV.out HK.out HP.out (by omega) HRK.out.1 HRK.out.2).mono ?_
  rintro e v4 ⟨rfl, hb⟩
  replace HV := Lib.hid (HV.out.below hb)
  replace HK := Lib.hid (HK.out.below hb)
  replace HP := Lib.hid (HP.out.below hb)
  replace B0 := Lib.hid (B0.out.below hb)
  replace HB := Lib.hid (bC HB.out hb)
  clear hb
  rw [HFG.out.1, HFG.out.2]
  have B0c0 := B0.out.cell 0
  have B0c1 := B0.out.cell 1
  simp at B0c0 B0c1
  go_wp2
  go_ret3
  exact ⟨_, rfl, HP.out, HB.out⟩
set_option maxHeartbeats 2000000 in
theorem count_any (v kv : Value) (r : RibD) (ks : List KindD) (w : World) (hv : RibAt w v r) (hk : KindsAt w kv ks) (hr : RibOk r) (hks : KindsOk ks) :
    Calls Try.prog 41 #[v, kv] w fun e w' => e = .returned (.tuple #[.int .i64 (many (tabOf r ks) 0), .bool true]) ∧ Below w.heap.size w w' := by
  obtain ⟨sv, rfl, hi⟩ := hv
  obtain ⟨sa, cap, rfl⟩ := hi.slice
  obtain ⟨ka, kcap, rfl⟩ := hk.slice
  have hB0 := below1 w (.cells #[.int .i64 r.len, .slice sa r.fs.length cap] 24)
  have HB := Lib.hid hB0
  have B0 := Lib.hid (Blk.new w (.cells #[.int .i64 r.len, .slice sa r.fs.length cap] 24))
  have HV := Lib.hid (show RibAt _ (.agg #[.int .i64 r.len, .slice sa r.fs.length cap]) r from ⟨_, rfl, hi.below hB0⟩)
  have HK := Lib.hid (hk.below hB0)
  clear hi hk hB0
  have HRK := Lib.hid (And.intro hr hks)
  have hm := many_pos (tabOf_ok (r := r) (ks := ks) (by have := hr.l1; omega) hks) _ 0 rfl
  obtain ⟨D, hD⟩ : ∃ D, many (tabOf r ks) 0 = D := ⟨_, rfl⟩
  rw [hD] at hm ⊢
  have HD := Lib.hid hD
  have d1 : decide (D ≥ 1) = true := by simp; omega
  have d2 : decide (1 ≤ D) = true := by simp; omega
  clear hr hks hD
  go_enter Try.func41, Try.ntmps41
  go_wp2_with fail
  generalize w.alloc (.cells #[.int .i64 r.len, .slice sa r.fs.length cap] 24) = W0 at *
  refine (Count_ok (.agg #[.int .i64 r.len, .slice sa r.fs.length cap]) (.slice ka ks.length kcap) r ks _ HV.out HK.out HRK.out.1 HRK.out.2).mono ?_
  rintro e v1 ⟨rfl, hb⟩
  replace HV := Lib.hid (HV.out.below hb)
  replace HK := Lib.hid (HK.out.below hb)
  replace B0 := Lib.hid (B0.out.below hb)
  replace HB := Lib.hid (bC HB.out hb)
  clear hb
  rw [HD.out]
  have B0c0 := B0.out.cell 0
  have B0c1 := B0.out.cell 1
  simp at B0c0 B0c1
  go_wp2
  go_ret2
  exact ⟨rfl, HB.out⟩
end Go.Proofs.Ytnkeikhkafbokaa

namespace Go.Proofs.Ytnkeikhkafbokaa
open Go.RowKit Go.Dag Go.Sort Go.Shelf
attribute [local go_sem] Oper.semAt_some

/-! ## The law's own functions: lists of sheets by numbers; whether two lists are equal -/
section
variable {P : Program} (w : World)
theorem wp_append_at {o : Oper} {a : Act} {K : Act → World → Prop} {Q : Exit → Act → World → Prop} (s x : Operand) (t : TypeId)
    (ho : o.op = .call { callee := .builtin .append, args := #[s, x], argTypes := #[t, t] })
    (base : Nat) (e : TypeId) (i : TypeInfo) (z : Value) (size bytes : Nat) (ht : P.underlying t = some (.slice e)) (hi : P.info? e = some i) (hz : i.zero = some z)
    (hsize : i.size = size) (hby : i.bytes = bytes) (hzs : z.cells.size = size) (hsz : 0 < size)
    (v : Value) (n : Nat) (xs : List Value) (hs : a.eval s = v) (hown : w.ownsRow base e size v n xs)
    (ad : Addr) (m c : Nat) (news : List Value) (hx : a.eval x = .slice (some ad) m c) (hl : news.length = m * size) (hnews : ∀ j u, news[j]? = some u → w.cell? (ad.add j) = some u) (h1 : ∀ u ∈ news, u.oneCell' = true)
    (h63 : n + m ≤ maxLen) (hbytes : (n + m) * bytes ≤ 140737488355328) (hbase : base ≤ w.heap.size)
    (h : ∀ v' w', w'.ownsRow base e size v' (n + m) (xs ++ news) → w.grownBy w' v.ownBlock → (v'.ownBlock = v.ownBlock ∨ v'.ownBlock = some w.heap.size) → K (a.put o.dst v') w') : o.wp P a w K Q := by
  obtain ⟨v', w', hr, h2, h3, _, h5⟩ := run_append_own_at (P := P) w base t o.type e i z size bytes ht hi hz hsize hby hzs hsz v n xs hown ad m c news hl hnews h1 h63 hbytes hbase
  unfold Oper.wp execOp
  simp only [ho, resolve, invoke, builtin, Sem.run_bind, Sem.run_pure, Result.andThen_ok, List.map_toArray, List.map_cons, List.map_nil, hs, hx, hr]
  exact h v' w' h2 h3 h5
end
def pairsOf (l : List Int) (m : Nat) : List (Int × Int) := (List.range m).map fun i => (l.getD (2 * i) 0, l.getD (2 * i + 1) 0)
theorem pairsOf_succ (l : List Int) (m : Nat) : pairsOf l (m + 1) = pairsOf l m ++ [(l.getD (2 * m) 0, l.getD (2 * m + 1) 0)] := by
  unfold pairsOf
  rw [List.range_succ, List.map_append]
  rfl
theorem pairsOf_len (l : List Int) (m : Nat) : (pairsOf l m).length = m := by simp [pairsOf]
set_option maxRecDepth 100000 in
set_option maxHeartbeats 4000000 in
theorem shts_any (v : Value) (l : List Int) (m : Nat) (w : World) (hv : IntsAt w v l) (hl : l.length = 2 * m) (hm : m ≤ 50) :
    Calls Try.prog 50 #[v] w fun e w' => ∃ v', e = .returned v' ∧ PairsAt w' v' (pairsOf l m) ∧ Below w.heap.size w w' := by
  obtain ⟨sa, cap, rfl⟩ := hv.slice
  have HV := Lib.hid (fun k (hk : k < l.length) => hv.at.2 k hk)
  have HLM := Lib.hid hl
  obtain ⟨n, hn⟩ : ∃ n, l.length = n := ⟨_, rfl⟩
  have HNL := Lib.hid hn
  rw [hn] at hl ⊢
  have HN2 := Lib.hid hl
  obtain ⟨ti, hif, hz0, hz1, hz2⟩ := info_parts infoS
  have HIF := Lib.hid hif
  have HZ0 := Lib.hid hz0
  have HZ1 := Lib.hid hz1
  have HZ2 := Lib.hid hz2
  have hn100 : n ≤ 100 := by omega
  clear hv hif hz0 hz1 hz2 hn hl
  go_enter Try.func50, Try.ntmps50
  go_wp2
  go_loopw [3, 4] (fun o s wr => ∃ k : Nat, k ≤ m ∧ s = .int .i64 ((2 * k : Nat) : Int) ∧ wr.ownsRow w.heap.size 56 2 o k (pairCells (pairsOf l k)) ∧ Below w.heap.size w wr) (fun _ s _ => n + 2 - (intOf s).toNat)
  case atStart => exact ⟨0, Nat.zero_le _, rfl, ⟨rfl, .inl ⟨rfl, rfl⟩⟩, Below.refl _ _⟩
  case round =>
    obtain ⟨k, hk, rfl, how, hB⟩ := hrel
    obtain ⟨a3, n3, c3, rfl⟩ := (Row.of_owns how).slice
    have OUT := Lib.hid how
    have BL := Lib.hid hB
    clear how hB
    obtain ⟨i0, hi0⟩ : ∃ i0, 2 * k = i0 := ⟨_, rfl⟩
    rw [hi0]
    have ww : IntKind.i64.wrap ((i0 : Int) + 1) = (i0 : Int) + 1 := IntWalk.i64_in _ (by have := HN2.out; omega)
    by_cases hlt : k < m
    · have hi1 : i0 + 1 < n := by have := HN2.out; omega
      have d1 : decide ((i0 : Int) + 1 < (n : Int)) = true := by simp; omega
      obtain ⟨b, off, rfl, hx1⟩ := HV.out i0 (by have := HNL.out; omega)
      obtain ⟨b', off', he, hx2⟩ := HV.out (i0 + 1) (by have := HNL.out; omega)
      cases he
      obtain ⟨xa, hxa⟩ : ∃ x, l[i0]'(by have := HNL.out; omega) = x := ⟨_, rfl⟩
      obtain ⟨xb, hxb⟩ : ∃ x, l[i0 + 1]'(by have := HNL.out; omega) = x := ⟨_, rfl⟩
      rw [hxa] at hx1
      rw [hxb] at hx2
      have HPS := Lib.hid (show pairsOf l (k + 1) = pairsOf l k ++ [(xa, xb)] by
        rw [pairsOf_succ, hi0, List.getD_eq_getElem?_getD, List.getD_eq_getElem?_getD, List.getElem?_eq_getElem (by have := HNL.out; omega), List.getElem?_eq_getElem (by have := HNL.out; omega), ← hxa, ← hxb]
        rfl)
      have HI0 := Lib.hid hi0
      have ip0 : (0 : Int) ≤ (i0 : Int) + 1 := by omega
      have ip1 : ((i0 : Int) + 1).toNat = i0 + 1 := by omega
      have ip2 : (i0 : Int) + 1 < (n : Int) := by omega
      have ip3 : (i0 : Int) < (n : Int) := by omega
      have ww2 : IntKind.i64.wrap ((i0 : Int) + 2) = (i0 : Int) + 2 := IntWalk.i64_in _ (by omega)
      have hm1 : k + 1 ≤ 50 := by omega
      clear hxa hxb hi0
      go_wp2_with fail
      have c1 : wr.cell? ⟨b, off + i0, none⟩ = some (.int .i64 xa) := cellB hx1 BL.out
      have c2 : wr.cell? ⟨b, off + (i0 + 1), none⟩ = some (.int .i64 xb) := cellB hx2 BL.out
      refine wp_region_T 13 (fun W' => W'.cell? ⟨b, off + i0, none⟩ = some (.int .i64 xa) ∧ W'.cell? ⟨b, off + (i0 + 1), none⟩ = some (.int .i64 xb)) (by kernel_rfl) (by kernel_rfl) ⟨c1, c2⟩ ?_
      intro inv hS
      have hbD : Below wr.heap.size wr wr.drew := (Below.refl _ _).drew
      generalize wr.drew = V0 at *
      replace OUT := Lib.hid (owns_below OUT.out hbD)
      replace BL := Lib.hid (bC BL.out hbD)
      clear hbD
      clear c1
      have c1 : V0.cell? ⟨b, off + i0, none⟩ = some (.int .i64 xa) := cellB hx1 BL.out
      clear c2
      have c2 : V0.cell? ⟨b, off + (i0 + 1), none⟩ = some (.int .i64 xb) := cellB hx2 BL.out
      refine wpAnyT_take inv (by kernel_rfl) (by omega) (i := 0) (v := .slice a3 n3 c3) rfl (by kernel_rfl) (by kernel_rfl) (fun _ _ _ h => h) (Or.inl ⟨by kernel_rfl, ?_⟩) (by assumption) ?_
      · rintro W' ⟨s0, s1⟩
        go_simp
      intro inv2
      clear inv
      have inv := inv2
      clear inv2
      simp only [Act.put, List.setIfInBounds_toArray]
      refine wpAnyT_take inv (by kernel_rfl) (by omega) (i := 1) (v := .slice (some ⟨b, off, none⟩) n cap) rfl (by kernel_rfl) (by kernel_rfl) (fun _ _ _ h => h) (Or.inl ⟨by kernel_rfl, ?_⟩) (by assumption) ?_
      · rintro W' ⟨s0, s1⟩
        go_simp
      intro inv2
      clear inv
      have inv := inv2
      clear inv2
      simp only [Act.put]
      refine wpAnyT_take inv (by kernel_rfl) (by omega) (i := 2) (v := .int .i64 (i0 : Int)) rfl (by kernel_rfl) (by kernel_rfl) (fun _ _ _ h => h) (Or.inl ⟨by kernel_rfl, ?_⟩) (by assumption) ?_
      · rintro W' ⟨s0, s1⟩
        go_simp
      intro inv2
      clear inv
      have inv := inv2
      clear inv2
      simp only [Act.put]
      refine wpAnyT_take inv (by kernel_rfl) (by omega) (i := 3) (v := .pointer (some ⟨b, off + i0, none⟩)) rfl (by kernel_rfl) (by kernel_rfl) (fun _ _ _ h => h) (Or.inl ⟨by kernel_rfl, ?_⟩) (by assumption) ?_
      · rintro W' ⟨s0, s1⟩
        go_simp
      intro inv2
      clear inv
      have inv := inv2
      clear inv2
      simp only [Act.put]
      refine wpAnyT_take inv (by kernel_rfl) (by omega) (i := 4) (v := .int .i64 xa) rfl (by kernel_rfl) (by kernel_rfl) (fun _ _ _ h => h) (Or.inl ⟨by kernel_rfl, ?_⟩) (by assumption) ?_
      · rintro W' ⟨s0, s1⟩
        go_simp
      intro inv2
      clear inv
      have inv := inv2
      clear inv2
      simp only [Act.put]
      refine wpAnyT_take inv (by kernel_rfl) (by omega) (i := 5) (v := .slice (some ⟨b, off, none⟩) n cap) rfl (by kernel_rfl) (by kernel_rfl) (fun _ _ _ h => h) (Or.inl ⟨by kernel_rfl, ?_⟩) (by assumption) ?_
      · rintro W' ⟨s0, s1⟩
        go_simp
      intro inv2
      clear inv
      have inv := inv2
      clear inv2
      simp only [Act.put]
      refine wpAnyT_take inv (by kernel_rfl) (by omega) (i := 6) (v := .int .i64 (i0 : Int)) rfl (by kernel_rfl) (by kernel_rfl) (fun _ _ _ h => h) (Or.inl ⟨by kernel_rfl, ?_⟩) (by assumption) ?_
      · rintro W' ⟨s0, s1⟩
        go_simp
      intro inv2
      clear inv
      have inv := inv2
      clear inv2
      simp only [Act.put]
      refine wpAnyT_take inv (by kernel_rfl) (by omega) (i := 7) (v := .int .i64 ((i0 : Int) + 1)) rfl (by kernel_rfl) (by kernel_rfl) (fun _ _ _ h => h) (Or.inl ⟨by kernel_rfl, ?_⟩) (by assumption) ?_
      · rintro W' ⟨s0, s1⟩
        go_simp
      intro inv2
      clear inv
      have inv := inv2
      clear inv2
      simp only [Act.put]
      refine wpAnyT_take inv (by kernel_rfl) (by omega) (i := 8) (v := .pointer (some ⟨b, off + (i0 + 1), none⟩)) rfl (by kernel_rfl) (by kernel_rfl) (fun _ _ _ h => h) (Or.inl ⟨by kernel_rfl, ?_⟩) (by assumption) ?_
      · rintro W' ⟨s0, s1⟩
        go_simp
      intro inv2
      clear inv
      have inv := inv2
      clear inv2
      simp only [Act.put]
      refine wpAnyT_take inv (by kernel_rfl) (by omega) (i := 9) (v := .int .i64 xb) rfl (by kernel_rfl) (by kernel_rfl) (fun _ _ _ h => h) (Or.inl ⟨by kernel_rfl, ?_⟩) (by assumption) ?_
      · rintro W' ⟨s0, s1⟩
        go_simp
      intro inv2
      clear inv
      have inv := inv2
      clear inv2
      simp only [Act.put]
      refine wpAnyT_take inv (by kernel_rfl) (by omega) (i := 10) (v := .agg #[.int .i64 xa, .int .i64 xb]) rfl (by kernel_rfl) (by kernel_rfl) (fun _ _ _ h => h) (Or.inl ⟨by kernel_rfl, ?_⟩) (by assumption) ?_
      · rintro W' ⟨s0, s1⟩
        go_simp
      intro inv2
      clear inv
      have inv := inv2
      clear inv2
      simp only [Act.put]
      refine wpAnyT_ready [11] (by kernel_rfl) (by simp) ?_
      refine AllReadyT.cons rfl (fun K hK => ?_) AllReadyT.nil
      go_simp
      have hbA := below1 V0 (.cells #[.int .i64 xa, .int .i64 xb] 56)
      have BN11 := Lib.hid (Blk.new V0 (.cells #[.int .i64 xa, .int .i64 xb] 56))
      have AN11OUT := fun g (h : Value.ownBlock (.slice a3 n3 c3) = some g) (e : g = V0.heap.size) => show False by have := owns_block OUT.out h; omega
      generalize V0.alloc (.cells #[.int .i64 xa, .int .i64 xb] 56) = V1 at *
      replace OUT := Lib.hid (owns_below OUT.out hbA)
      replace BL := Lib.hid (bC BL.out hbA)
      clear hbA
      clear c1
      have c1 : V1.cell? ⟨b, off + i0, none⟩ = some (.int .i64 xa) := cellB hx1 BL.out
      clear c2
      have c2 : V1.cell? ⟨b, off + (i0 + 1), none⟩ = some (.int .i64 xb) := cellB hx2 BL.out
      refine hK.out _ _ (fun _ => ⟨c1, c2⟩) (fun _ => ?_)
      clear hK K
      try simp only [Act.put]
      refine wpAnyT_ready [12] (by kernel_rfl) (by simp) ?_
      refine AllReadyT.cons rfl (fun K hK => ?_) AllReadyT.nil
      refine Eq.mpr (if_pos ?_) ?_
      · rfl
      have hsz := BL.out.size
      have HNN := Lib.hid (cells_pair (by rw [BN11.out.cell]; rfl) (by rw [BN11.out.cell]; rfl) : ∀ jj uu, ([.int .i64 xa, .int .i64 xb] : List Value)[jj]? = some uu → V1.cell? (Addr.add ⟨V0.heap.size, 0, none⟩ jj) = some uu)
      refine wp_append_at _ _ _ 26 rfl w.heap.size 56 ti (.agg #[.int .i64 0, .int .i64 0]) 2 16 undS HIF.out HZ0.out HZ1.out HZ2.out rfl (by decide) _ _ _ rfl OUT.out ⟨V0.heap.size, 0, none⟩ 1 1 [.int .i64 xa, .int .i64 xb] rfl rfl HNN.out (by intro u hu; simp only [List.mem_cons, List.not_mem_nil, or_false] at hu; rcases hu with rfl | rfl <;> rfl) (by unfold maxLen; omega) (by omega) (by omega) ?_
      intro v2 V2 own gr att
      replace BL := Lib.hid (below_owns OUT.out gr BL.out hsz)
      replace OUT := Lib.hid own
      clear own gr att HNN hsz BN11
      clear c1
      have c1 : V2.cell? ⟨b, off + i0, none⟩ = some (.int .i64 xa) := cellB hx1 BL.out
      clear c2
      have c2 : V2.cell? ⟨b, off + (i0 + 1), none⟩ = some (.int .i64 xb) := cellB hx2 BL.out
      refine hK.out _ _ (fun _ => ⟨c1, c2⟩) (fun _ => ?_)
      clear hK K
      try simp only [Act.put]
      refine wpAnyT_chain (fuel := 1) rfl (by kernel_rfl) ?_
      simp only [List.drop_succ_cons, List.drop_zero]
      clear hS inv c1 c2
      go_wp2
      rename_i wr8
      go_roundw
      case rel => exact ⟨k + 1, by omega, by have := HI0.out; congr 1; omega, by rw [HPS.out, pairs_snoc]; exact OUT.out, BL.out⟩
      case measure => simp [intOf]; omega
    · obtain rfl : k = m := by omega
      have hn2 : n = i0 := by have := HN2.out; omega
      subst hn2
      have d1 : decide ((n : Int) + 1 < (n : Int)) = false := by simp; omega
      have HP := Lib.hid (Row.pairs (l := pairsOf l k) (by rw [pairsOf_len]; exact Row.of_owns OUT.out))
      go_wp2
      go_ret
      exact ⟨_, rfl, HP.out, BL.out⟩
set_option maxRecDepth 100000 in
set_option maxHeartbeats 4000000 in
theorem Sheets_any (va vb : Value) (ga gb : List (Int × Int)) (w : World) (ha : PairsAt w va ga) (hb : PairsAt w vb gb) (hl : ga.length ≤ 1000) :
    Calls Try.prog 30 #[va, vb] w fun e w' => e = .returned (.bool (decide (ga = gb))) ∧ Below w.heap.size w w' := by
  obtain ⟨aa, ac, rfl⟩ := ha.slice
  obtain ⟨ba, bc, rfl⟩ := hb.slice
  have HA := Lib.hid (fun k (hk : k < ga.length) => ha.at.2 k hk)
  have HBB := Lib.hid (fun k (hk : k < gb.length) => hb.at.2 k hk)
  clear ha hb
  by_cases hne : ga.length = gb.length
  case neg =>
    have d1 : ((ga.length : Int) != (gb.length : Int)) = true := by simp; omega
    have d2 : (ga.length != gb.length) = true := by simpa using hne
    have HT := Lib.hid (show false = decide (ga = gb) by rw [decide_eq_false fun e => hne (by rw [e])])
    clear hne
    go_enter Try.func30, Try.ntmps30
    go_wp2
    go_ret
    exact ⟨ret_bool HT.out, Below.refl _ _⟩
  have HEQ := Lib.hid hne
  obtain ⟨n, hn⟩ : ∃ n, ga.length = n := ⟨_, rfl⟩
  have HN := Lib.hid hn
  rw [← hne, hn]
  rw [hn] at hl
  clear hn hne
  go_enter Try.func30, Try.ntmps30
  go_wp2
  go_loopw [5] (fun s wr => ∃ k : Nat, k ≤ n ∧ s = .int .i64 k ∧ ga.take k = gb.take k ∧ Below w.heap.size w wr) (fun s _ => n - (intOf s).toNat)
  case atStart => exact ⟨0, Nat.zero_le _, rfl, rfl, Below.refl _ _⟩
  case round =>
    obtain ⟨k, hk, rfl, htk, hB⟩ := hrel
    have HTK := Lib.hid htk
    have HB := Lib.hid hB
    clear htk hB
    by_cases hlt : k < n
    · obtain ⟨b1, o1, rfl, x1, x2⟩ := HA.out k (by have := HN.out; omega)
      obtain ⟨b2, o2, rfl, y1, y2⟩ := HBB.out k (by have := HN.out; have := HEQ.out; omega)
      replace x1 := cellB x1 HB.out
      replace x2 := cellB x2 HB.out
      replace y1 := cellB y1 HB.out
      replace y2 := cellB y2 HB.out
      obtain ⟨p1, hp1⟩ : ∃ p, ga[k]'(by have := HN.out; omega) = p := ⟨_, rfl⟩
      obtain ⟨p2, hp2⟩ : ∃ p, gb[k]'(by have := HN.out; have := HEQ.out; omega) = p := ⟨_, rfl⟩
      rw [hp1] at x1 x2
      rw [hp2] at y1 y2
      have HPP := Lib.hid (And.intro hp1 hp2)
      have ip : (k : Int) < (n : Int) := by omega
      have g1 := fun d os => cell_regrown x1 d os
      have g2 := fun d os => cell_regrown x2 d os
      have g3 := fun d os => cell_regrown y1 d os
      have g4 := fun d os => cell_regrown y2 d os
      clear hp1 hp2 x1 x2 y1 y2
      have heq : ∀ w, (Op.equalIn 10000 56 (.agg #[.int .i64 p1.1, .int .i64 p1.2]) (.agg #[.int .i64 p2.1, .int .i64 p2.2])).run Try.prog w = .ok (decide (p1 = p2)) w := fun w => pk_eq p1 p2 w
      by_cases q : p1 = p2
      · rw [decide_eq_true q] at heq
        have HTN := Lib.hid (show ga.take (k + 1) = gb.take (k + 1) by
          rw [List.take_succ_eq_append_getElem (by have := HN.out; omega), List.take_succ_eq_append_getElem (by have := HN.out; have := HEQ.out; omega), HTK.out, HPP.out.1, HPP.out.2, q])
        clear q
        go_wp2_with fail
        refine wp_region_quiet_below (by kernel_rfl) (by kernel_rfl) ?_
        repeat (quiet_step (fail))
        refine wpQuiet_nil ?_
        intro _ hw'
        obtain ⟨⟨dq, osq⟩, hw''⟩ := hw'
        subst hw''
        have HB2 := Lib.hid (bC HB.out (below_regrown wr dq osq))
        clear g1 g2 g3 g4 heq
        generalize grow (redrawn wr dq) osq = w3 at *
        go_wp2
        rename_i wr8
        go_roundw
        case rel => exact ⟨k + 1, by omega, by go_num, HTN.out, HB2.out⟩
        case measure => simp [intOf]; omega
      · rw [decide_eq_false q] at heq
        have HT := Lib.hid (show false = decide (ga = gb) by
          rw [decide_eq_false]
          intro e
          subst e
          exact q (HPP.out.1.symm.trans HPP.out.2))
        clear q
        go_wp2_with fail
        refine wp_region_quiet_below (by kernel_rfl) (by kernel_rfl) ?_
        repeat (quiet_step (fail))
        refine wpQuiet_nil ?_
        intro _ hw'
        obtain ⟨⟨dq, osq⟩, hw''⟩ := hw'
        subst hw''
        have HB2 := Lib.hid (bC HB.out (below_regrown wr dq osq))
        clear g1 g2 g3 g4 heq
        generalize grow (redrawn wr dq) osq = w3 at *
        go_wp2
        go_ret
        exact ⟨ret_bool HT.out, HB2.out⟩
    · obtain rfl : k = n := by omega
      have HT := Lib.hid (show true = decide (ga = gb) by
        have h := HTK.out
        rw [List.take_of_length_le (by have := HN.out; omega), List.take_of_length_le (by have := HN.out; have := HEQ.out; omega)] at h
        rw [decide_eq_true h])
      go_wp2
      go_ret
      exact ⟨ret_bool HT.out, HB.out⟩
end Go.Proofs.Ytnkeikhkafbokaa
