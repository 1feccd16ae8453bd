import Derived.Test.YtnkeikhkafbokaaQi
namespace Go.Proofs.Ytnkeikhkafbokaa
open Go.RowKit Go.Dag Go.Sort

/-! ## The reference: when a place is parted, what a fault costs -/
def partedErr (r : RibD) (p : Int) : Int := if p < 0 ∨ r.len < p then 2 else 0
def partedV (r : RibD) (ks : List KindD) (p : Int) : Int := if p < 0 ∨ r.len < p then 0 else partV (tabOf r ks) p.toNat
def costErr (r : RibD) (i : Int) : Int := if i < 0 ∨ (r.fs.length : Int) ≤ i then 2 else 0
def costV (r : RibD) (ks : List KindD) (i : Int) : Int := if i < 0 ∨ (r.fs.length : Int) ≤ i then 0 else dn (tabOf (without r i.toNat) ks) 0 - dn (tabOf r ks) 0
theorem ret_pair {a b a' b' : Int} (h : a = a') (h' : b = b') : Ending.returned (.tuple #[.int .i64 a, .int .i64 b]) = .returned (.tuple #[.int .i64 a', .int .i64 b']) := by rw [h, h']
theorem faults_in {r : RibD} (hr : RibOk r) : ∀ f ∈ r.fs, 0 ≤ f ∧ f ≤ 100 := fun f hf => by
  have := fsOk_bound hr.fs f hf
  have := hr.l2
  omega
theorem many64 {t : Tab} (h : t.Ok) (hK : t.K ≤ 6) (hL : t.L ≤ 24) : many t 0 ≤ 9223372036854775807 := by
  have m2 := many_le h hK _ 0 rfl
  have m3 := six_mono (show t.L - 0 ≤ 24 by omega)
  have h4 : (6 : Int) ^ 24 ≤ 9223372036854775807 := by omega
  omega

set_option maxRecDepth 100000 in
set_option maxHeartbeats 4000000 in
theorem PartedOf_any (v kv : Value) (r : RibD) (ks : List KindD) (p : Nat) (w : World) (hv : RibAt w v r) (hk : KindsAt w kv ks) (hr : RibOk r) (hks : KindsOk ks) (hp : (p : Int) ≤ r.len) :
    Calls Try.prog 73 #[v, kv, .int .i64 p] w fun e w' => e = .returned (.int .i64 (partV (tabOf r ks) p)) ∧ Below w.heap.size w w' := by
  obtain ⟨sv, rfl, hi⟩ := hv
  obtain ⟨sa, cap, rfl⟩ := hi.slice
  obtain ⟨ka, kcap, rfl⟩ := hk.slice
  have hB0 := below1 w (.cells #[.int .i64 r.len, .slice sa r.fs.length cap] 24)
  have b0 := Blk.new w (.cells #[.int .i64 r.len, .slice sa r.fs.length cap] 24)
  have HI := Lib.hid (hi.below hB0)
  have HK := Lib.hid (hk.below hB0)
  have hl1 := hr.l1
  have hl2 := hr.l2
  have hok := tabOf_ok (r := r) (ks := ks) (by omega) hks
  have hTL : ((tabOf r ks).L : Int) = r.len := by simp only [tabOf]; omega
  by_cases q1 : p = 0
  · have d1 : ((p : Int) == 0) = true := by simp; omega
    have HV := Lib.hid (partV_ends hok (m := p) (.inl q1))
    clear q1 hTL
    clear hi hk
    go_enter Try.func73, Try.ntmps73
    go_wp2
    generalize w.alloc (.cells #[.int .i64 r.len, .slice sa r.fs.length cap] 24) = W0 at *
    go_ret
    exact ⟨ret_int HV.out.symm, hB0⟩
  have d1 : ((p : Int) == 0) = false := by simp; omega
  by_cases q2 : (p : Int) = r.len
  · have d2 : ((p : Int) == r.len) = true := by simpa using q2
    have HV := Lib.hid (partV_ends hok (m := p) (.inr (by omega)))
    clear q1 q2 hTL
    clear hi hk
    go_enter Try.func73, Try.ntmps73
    go_wp2
    generalize w.alloc (.cells #[.int .i64 r.len, .slice sa r.fs.length cap] 24) = W0 at *
    go_ret
    exact ⟨ret_int HV.out.symm, hB0⟩
  have d2 : ((p : Int) == r.len) = false := by simpa using q2
  have HRK := Lib.hid (And.intro hr hks)
  have HOK := Lib.hid hok
  have hm : p ≤ (tabOf r ks).L := by omega
  have HPS := Lib.hid (parted_spec hok hm)
  have HPV := Lib.hid (partV_ref hok hm)
  have HP1 := Lib.hid (piece_ok hr (a := 0) (b := (p : Int)) (Int.le_refl _) (by omega) hp)
  obtain ⟨L, hL⟩ : ∃ L : Nat, r.len = (L : Int) := ⟨r.len.toNat, by omega⟩
  have hP2 := (piece_ok hr (a := (p : Int)) (b := r.len) (by omega) (by omega) (Int.le_refl _))
  have HT1 := Lib.hid (tab_pre (r := r) hks (m := p) hp)
  have hT2 := tab_suf (r := r) hks (m := p) hp
  rw [hL] at hP2 hT2
  have HP2 := Lib.hid hP2
  have HT2 := Lib.hid hT2
  have HFS := Lib.hid (faults_in hr)
  have HB1x := Lib.hid (dn_nonneg hok _ 0 rfl)
  have hw0 := tabOf_dn (r := r) (by omega) hl2 hks 0
  have hw1 := tabOf_dn (by have := HP1.out.l1; omega) HP1.out.l2 hks 0
  have hw2 := tabOf_dn (by have := HP2.out.l1; omega) HP2.out.l2 hks 0
  rw [HT1.out] at hw1
  rw [HT2.out] at hw2
  have hcnt := hr.count
  have hm0 := many64 hok (by have := hks.1; simp only [tabOf]; omega) (by omega)
  have hm1 := many_pos (pre_ok hok p) _ 0 rfl
  have hm2 := many_pos (suf_ok hok p) _ 0 rfl
  have HM0 := Lib.hid hm0
  have HM12 := Lib.hid (And.intro hm1 hm2)
  have HLL := Lib.hid hL
  have hpL : p ≤ L := by omega
  have hL24 : L ≤ 24 := by omega
  clear q1 q2 hr hks hok hm hTL hm0 hm1 hm2 hL hP2 hT2
  clear hi hk
  go_enter Try.func73, Try.ntmps73
  go_wp2_with fail
  generalize w.alloc (.cells #[.int .i64 r.len, .slice sa r.fs.length cap] 24) = W0 at *
  refine (Behind_any _ _ r ks _ ⟨_, rfl, HI.out⟩ HK.out HRK.out.1 HRK.out.2).mono ?_
  rintro e w1 ⟨g1, g2, rfl, A1, A2, hb1⟩
  have b1 := b0.below hb1
  have c0 := b1.cell 0
  have c1 := b1.cell 1
  simp at c0 c1
  have HB01 := Lib.hid hb1
  have hfs := HFS.out
  go_wp2_with fail
  refine (Piece_any _ r 0 p _ ⟨_, rfl, HI.out.below HB01.out⟩ (by omega) (Nat.zero_le _) (by omega) hfs).mono ?_
  rintro e w2 ⟨v2, rfl, hr2, hb2⟩
  obtain ⟨sv2, rfl, hi2⟩ := hr2
  obtain ⟨sa2, cap2, rfl⟩ := hi2.slice
  have HB02 := Lib.hid (bC HB01.out hb2)
  go_wp2_with fail
  refine (Behind_any _ _ (piece r 0 p) ks _ ⟨_, rfl, hi2⟩ (HK.out.below HB02.out) HP1.out HRK.out.2).mono ?_
  rintro e w3 ⟨g3, g4, rfl, A3, A4, hb3⟩
  rw [HT1.out] at A3 A4
  rw [HT1.out]
  have HB03 := Lib.hid (bC HB02.out hb3)
  have b3 := b0.below HB03.out
  have c0 := b3.cell 0
  have c1 := b3.cell 1
  simp at c0 c1
  rw [HLL.out] at c0
  have A1 := (A1.below hb2).below hb3
  have A2 := (A2.below hb2).below hb3
  clear hb1 hb2 hb3 b1 hi2
  go_wp2_with fail
  rw [show Value.agg #[Value.int IntKind.i64 (L : Int), Value.slice sa r.fs.length cap] = Value.agg #[Value.int IntKind.i64 r.len, Value.slice sa r.fs.length cap] by rw [HLL.out]]
  refine (Piece_any _ r p L _ ⟨_, rfl, HI.out.below HB03.out⟩ (by omega) hpL (by omega) hfs).mono ?_
  rintro e w4 ⟨v4, rfl, hr4, hb4⟩
  obtain ⟨sv4, rfl, hi4⟩ := hr4
  obtain ⟨sa4, cap4, rfl⟩ := hi4.slice
  have HB04 := Lib.hid (bC HB03.out hb4)
  go_wp2_with fail
  refine (Behind_any _ _ (piece r p L) ks _ ⟨_, rfl, hi4⟩ (HK.out.below HB04.out) HP2.out HRK.out.2).mono ?_
  rintro e w5 ⟨g5, g6, rfl, A5, A6, hb5⟩
  rw [HT2.out] at A5 A6
  rw [HT2.out]
  have HB05 := Lib.hid (bC HB04.out hb5)
  have A1 := (A1.below hb4).below hb5
  have A2 := (A2.below hb4).below hb5
  have A3 := (A3.below hb4).below hb5
  have A4 := (A4.below hb4).below hb5
  have x1 := A1.cell (i := 0) (by omega)
  have x2 := A2.cell (i := 0) (by omega)
  have x3 := A3.cell (i := 0) (by omega)
  have x4 := A4.cell (i := 0) (by omega)
  have x5 := A5.cell (i := 0) (by omega)
  have x6 := A6.cell (i := 0) (by omega)
  clear hb4 hb5 hi4 A1 A2 A3 A4 A5 A6 c0 c1 b3
  have HPS2 := HPS.out
  obtain ⟨d0, hd0⟩ : ∃ d0, dn (tabOf r ks) 0 = d0 := ⟨_, rfl⟩
  obtain ⟨d1', hd1⟩ : ∃ d1, dn (pre (tabOf r ks) p) 0 = d1 := ⟨_, rfl⟩
  obtain ⟨d2', hd2⟩ : ∃ d2, dn (suf (tabOf r ks) p) 0 = d2 := ⟨_, rfl⟩
  obtain ⟨m0, hm0⟩ : ∃ m0, many (tabOf r ks) 0 = m0 := ⟨_, rfl⟩
  obtain ⟨m1, hm1⟩ : ∃ m1, many (pre (tabOf r ks) p) 0 = m1 := ⟨_, rfl⟩
  obtain ⟨m2, hm2⟩ : ∃ m2, many (suf (tabOf r ks) p) 0 = m2 := ⟨_, rfl⟩
  have hpv := HPV.out
  have hm12 := HM12.out
  have hmm := HM0.out
  rw [hd0, hd1, hd2, hm0, hm1, hm2] at hpv
  rw [hd0, hd1, hd2, hm0, hm1, hm2] at HPS2
  rw [hm1, hm2] at hm12
  rw [hm0] at hmm
  rw [hd0] at x1 hw0
  rw [hm0] at x2
  rw [hd1] at x3 hw1
  rw [hm1] at x4
  rw [hd2] at x5 hw2
  rw [hm2] at x6
  clear hd0 hd1 hd2 hm0 hm1 hm2
  have ww1 : IntKind.i64.wrap (d1' + d2') = d1' + d2' := IntWalk.i64_in _ (by omega)
  have HPVh := Lib.hid hpv
  have HPSh := Lib.hid HPS2
  have HM12h := Lib.hid hm12
  have HMMh := Lib.hid hmm
  clear hpv HPS2 hm12 hmm hfs
  by_cases q3 : d1' + d2' < d0
  · have e1 : decide (d1' + d2' < d0) = true := by simpa using q3
    have HT := Lib.hid (show partV (tabOf r ks) p = 0 by rw [HPVh.out, if_pos q3])
    clear q3
    go_wp2_with fail
    go_quiet (fail)
    go_wp2
    go_ret
    exact ⟨ret_int HT.out.symm, bC hB0 (below_drewN HB05.out _)⟩
  · have e1 : decide (d1' + d2' < d0) = false := by simpa using q3
    have hon : On (tabOf r ks) p := by
      by_cases h : On (tabOf r ks) p
      · exact h
      · exact absurd (HPSh.out.1.2 h) q3
    have hle := (HPSh.out.2.2 hon).2
    have hge : 0 ≤ m1 * m2 := Int.mul_nonneg (by have := HM12h.out; omega) (by have := HM12h.out; omega)
    have hmw : IntKind.i64.wrap (m1 * m2) = m1 * m2 := IntWalk.i64_in _ (by have := HMMh.out; omega)
    have HQ3 := Lib.hid q3
    clear q3 hle hge hon
    by_cases q4 : m1 * m2 < m0
    · have e2 : decide (m1 * m2 < m0) = true := by simpa using q4
      have HT := Lib.hid (show partV (tabOf r ks) p = 1 by rw [HPVh.out, if_neg HQ3.out, if_pos q4])
      clear q4
      go_wp2_with fail
      go_quiet (fail)
      go_wp2_with fail
      go_quiet (fail)
      go_wp2
      go_ret
      exact ⟨ret_int HT.out.symm, bC hB0 (below_drewN (below_drewN HB05.out _) _)⟩
    · have e2 : decide (m1 * m2 < m0) = false := by simpa using q4
      have HT := Lib.hid (show partV (tabOf r ks) p = 2 by rw [HPVh.out, if_neg HQ3.out, if_neg q4])
      clear q4
      go_wp2_with fail
      go_quiet (fail)
      go_wp2_with fail
      go_quiet (fail)
      go_wp2
      go_ret
      exact ⟨ret_int HT.out.symm, bC hB0 (below_drewN (below_drewN HB05.out _) _)⟩

set_option maxRecDepth 100000 in
set_option maxHeartbeats 4000000 in
theorem rParted_err (v kv : Value) (r : RibD) (ks : List KindD) (p : Int) (w : World) (hv : RibAt w v r) (hk : KindsAt w kv ks) (he : bothErr r ks ≠ 0) (hl : r.fs.length ≤ 1000) (hl2 : ks.length ≤ 1000) :
    Calls Try.prog 35 #[v, kv, .int .i64 p] w fun e w' => e = .returned (.tuple #[.int .i64 0, .int .i64 (bothErr r ks)]) ∧ Below w.heap.size w w' := by
  obtain ⟨sv, rfl, hi⟩ := hv
  obtain ⟨sa, cap, rfl⟩ := hi.slice
  obtain ⟨ka, kcap, rfl⟩ := hk.slice
  have hB0 := below1 w (.cells #[.int .i64 r.len, .slice sa r.fs.length cap] 24)
  have b0 := Blk.new w (.cells #[.int .i64 r.len, .slice sa r.fs.length cap] 24)
  have HI := Lib.hid (hi.below hB0)
  have HK := Lib.hid (hk.below hB0)
  clear hi hk
  go_enter Try.func35, Try.ntmps35
  go_wp2_with fail
  generalize w.alloc (.cells #[.int .i64 r.len, .slice sa r.fs.length cap] 24) = W0 at *
  have HE : (bothErr r ks != 0) = true := by simp [he]
  clear he
  refine (rboth_any _ _ r ks _ ⟨_, rfl, HI.out⟩ HK.out hl hl2).mono ?_
  rintro e w1 ⟨rfl, hb1⟩
  have b1 := b0.below hb1
  have c0 := b1.cell 0
  have c1 := b1.cell 1
  simp at c0 c1
  have hB1 := bC hB0 hb1
  have HI1 := Lib.hid (HI.out.below hb1)
  have HK1 := Lib.hid (HK.out.below hb1)
  go_wp2_with fail
  refine (rboth_any _ _ r ks _ ⟨_, rfl, HI1.out⟩ HK1.out hl hl2).mono ?_
  rintro e w2 ⟨rfl, hb2⟩
  go_wp2
  go_ret2
  exact ⟨rfl, bC hB1 hb2⟩

set_option maxRecDepth 100000 in
set_option maxHeartbeats 4000000 in
theorem rParted_ok (v kv : Value) (r : RibD) (ks : List KindD) (p : Int) (w : World) (hv : RibAt w v r) (hk : KindsAt w kv ks) (hr : RibOk r) (hks : KindsOk ks) :
    Calls Try.prog 35 #[v, kv, .int .i64 p] w fun e w' => e = .returned (.tuple #[.int .i64 (partedV r ks p), .int .i64 (partedErr r p)]) ∧ Below w.heap.size w w' := by
  obtain ⟨sv, rfl, hi⟩ := hv
  obtain ⟨sa, cap, rfl⟩ := hi.slice
  obtain ⟨ka, kcap, rfl⟩ := hk.slice
  have hB0 := below1 w (.cells #[.int .i64 r.len, .slice sa r.fs.length cap] 24)
  have b0 := Blk.new w (.cells #[.int .i64 r.len, .slice sa r.fs.length cap] 24)
  have HI := Lib.hid (hi.below hB0)
  have HK := Lib.hid (hk.below hB0)
  clear hi hk
  go_enter Try.func35, Try.ntmps35
  go_wp2_with fail
  generalize w.alloc (.cells #[.int .i64 r.len, .slice sa r.fs.length cap] 24) = W0 at *
  have HRK := Lib.hid (And.intro hr hks)
  have hc24 := hr.count
  have hk6 := hks.1
  clear hr hks
  refine (rboth_ok _ _ r ks _ ⟨_, rfl, HI.out⟩ HK.out HRK.out.1 HRK.out.2).mono ?_
  rintro e w1 ⟨rfl, hb1⟩
  have b1 := b0.below hb1
  have c0 := b1.cell 0
  have c1 := b1.cell 1
  simp at c0 c1
  have hB1 := bC hB0 hb1
  have HI1 := Lib.hid (HI.out.below hb1)
  have HK1 := Lib.hid (HK.out.below hb1)
  clear hb1
  by_cases q1 : p < 0
  · have d1 : decide (p < 0) = true := by simpa using q1
    have HT := Lib.hid (And.intro (show partedErr r p = 2 by unfold partedErr; rw [if_pos (.inl q1)]) (show partedV r ks p = 0 by unfold partedV; rw [if_pos (.inl q1)]))
    clear q1
    go_wp2
    go_ret2
    exact ⟨ret_pair HT.out.2.symm HT.out.1.symm, hB1⟩
  have d1 : decide (p < 0) = false := by simpa using q1
  by_cases q2 : r.len < p
  · have d2 : decide (r.len < p) = true := by simpa using q2
    have HT := Lib.hid (And.intro (show partedErr r p = 2 by unfold partedErr; rw [if_pos (.inr q2)]) (show partedV r ks p = 0 by unfold partedV; rw [if_pos (.inr q2)]))
    clear q1 q2
    go_wp2
    go_ret2
    exact ⟨ret_pair HT.out.2.symm HT.out.1.symm, hB1⟩
  have d2 : decide (r.len < p) = false := by simpa using q2
  obtain ⟨pn, rfl⟩ : ∃ pn : Nat, p = (pn : Int) := ⟨p.toNat, by omega⟩
  have HT := Lib.hid (And.intro (show partedErr r (pn : Int) = 0 by unfold partedErr; rw [if_neg (by omega)]) (show partedV r ks (pn : Int) = partV (tabOf r ks) pn by unfold partedV; rw [if_neg (by omega), Int.toNat_natCast]))
  have HPL := Lib.hid (show (pn : Int) ≤ r.len by omega)
  clear q1 q2
  go_wp2_with fail
  refine (PartedOf_any _ _ r ks pn _ ⟨_, rfl, HI1.out⟩ HK1.out HRK.out.1 HRK.out.2 HPL.out).mono ?_
  rintro e w2 ⟨rfl, hb2⟩
  go_wp2
  go_ret2
  exact ⟨ret_pair HT.out.2.symm HT.out.1.symm, bC hB1 hb2⟩

set_option maxRecDepth 100000 in
set_option maxHeartbeats 4000000 in
theorem rCost_err (v kv : Value) (r : RibD) (ks : List KindD) (i : Int) (w : World) (hv : RibAt w v r) (hk : KindsAt w kv ks) (he : bothErr r ks ≠ 0) (hl : r.fs.length ≤ 1000) (hl2 : ks.length ≤ 1000) :
    Calls Try.prog 37 #[v, kv, .int .i64 i] w fun e w' => e = .returned (.tuple #[.int .i64 0, .int .i64 (bothErr r ks)]) ∧ Below w.heap.size w w' := by
  obtain ⟨sv, rfl, hi⟩ := hv
  obtain ⟨sa, cap, rfl⟩ := hi.slice
  obtain ⟨ka, kcap, rfl⟩ := hk.slice
  have hB0 := below1 w (.cells #[.int .i64 r.len, .slice sa r.fs.length cap] 24)
  have b0 := Blk.new w (.cells #[.int .i64 r.len, .slice sa r.fs.length cap] 24)
  have HI := Lib.hid (hi.below hB0)
  have HK := Lib.hid (hk.below hB0)
  clear hi hk
  go_enter Try.func37, Try.ntmps37
  go_wp2_with fail
  generalize w.alloc (.cells #[.int .i64 r.len, .slice sa r.fs.length cap] 24) = W0 at *
  have HE : (bothErr r ks != 0) = true := by simp [he]
  clear he
  refine (rboth_any _ _ r ks _ ⟨_, rfl, HI.out⟩ HK.out hl hl2).mono ?_
  rintro e w1 ⟨rfl, hb1⟩
  have b1 := b0.below hb1
  have c0 := b1.cell 0
  have c1 := b1.cell 1
  simp at c0 c1
  have hB1 := bC hB0 hb1
  have HI1 := Lib.hid (HI.out.below hb1)
  have HK1 := Lib.hid (HK.out.below hb1)
  go_wp2_with fail
  refine (rboth_any _ _ r ks _ ⟨_, rfl, HI1.out⟩ HK1.out hl hl2).mono ?_
  rintro e w2 ⟨rfl, hb2⟩
  go_wp2
  go_ret2
  exact ⟨rfl, bC hB1 hb2⟩

set_option maxRecDepth 100000 in
set_option maxHeartbeats 4000000 in
theorem rCost_ok (v kv : Value) (r : RibD) (ks : List KindD) (i : Int) (w : World) (hv : RibAt w v r) (hk : KindsAt w kv ks) (hr : RibOk r) (hks : KindsOk ks) :
    Calls Try.prog 37 #[v, kv, .int .i64 i] w fun e w' => e = .returned (.tuple #[.int .i64 (costV r ks i), .int .i64 (costErr r i)]) ∧ Below w.heap.size w w' := by
  obtain ⟨sv, rfl, hi⟩ := hv
  obtain ⟨sa, cap, rfl⟩ := hi.slice
  obtain ⟨ka, kcap, rfl⟩ := hk.slice
  have hB0 := below1 w (.cells #[.int .i64 r.len, .slice sa r.fs.length cap] 24)
  have b0 := Blk.new w (.cells #[.int .i64 r.len, .slice sa r.fs.length cap] 24)
  have HI := Lib.hid (hi.below hB0)
  have HK := Lib.hid (hk.below hB0)
  have hdn := tabOf_dn (r := r) (by have := hr.l1; omega) hr.l2 hks 0
  have hdw := tabOf_dn (r := without r i.toNat) (by have := hr.l1; simp only [without]; omega) (without_ok hr _).l2 hks 0
  clear hi hk
  go_enter Try.func37, Try.ntmps37
  go_wp2_with fail
  generalize w.alloc (.cells #[.int .i64 r.len, .slice sa r.fs.length cap] 24) = W0 at *
  have HRK := Lib.hid (And.intro hr hks)
  have hc24 := hr.count
  have hk6 := hks.1
  clear hr hks
  refine (rboth_ok _ _ r ks _ ⟨_, rfl, HI.out⟩ HK.out HRK.out.1 HRK.out.2).mono ?_
  rintro e w1 ⟨rfl, hb1⟩
  have b1 := b0.below hb1
  have c0 := b1.cell 0
  have c1 := b1.cell 1
  simp at c0 c1
  have hB1 := bC hB0 hb1
  have HI1 := Lib.hid (HI.out.below hb1)
  have HK1 := Lib.hid (HK.out.below hb1)
  clear hb1
  by_cases q1 : i < 0
  · have d1 : decide (i < 0) = true := by simpa using q1
    have HT := Lib.hid (And.intro (show costErr r i = 2 by unfold costErr; rw [if_pos (.inl q1)]) (show costV r ks i = 0 by unfold costV; rw [if_pos (.inl q1)]))
    clear q1
    go_wp2
    go_ret2
    exact ⟨ret_pair HT.out.2.symm HT.out.1.symm, hB1⟩
  have d1 : decide (i < 0) = false := by simpa using q1
  by_cases q2 : (r.fs.length : Int) ≤ i
  · have d2 : decide ((r.fs.length : Int) ≤ i) = true := by simpa using q2
    have HT := Lib.hid (And.intro (show costErr r i = 2 by unfold costErr; rw [if_pos (.inr q2)]) (show costV r ks i = 0 by unfold costV; rw [if_pos (.inr q2)]))
    clear q1 q2
    go_wp2
    go_ret2
    exact ⟨ret_pair HT.out.2.symm HT.out.1.symm, hB1⟩
  have d2 : decide ((r.fs.length : Int) ≤ i) = false := by simpa using q2
  obtain ⟨n, rfl⟩ : ∃ n : Nat, i = (n : Int) := ⟨i.toNat, by omega⟩
  rw [Int.toNat_natCast] at hdw
  have HT := Lib.hid (And.intro (show costErr r (n : Int) = 0 by unfold costErr; rw [if_neg (by omega)]) (show costV r ks (n : Int) = dn (tabOf (without r n) ks) 0 - dn (tabOf r ks) 0 by unfold costV; rw [if_neg (by omega), Int.toNat_natCast]))
  have HWO := Lib.hid (without_ok HRK.out.1 n)
  obtain ⟨x0, hx0⟩ : ∃ x0, dn (tabOf r ks) 0 = x0 := ⟨_, rfl⟩
  obtain ⟨x1, hx1⟩ : ∃ x1, dn (tabOf (without r n) ks) 0 = x1 := ⟨_, rfl⟩
  rw [hx0] at hdn
  rw [hx1] at hdw
  have HX := Lib.hid (And.intro hx0 hx1)
  have wwx : IntKind.i64.wrap (x1 - x0) = x1 - x0 := IntWalk.i64_in _ (by omega)
  have d2' : decide (r.fs.length ≤ n) = false := by simp; omega
  have d2'' : n < r.fs.length := by omega
  clear q1 q2 hx0 hx1
  go_wp2_with fail
  have c0' : w1.drew.cell? ⟨w.heap.size, 0, none⟩ = some (.int .i64 r.len) := c0
  have c1' : w1.drew.cell? ⟨w.heap.size, 1, none⟩ = some (.slice sa r.fs.length cap) := c1
  have HId := Lib.hid (show IntsAt w1.drew (.slice sa r.fs.length cap) r.fs from HI1.out)
  have HKd := Lib.hid (show KindsAt w1.drew (.slice ka ks.length kcap) ks from HK1.out)
  have HBd := Lib.hid (show Below w.heap.size w w1.drew from hB1.drew)
  clear c0 c1 hB1 b1
  refine wp_region_T 8 (fun W' => W'.cell? ⟨w.heap.size, 0, none⟩ = some (.int .i64 r.len) ∧ W'.cell? ⟨w.heap.size, 1, none⟩ = some (.slice sa r.fs.length cap)) (by kernel_rfl) (by kernel_rfl) ⟨c0', c1'⟩ ?_
  intro inv hS
  generalize w1.drew = V0 at *
  refine wpAnyT_take inv (by kernel_rfl) (by omega) (i := 0) (v := .agg #[.int .i64 r.len, .slice sa r.fs.length cap]) rfl (by kernel_rfl) (by kernel_rfl) (fun _ _ _ h => h) (Or.inl ⟨by kernel_rfl, ?_⟩) (by assumption) ?_
  · rintro W' ⟨q0, q1⟩
    go_simp
  intro inv2
  clear inv
  have inv := inv2
  clear inv2
  simp only [Act.put, List.setIfInBounds_toArray]
  refine wpAnyT_take inv (by kernel_rfl) (by omega) (i := 1) (v := .int .i64 (n : Int)) rfl (by kernel_rfl) (by kernel_rfl) (fun _ _ _ h => h) (Or.inl ⟨by kernel_rfl, ?_⟩) (by assumption) ?_
  · rintro W' ⟨q0, q1⟩
    go_simp
  intro inv2
  clear inv
  have inv := inv2
  clear inv2
  simp only [Act.put]
  refine wpAnyT_take inv (by kernel_rfl) (by omega) (i := 3) (v := .slice ka ks.length kcap) rfl (by kernel_rfl) (by kernel_rfl) (fun _ _ _ h => h) (Or.inl ⟨by kernel_rfl, ?_⟩) (by assumption) ?_
  · rintro W' ⟨q0, q1⟩
    go_simp
  intro inv2
  clear inv
  have inv := inv2
  clear inv2
  simp only [Act.put]
  refine wpAnyT_take inv (by kernel_rfl) (by omega) (i := 5) (v := .agg #[.int .i64 r.len, .slice sa r.fs.length cap]) rfl (by kernel_rfl) (by kernel_rfl) (fun _ _ _ h => h) (Or.inl ⟨by kernel_rfl, ?_⟩) (by assumption) ?_
  · rintro W' ⟨q0, q1⟩
    go_simp
  intro inv2
  clear inv
  have inv := inv2
  clear inv2
  simp only [Act.put]
  refine wpAnyT_take inv (by kernel_rfl) (by omega) (i := 6) (v := .slice ka ks.length kcap) rfl (by kernel_rfl) (by kernel_rfl) (fun _ _ _ h => h) (Or.inl ⟨by kernel_rfl, ?_⟩) (by assumption) ?_
  · rintro W' ⟨q0, q1⟩
    go_simp
  intro inv2
  clear inv
  have inv := inv2
  clear inv2
  simp only [Act.put]
  refine wpAnyT_ready [2] (by kernel_rfl) (by simp) ?_
  refine AllReadyT.cons rfl (fun K hK => ?_) AllReadyT.nil
  go_simp
  refine (Without_any _ r n _ ⟨_, rfl, HId.out⟩ (by omega)).mono ?_
  rintro e w2 ⟨v2, rfl, hr2, hb2⟩
  refine hK.out _ _ (fun _ => ⟨cellB hS.1 hb2, cellB hS.2 hb2⟩) (fun _ => ?_)
  clear hK K inv
  try simp only [Act.put]
  refine wpAnyT_ready [4] (by kernel_rfl) (by simp) ?_
  refine AllReadyT.cons rfl (fun K hK => ?_) AllReadyT.nil
  go_simp
  refine (WorthOf_any _ _ (without r n) ks _ hr2 (HKd.out.below hb2) HWO.out HRK.out.2).mono ?_
  rintro e w3 ⟨rfl, hb3⟩
  have hS3 := And.intro (cellB (cellB hS.1 hb2) hb3) (cellB (cellB hS.2 hb2) hb3)
  refine hK.out _ _ (fun _ => hS3) (fun _ => ?_)
  clear hK K
  rw [HX.out.2]
  try simp only [Act.put]
  refine wpAnyT_ready [7] (by kernel_rfl) (by simp) ?_
  refine AllReadyT.cons rfl (fun K hK => ?_) AllReadyT.nil
  go_simp
  have hb23 := bC hb2 hb3
  refine (WorthOf_any _ _ r ks _ ⟨_, rfl, HId.out.below hb23⟩ (HKd.out.below hb23) HRK.out.1 HRK.out.2).mono ?_
  rintro e w4 ⟨rfl, hb4⟩
  refine hK.out _ _ (fun _ => ⟨cellB hS3.1 hb4, cellB hS3.2 hb4⟩) (fun _ => ?_)
  clear hK K
  rw [HX.out.1]
  try simp only [Act.put]
  have HBF := Lib.hid (bC (bC HBd.out hb23) hb4)
  clear hS hS3 hb2 hb3 hb23 hb4 hr2
  refine wpAnyT_chain (fuel := 3) rfl (by kernel_rfl) ?_
  simp only [List.drop_succ_cons, List.drop_zero]
  go_wp2
  go_ret2
  exact ⟨ret_pair (by rw [HT.out.2, HX.out.1, HX.out.2]) HT.out.1.symm, HBF.out⟩
end Go.Proofs.Ytnkeikhkafbokaa
