import Derived.Test.YtnkeikhkafbokaaQg
import Derived.Test.YtnkeikhkafbokaaQb
namespace Go.Proofs.Ytnkeikhkafbokaa
open Go.RowKit Go.Dag Go.Sort

/-! ## The reference: what cuts are worth -/
theorem cut_tup {r : RibD} {ks : List KindD} {g : List (Int × Int)} {c : Int} (h : cutsErr r ks g = c) (hc : c ≠ 0) : Ending.returned (.tuple #[.int .i64 0, .int .i64 c]) = .returned (.tuple #[.int .i64 (cutsV r ks g), .int .i64 (cutsErr r ks g)]) := by
  rw [cutsV, h, if_neg hc]
theorem cut_tup0 {r : RibD} {ks : List KindD} {g : List (Int × Int)} {c : Int} (h : cutsErr r ks g = 0) (hc : cutsSum ks g = c) : Ending.returned (.tuple #[.int .i64 c, .int .i64 0]) = .returned (.tuple #[.int .i64 (cutsV r ks g), .int .i64 (cutsErr r ks g)]) := by
  rw [cutsV, h, if_pos rfl, hc]
section
variable {r : RibD} {ks : List KindD} {g : List (Int × Int)}
theorem cutsErr_b (h : bothErr r ks ≠ 0) : cutsErr r ks g = bothErr r ks := by unfold cutsErr; rw [if_pos h]
theorem cutsErr_n (h : bothErr r ks = 0) : cutsErr r ks g = cutsErr0 r ks g := by unfold cutsErr; rw [if_neg (by simpa using h)]
theorem cutsErr_6 (h : bothErr r ks = 0) (h1 : r.len < g.length) : cutsErr r ks g = 6 := by rw [cutsErr_n h, cutsErr0, if_pos h1]
theorem cutsErr_3 (h : bothErr r ks = 0) (h1 : ¬ r.len < g.length) (h2 : g.all (namedB r ks) = false) : cutsErr r ks g = 3 := by rw [cutsErr_n h, cutsErr0, if_neg h1, if_pos h2]
theorem cutsErr_18 (h : bothErr r ks = 0) (h1 : ¬ r.len < g.length) (h2 : g.all (namedB r ks) = true) (h3 : g.all (canS r ks) = false) : cutsErr r ks g = 18 := by
  rw [cutsErr_n h, cutsErr0, if_neg h1, if_neg (by rw [h2]; simp), if_pos h3]
theorem cutsErr_16 (h : bothErr r ks = 0) (h1 : ¬ r.len < g.length) (h2 : g.all (namedB r ks) = true) (h3 : g.all (canS r ks) = true) (h4 : orderB ks 0 g = false) : cutsErr r ks g = 16 := by
  rw [cutsErr_n h, cutsErr0, if_neg h1, if_neg (by rw [h2]; simp), if_neg (by rw [h3]; simp), if_pos h4]
theorem cutsErr_00 (h : bothErr r ks = 0) (h1 : ¬ r.len < g.length) (h2 : g.all (namedB r ks) = true) (h3 : g.all (canS r ks) = true) (h4 : orderB ks 0 g = true) : cutsErr r ks g = 0 := by
  rw [cutsErr_n h, cutsErr0, if_neg h1, if_neg (by rw [h2]; simp), if_neg (by rw [h3]; simp), if_neg (by rw [h4]; simp)]
theorem named_no {s : Int × Int} (h : s.1 < 0 ∨ r.len < s.1 ∨ s.2 < 0 ∨ (ks.length : Int) ≤ s.2) : namedB r ks s = false := by
  cases e : namedB r ks s with
  | false => rfl
  | true =>
    simp only [namedB, Bool.and_eq_true, decide_eq_true_eq] at e
    omega
theorem named_yes {s : Int × Int} (h1 : ¬ s.1 < 0) (h2 : ¬ r.len < s.1) (h3 : ¬ s.2 < 0) (h4 : ¬ (ks.length : Int) ≤ s.2) : namedB r ks s = true := by
  simp only [namedB, Bool.and_eq_true, decide_eq_true_eq]
  omega
theorem named_nat {k : Nat} (h : g.all (namedB r ks) = true) (hk : k < g.length) : ∃ a i : Nat, g[k].1 = (a : Int) ∧ g[k].2 = (i : Int) ∧ (a : Int) ≤ r.len ∧ i < ks.length := by
  have := List.all_eq_true.1 h _ (List.getElem_mem hk)
  simp only [namedB, Bool.and_eq_true, decide_eq_true_eq] at this
  exact ⟨g[k].1.toNat, g[k].2.toNat, by omega, by omega, by omega, by omega⟩
/-- Where the sheet before the k-th ends. -/
def endAt (ks : List KindD) (g : List (Int × Int)) (k : Nat) : Int := if k = 0 then 0 else (g.getD (k - 1) (0, 0)).1 + (sk ks (g.getD (k - 1) (0, 0))).w
theorem endAt_succ {k : Nat} (hk : k < g.length) : endAt ks g (k + 1) = g[k].1 + (sk ks g[k]).w := by
  unfold endAt
  rw [if_neg (by omega), Nat.add_sub_cancel, List.getD_eq_getElem?_getD, List.getElem?_eq_getElem hk]
  rfl
theorem order_snoc {k : Nat} {e : Int} (hk : k < g.length) : orderB ks e (g.drop k) = (decide (e ≤ g[k].1) && orderB ks (endAt ks g (k + 1)) (g.drop (k + 1))) := by
  rw [List.drop_eq_getElem_cons hk, orderB, endAt_succ hk]
theorem sum_snoc {k : Nat} (hk : k < g.length) : cutsSum ks (g.take (k + 1)) = cutsSum ks (g.take k) + (sk ks g[k]).p := by
  unfold cutsSum
  rw [List.take_succ_eq_append_getElem hk, isum_append, isum_cons]
  simp [isum]
theorem sum_bd (hks : KindsOk ks) (h : g.all (namedB r ks) = true) (k : Nat) : 0 ≤ cutsSum ks (g.take k) ∧ cutsSum ks (g.take k) ≤ 1000 * k := by
  induction k with
  | zero => simp [cutsSum, isum]
  | succ k ih =>
    by_cases hk : k < g.length
    · rw [sum_snoc hk]
      obtain ⟨a, i, _, h2, _, h4⟩ := named_nat h hk
      have := kd_ok hks h4
      have e : sk ks g[k] = kd ks i := by unfold sk; rw [h2]; rfl
      rw [e]
      have h1 := this.p1
      have h2 := this.p2
      omega
    · rw [List.take_of_length_le (by omega)]
      rw [List.take_of_length_le (by omega)] at ih
      omega
end

set_option maxRecDepth 100000 in
set_option maxHeartbeats 4000000 in
theorem rCheckCuts_err (v kv : Value) (r : RibD) (ks : List KindD) (cv : Value) (g : List (Int × Int)) (w : World) (hv : RibAt w v r) (hk : KindsAt w kv ks) (hcv : PairsAt w cv g) (he : bothErr r ks ≠ 0) (hl : r.fs.length ≤ 1000) (hl2 : ks.length ≤ 1000) :
    Calls Try.prog 19 #[v, kv, cv] w fun e w' => e = .returned (.tuple #[.int .i64 (cutsV r ks g), .int .i64 (cutsErr r ks g)]) ∧ Below w.heap.size w w' := by
  obtain ⟨sv, rfl, hi⟩ := hv
  obtain ⟨sa, cap, rfl⟩ := hi.slice
  obtain ⟨ka, kcap, rfl⟩ := hk.slice
  have hB0 := below1 w (.cells #[.int .i64 r.len, .slice sa r.fs.length cap] 24)
  have b0 := Blk.new w (.cells #[.int .i64 r.len, .slice sa r.fs.length cap] 24)
  have HI := Lib.hid (hi.below hB0)
  have HK := Lib.hid (hk.below hB0)
  obtain ⟨ca, ccap, rfl⟩ := hcv.slice
  clear hcv
  have HT := Lib.hid (cut_tup (cutsErr_b (g := g) he) he)
  clear hi hk
  go_enter Try.func19, Try.ntmps19
  go_wp2_with fail
  generalize w.alloc (.cells #[.int .i64 r.len, .slice sa r.fs.length cap] 24) = W0 at *
  have HE : (bothErr r ks != 0) = true := by simp [he]
  clear he
  refine (rboth_any _ _ r ks _ ⟨_, rfl, HI.out⟩ HK.out hl hl2).mono ?_
  rintro e w1 ⟨rfl, hb1⟩
  have b1 := b0.below hb1
  have c0 := b1.cell 0
  have c1 := b1.cell 1
  simp at c0 c1
  have hB1 := bC hB0 hb1
  have HI1 := Lib.hid (HI.out.below hb1)
  have HK1 := Lib.hid (HK.out.below hb1)
  go_wp2_with fail
  refine (rboth_any _ _ r ks _ ⟨_, rfl, HI1.out⟩ HK1.out hl hl2).mono ?_
  rintro e w2 ⟨rfl, hb2⟩
  go_wp2
  go_ret2
  exact ⟨HT.out, bC hB1 hb2⟩

set_option maxRecDepth 100000 in
set_option maxHeartbeats 4000000 in
theorem rCheckCuts_ok (v kv : Value) (r : RibD) (ks : List KindD) (cv : Value) (g : List (Int × Int)) (w : World) (hv : RibAt w v r) (hk : KindsAt w kv ks) (hcv : PairsAt w cv g) (hg : g.length ≤ 1000) (hr : RibOk r) (hks : KindsOk ks) :
    Calls Try.prog 19 #[v, kv, cv] w fun e w' => e = .returned (.tuple #[.int .i64 (cutsV r ks g), .int .i64 (cutsErr r ks g)]) ∧ Below w.heap.size w w' := by
  obtain ⟨sv, rfl, hi⟩ := hv
  obtain ⟨sa, cap, rfl⟩ := hi.slice
  obtain ⟨ka, kcap, rfl⟩ := hk.slice
  have hB0 := below1 w (.cells #[.int .i64 r.len, .slice sa r.fs.length cap] 24)
  have b0 := Blk.new w (.cells #[.int .i64 r.len, .slice sa r.fs.length cap] 24)
  have HI := Lib.hid (hi.below hB0)
  have HK := Lib.hid (hk.below hB0)
  obtain ⟨ca, ccap, rfl⟩ := hcv.slice
  have HC := Lib.hid (fun k (hk : k < g.length) => (hcv.below hB0).at.2 k hk)
  have HBE := Lib.hid (bothErr_of hr hks)
  have hl1 := hr.l1
  have hl2 := hr.l2
  clear hcv
  clear hi hk
  go_enter Try.func19, Try.ntmps19
  go_wp2_with fail
  generalize w.alloc (.cells #[.int .i64 r.len, .slice sa r.fs.length cap] 24) = W0 at *
  have HRK := Lib.hid (And.intro hr hks)
  have hc24 := hr.count
  have hk6 := hks.1
  clear hr hks
  refine (rboth_ok _ _ r ks _ ⟨_, rfl, HI.out⟩ HK.out HRK.out.1 HRK.out.2).mono ?_
  rintro e w1 ⟨rfl, hb1⟩
  have HB1 := Lib.hid hb1
  have b1 := b0.below hb1
  have c0 := b1.cell 0
  have c1 := b1.cell 1
  simp at c0 c1
  clear hb1
  by_cases q1 : r.len < g.length
  · have e1 : decide (r.len < (g.length : Int)) = true := by simpa using q1
    have HT := Lib.hid (cut_tup (cutsErr_6 HBE.out q1) (by decide))
    go_wp2
    go_ret2
    exact ⟨HT.out, bC hB0 HB1.out⟩
  have e1 : decide (r.len < (g.length : Int)) = false := by simpa using q1
  have HQ : Hid ((g.length : Int) ≤ r.len) := Lib.hid (by omega)
  have hgl : (g.length : Int) ≤ 24 := by omega
  clear q1
  go_wp2
  clear e1 c0 c1
  -- all are named
  go_loopw [8] (fun s wr => ∃ k : Nat, k ≤ g.length ∧ s = .int .i64 k ∧ (g.take k).all (namedB r ks) = true ∧ Below W0.heap.size W0 wr) (fun s _ => g.length - (intOf s).toNat)
  case atStart => exact ⟨0, Nat.zero_le _, rfl, rfl, HB1.out⟩
  case round =>
    obtain ⟨k, hk, rfl, hok, hB⟩ := hrel
    have HO := Lib.hid hok
    clear hok
    have b2 := b0.below hB
    have c0 := b2.cell 0
    have c1 := b2.cell 1
    simp at c0 c1
    have HB := Lib.hid hB
    clear hB b2
    by_cases hlt : k < g.length
    · obtain ⟨cb, coff, rfl, x1, x2⟩ := HC.out k hlt
      have x1 := cellB x1 HB.out
      have x2 := cellB x2 HB.out
      have bad := Lib.hid (fun h => cut_tup (cutsErr_3 HBE.out (Int.not_lt.2 HQ.out) (all_false (p := namedB r ks) hlt (named_no h))) (by decide))
      by_cases p1 : g[k].1 < 0
      · have d1 : decide (g[k].1 < 0) = true := by simpa using p1
        have HT := Lib.hid (bad.out (.inl p1))
        go_wp2_with fail
        go_quiet (fail)
        go_wp2
        go_ret2
        exact ⟨HT.out, bC hB0 (below_drewN HB.out _)⟩
      have d1 : decide (g[k].1 < 0) = false := by simpa using p1
      by_cases p2 : r.len < g[k].1
      · have d2 : decide (r.len < g[k].1) = true := by simpa using p2
        have HT := Lib.hid (bad.out (.inr (.inl p2)))
        go_wp2_with fail
        go_quiet (fail)
        go_wp2
        go_ret2
        exact ⟨HT.out, bC hB0 (below_drewN HB.out _)⟩
      have d2 : decide (r.len < g[k].1) = false := by simpa using p2
      by_cases p3 : g[k].2 < 0
      · have d3 : decide (g[k].2 < 0) = true := by simpa using p3
        have HT := Lib.hid (bad.out (.inr (.inr (.inl p3))))
        go_wp2_with fail
        go_quiet (fail)
        go_wp2
        go_ret2
        exact ⟨HT.out, bC hB0 (below_drewN HB.out _)⟩
      have d3 : decide (g[k].2 < 0) = false := by simpa using p3
      by_cases p4 : (ks.length : Int) ≤ g[k].2
      · have d4 : decide ((ks.length : Int) ≤ g[k].2) = true := by simpa using p4
        have HT := Lib.hid (bad.out (.inr (.inr (.inr p4))))
        go_wp2_with fail
        go_quiet (fail)
        go_wp2
        go_ret2
        exact ⟨HT.out, bC hB0 (below_drewN HB.out _)⟩
      have d4 : decide ((ks.length : Int) ≤ g[k].2) = false := by simpa using p4
      have HY := Lib.hid (named_yes p1 p2 p3 p4)
      clear p1 p2 p3 p4
      go_wp2_with fail
      go_quiet (fail)
      clear d1 d2 d3 d4
      go_wp2
      rename_i wr8
      go_roundw
      case rel => exact ⟨k + 1, by omega, by go_num, all_snoc hlt HO.out HY.out, below_drewN HB.out _⟩
      case measure => simp [intOf]; omega
    · obtain rfl : k = g.length := by omega
      have hall := HO.out
      rw [List.take_length] at hall
      have HN := Lib.hid hall
      clear hall HO
      go_wp2
      clear c0 c1
      -- all can be cut
      go_loopw [9] (fun s wr => ∃ k : Nat, k ≤ g.length ∧ s = .int .i64 k ∧ (g.take k).all (canS r ks) = true ∧ Below W0.heap.size W0 wr) (fun s _ => g.length - (intOf s).toNat)
      case atStart => exact ⟨0, Nat.zero_le _, rfl, rfl, HB.out⟩
      case round =>
        clear HB
        rename_i wr
        obtain ⟨k, hk, rfl, hok, hB⟩ := hrel
        have HO := Lib.hid hok
        clear hok
        have b2 := b0.below hB
        have c0 := b2.cell 0
        have c1 := b2.cell 1
        simp at c0 c1
        have HB := Lib.hid hB
        clear hB b2
        by_cases hlt : k < g.length
        · obtain ⟨cb, coff, rfl, x1, x2⟩ := HC.out k hlt
          obtain ⟨an, kn, ha, hkn, han, hknl⟩ := named_nat HN.out hlt
          rw [ha] at x1
          rw [hkn] at x2
          have x1 := cellB x1 HB.out
          have x2 := cellB x2 HB.out
          obtain ⟨kb, koff, rfl, y1, y2, y3⟩ := HK.out.get kn hknl
          have y1 := cellB y1 HB.out
          have y2 := cellB y2 HB.out
          have y3 := cellB y3 HB.out
          have HKO := Lib.hid (kd_ok HRK.out.2 hknl)
          have HSK := Lib.hid (show canS r ks g[k] = canB r ks[kn] an by unfold canS sk; rw [ha, hkn, Int.toNat_natCast, Int.toNat_natCast, kd_get hknl])
          have HKD := Lib.hid (kd_get hknl)
          clear ha hkn
          have g_0 := fun d os => cell_regrown c0 d os
          have g_1 := fun d os => cell_regrown c1 d os
          have g_2 := fun d os => cell_regrown x1 d os
          have g_3 := fun d os => cell_regrown x2 d os
          have g_4 := fun d os => cell_regrown y1 d os
          have g_5 := fun d os => cell_regrown y2 d os
          have g_6 := fun d os => cell_regrown y3 d os
          have hcG : ∀ (d : Nat) (os : Array Obj), _ := fun d os => Calls.regrown_of (rCan_any (.agg #[.int .i64 r.len, .slice sa r.fs.length cap]) r ks[kn] an (grow (redrawn wr d) os) ⟨_, rfl, (HI.out.below HB.out).below (below_regrown wr d os)⟩ (by omega) (by omega) (by omega) (by have := HKO.out.w1; rw [HKD.out] at this; omega) (by have := HKO.out.w2; rw [HKD.out] at this; omega))
          unfold kV at hcG
          by_cases hc : canB r ks[kn] an = true
          · rw [hc] at hcG
            go_wp2_with fail
            refine wp_region_quiet_below (by kernel_rfl) (by kernel_rfl) ?_
            repeat (quiet_step ((go_at_call 60; exact hcG _ _)))
            refine wpQuiet_nil ?_
            intro _ hw'
            obtain ⟨⟨dq, osq⟩, hw''⟩ := hw'
            subst hw''
            have HB2 := Lib.hid (bC HB.out (below_regrown wr dq osq))
            clear g_0 g_1 g_2 g_3 g_4 g_5 g_6 hcG c0 c1 x1 x2 y1 y2 y3
            generalize grow (redrawn wr dq) osq = w3 at *
            go_wp2
            rename_i wr8
            go_roundw
            case rel => exact ⟨k + 1, by omega, by go_num, all_snoc hlt HO.out (HSK.out.trans hc), HB2.out⟩
            case measure => simp [intOf]; omega
          · rw [Bool.not_eq_true] at hc
            rw [hc] at hcG
            have HT := Lib.hid (cut_tup (cutsErr_18 HBE.out (Int.not_lt.2 HQ.out) HN.out (all_false (p := canS r ks) hlt (HSK.out.trans hc))) (by decide))
            go_wp2_with fail
            refine wp_region_quiet_below (by kernel_rfl) (by kernel_rfl) ?_
            repeat (quiet_step ((go_at_call 60; exact hcG _ _)))
            refine wpQuiet_nil ?_
            intro _ hw'
            obtain ⟨⟨dq, osq⟩, hw''⟩ := hw'
            subst hw''
            have HB2 := Lib.hid (bC HB.out (below_regrown wr dq osq))
            clear g_0 g_1 g_2 g_3 g_4 g_5 g_6 hcG c0 c1 x1 x2 y1 y2 y3
            generalize grow (redrawn wr dq) osq = w3 at *
            go_wp2
            go_ret2
            exact ⟨HT.out, bC hB0 HB2.out⟩
        · obtain rfl : k = g.length := by omega
          have hall := HO.out
          rw [List.take_length] at hall
          have HCA := Lib.hid hall
          clear hall HO
          go_wp2
          clear c0 c1
          -- one behind the other
          go_loopw [10, 11, 12] (fun sw sn s wr => ∃ k : Nat, k ≤ g.length ∧ s = .int .i64 k ∧ sw = .int .i64 (cutsSum ks (g.take k)) ∧ sn = .int .i64 (endAt ks g k) ∧ orderB ks 0 g = orderB ks (endAt ks g k) (g.drop k) ∧ Below W0.heap.size W0 wr) (fun _ _ s _ => g.length - (intOf s).toNat)
          case atStart => exact ⟨0, Nat.zero_le _, rfl, rfl, rfl, rfl, HB.out⟩
          case round =>
            clear HB
            rename_i wr
            obtain ⟨k, hk, rfl, rfl, rfl, hok, hB⟩ := hrel
            have HO := Lib.hid hok
            have HB := Lib.hid hB
            clear hok hB
            by_cases hlt : k < g.length
            · obtain ⟨cb, coff, rfl, x1, x2⟩ := HC.out k hlt
              obtain ⟨an, kn, ha, hkn, han, hknl⟩ := named_nat HN.out hlt
              have HSK := Lib.hid (show sk ks g[k] = ks[kn] by unfold sk; rw [hkn, Int.toNat_natCast, kd_get hknl])
              have HOS := Lib.hid (order_snoc (ks := ks) (e := endAt ks g k) hlt)
              have HES := Lib.hid (endAt_succ (ks := ks) hlt)
              have HSS := Lib.hid (sum_snoc (ks := ks) hlt)
              have hsb := sum_bd HRK.out.2 HN.out k
              rw [ha] at x1 HOS HES
              rw [hkn] at x2
              rw [HSK.out] at HES HSS
              have x1 := cellB x1 HB.out
              have x2 := cellB x2 HB.out
              obtain ⟨kb, koff, rfl, y1, y2, y3⟩ := HK.out.get kn hknl
              have y1 := cellB y1 HB.out
              have y2 := cellB y2 HB.out
              have hko := kd_ok HRK.out.2 hknl
              rw [kd_get hknl] at hko
              have w1' := hko.w1
              have w2' := hko.w2
              have p1' := hko.p1
              have p2' := hko.p2
              clear ha hkn hko y3
              obtain ⟨en, hen⟩ : ∃ en, endAt ks g k = en := ⟨_, rfl⟩
              obtain ⟨sm, hsm⟩ : ∃ sm, cutsSum ks (g.take k) = sm := ⟨_, rfl⟩
              rw [hen] at HO HOS ⊢
              rw [hsm] at HSS hsb ⊢
              clear hen hsm
              by_cases q2 : (an : Int) < en
              · have e2 : decide ((an : Int) < en) = true := by simpa using q2
                have HT := Lib.hid (cut_tup (cutsErr_16 HBE.out (Int.not_lt.2 HQ.out) HN.out HCA.out (by rw [HO.out, HOS.out, decide_eq_false (by omega)]; rfl)) (by decide))
                go_wp2
                go_ret2
                exact ⟨HT.out, bC hB0 HB.out⟩
              · have e2 : decide ((an : Int) < en) = false := by simpa using q2
                have HQ2 := Lib.hid (show en ≤ (an : Int) by omega)
                have ww1 : IntKind.i64.wrap ((an : Int) + ks[kn].w) = (an : Int) + ks[kn].w := IntWalk.i64_in _ (by omega)
                have ww2 : IntKind.i64.wrap (sm + ks[kn].p) = sm + ks[kn].p := IntWalk.i64_in _ (by omega)
                clear q2
                go_wp2_with fail
                go_quiet (fail)
                go_wp2
                clear ww1 ww2 e2
                rename_i wr8
                go_roundw
                case rel => exact ⟨k + 1, by omega, by go_num, by rw [HSS.out], by rw [HES.out], by rw [HO.out, HOS.out, decide_eq_true HQ2.out, Bool.true_and], below_drewN HB.out _⟩
                case measure => simp [intOf]; omega
            · obtain rfl : k = g.length := by omega
              have HT := Lib.hid (cut_tup0 (cutsErr_00 HBE.out (Int.not_lt.2 HQ.out) HN.out HCA.out (by rw [HO.out, List.drop_length]; rfl)) (c := cutsSum ks (g.take g.length)) (by rw [List.take_length]))
              go_wp2
              go_ret2
              exact ⟨HT.out, bC hB0 HB.out⟩
end Go.Proofs.Ytnkeikhkafbokaa
