import Derived.Test.YtnkeikhkafbokaaQt
import Derived.Test.YtnkeikhkafbokaaQj
namespace Go.Proofs.Ytnkeikhkafbokaa
open Go.RowKit Go.Dag Go.Sort Go.Shelf
attribute [local go_sem] Oper.semAt_some

/-! ## The program: what it exports, where there is an error; Worth, Count, Prices -/
theorem LaidAt.up {w : World} {T M : Nat} {r : RibD} {ks : List KindD} (h : LaidAt w T M r ks) {q : Nat} (hq : q ≤ r.len.toNat) (h24 : r.len ≤ 24) : w.cell? ⟨T, 4 + q, none⟩ = some (.int .i64 (up (tabOf r ks) q)) := by
  rw [h.1.up q (by omega)]
  unfold Ux
  rw [if_pos (by omega)]
theorem LaidAt.wy {w : World} {T M : Nat} {r : RibD} {ks : List KindD} (h : LaidAt w T M r ks) {q : Nat} (hq : q ≤ r.len.toNat) (h24 : r.len ≤ 24) : w.cell? ⟨T, 29 + q, none⟩ = some (.int .i64 (Dag.ways (tabOf r ks) q)) := by
  rw [h.1.wy (by omega), Wx_zero hq]
theorem ways_start {t : Tab} : Dag.ways t 0 = many t 0 := by
  unfold Dag.ways
  rw [if_pos (on_zero t)]
set_option maxRecDepth 100000 in
set_option maxHeartbeats 4000000 in
theorem Worth_err (v kv : Value) (r : RibD) (ks : List KindD) (w : World) (hv : RibAt w v r) (hk : KindsAt w kv ks) (he : bothErr r ks ≠ 0) (hl : r.fs.length ≤ 1000) (hl2 : ks.length ≤ 1000) :
    Calls Try.prog 24 #[v, kv] w fun e w' => e = .returned (.tuple #[.int .i64 0, .int .i64 (bothErr r ks)]) ∧ Below w.heap.size w w' := by
  obtain ⟨sv, rfl, hi⟩ := hv
  obtain ⟨sa, cap, rfl⟩ := hi.slice
  obtain ⟨ka, kcap, rfl⟩ := hk.slice
  have hB0 := below1 w (.cells #[.int .i64 r.len, .slice sa r.fs.length cap] 24)
  have b0 := Blk.new w (.cells #[.int .i64 r.len, .slice sa r.fs.length cap] 24)
  have HI := Lib.hid (hi.below hB0)
  have HK := Lib.hid (hk.below hB0)
  clear hi hk
  go_enter Try.func24, Try.ntmps24
  go_wp2_with fail
  generalize w.alloc (.cells #[.int .i64 r.len, .slice sa r.fs.length cap] 24) = W0 at *
  refine (lay_err _ _ r ks _ ⟨_, rfl, HI.out⟩ HK.out he hl hl2).mono ?_
  rintro e w1 ⟨rfl, hb1⟩
  have HE : (bothErr r ks != 0) = true := by simpa using he
  have HB := Lib.hid (bC hB0 hb1)
  clear he hb1 hB0 b0 HI HK
  go_wp2
  go_ret2
  exact ⟨rfl, HB.out⟩

set_option maxRecDepth 100000 in
set_option maxHeartbeats 4000000 in
theorem Count_err (v kv : Value) (r : RibD) (ks : List KindD) (w : World) (hv : RibAt w v r) (hk : KindsAt w kv ks) (he : bothErr r ks ≠ 0) (hl : r.fs.length ≤ 1000) (hl2 : ks.length ≤ 1000) :
    Calls Try.prog 28 #[v, kv] w fun e w' => e = .returned (.tuple #[.int .i64 0, .int .i64 (bothErr r ks)]) ∧ Below w.heap.size w w' := by
  obtain ⟨sv, rfl, hi⟩ := hv
  obtain ⟨sa, cap, rfl⟩ := hi.slice
  obtain ⟨ka, kcap, rfl⟩ := hk.slice
  have hB0 := below1 w (.cells #[.int .i64 r.len, .slice sa r.fs.length cap] 24)
  have b0 := Blk.new w (.cells #[.int .i64 r.len, .slice sa r.fs.length cap] 24)
  have HI := Lib.hid (hi.below hB0)
  have HK := Lib.hid (hk.below hB0)
  clear hi hk
  go_enter Try.func28, Try.ntmps28
  go_wp2_with fail
  generalize w.alloc (.cells #[.int .i64 r.len, .slice sa r.fs.length cap] 24) = W0 at *
  refine (lay_err _ _ r ks _ ⟨_, rfl, HI.out⟩ HK.out he hl hl2).mono ?_
  rintro e w1 ⟨rfl, hb1⟩
  have HE : (bothErr r ks != 0) = true := by simpa using he
  have HB := Lib.hid (bC hB0 hb1)
  clear he hb1 hB0 b0 HI HK
  go_wp2
  go_ret2
  exact ⟨rfl, HB.out⟩

set_option maxRecDepth 100000 in
set_option maxHeartbeats 4000000 in
theorem Cuts_err (v kv : Value) (r : RibD) (ks : List KindD) (w : World) (hv : RibAt w v r) (hk : KindsAt w kv ks) (he : bothErr r ks ≠ 0) (hl : r.fs.length ≤ 1000) (hl2 : ks.length ≤ 1000) :
    Calls Try.prog 26 #[v, kv] w fun e w' => e = .returned (.tuple #[.slice none 0 0, .int .i64 (bothErr r ks)]) ∧ Below w.heap.size w w' := by
  obtain ⟨sv, rfl, hi⟩ := hv
  obtain ⟨sa, cap, rfl⟩ := hi.slice
  obtain ⟨ka, kcap, rfl⟩ := hk.slice
  have hB0 := below1 w (.cells #[.int .i64 r.len, .slice sa r.fs.length cap] 24)
  have b0 := Blk.new w (.cells #[.int .i64 r.len, .slice sa r.fs.length cap] 24)
  have HI := Lib.hid (hi.below hB0)
  have HK := Lib.hid (hk.below hB0)
  clear hi hk
  go_enter Try.func26, Try.ntmps26
  go_wp2_with fail
  generalize w.alloc (.cells #[.int .i64 r.len, .slice sa r.fs.length cap] 24) = W0 at *
  refine (lay_err _ _ r ks _ ⟨_, rfl, HI.out⟩ HK.out he hl hl2).mono ?_
  rintro e w1 ⟨rfl, hb1⟩
  have HE : (bothErr r ks != 0) = true := by simpa using he
  have HB := Lib.hid (bC hB0 hb1)
  clear he hb1 hB0 b0 HI HK
  go_wp2
  go_ret2
  exact ⟨rfl, HB.out⟩

set_option maxRecDepth 100000 in
set_option maxHeartbeats 4000000 in
theorem Prices_err (v kv : Value) (r : RibD) (ks : List KindD) (w : World) (hv : RibAt w v r) (hk : KindsAt w kv ks) (he : bothErr r ks ≠ 0) (hl : r.fs.length ≤ 1000) (hl2 : ks.length ≤ 1000) :
    Calls Try.prog 33 #[v, kv] w fun e w' => e = .returned (.tuple #[.slice none 0 0, .int .i64 (bothErr r ks)]) ∧ Below w.heap.size w w' := by
  obtain ⟨sv, rfl, hi⟩ := hv
  obtain ⟨sa, cap, rfl⟩ := hi.slice
  obtain ⟨ka, kcap, rfl⟩ := hk.slice
  have hB0 := below1 w (.cells #[.int .i64 r.len, .slice sa r.fs.length cap] 24)
  have b0 := Blk.new w (.cells #[.int .i64 r.len, .slice sa r.fs.length cap] 24)
  have HI := Lib.hid (hi.below hB0)
  have HK := Lib.hid (hk.below hB0)
  clear hi hk
  go_enter Try.func33, Try.ntmps33
  go_wp2_with fail
  generalize w.alloc (.cells #[.int .i64 r.len, .slice sa r.fs.length cap] 24) = W0 at *
  refine (lay_err _ _ r ks _ ⟨_, rfl, HI.out⟩ HK.out he hl hl2).mono ?_
  rintro e w1 ⟨rfl, hb1⟩
  have HE : (bothErr r ks != 0) = true := by simpa using he
  have HB := Lib.hid (bC hB0 hb1)
  clear he hb1 hB0 b0 HI HK
  go_wp2
  go_ret2
  exact ⟨rfl, HB.out⟩

set_option maxRecDepth 100000 in
set_option maxHeartbeats 4000000 in
theorem Parted_err (v kv : Value) (r : RibD) (ks : List KindD) (p : Int) (w : World) (hv : RibAt w v r) (hk : KindsAt w kv ks) (he : bothErr r ks ≠ 0) (hl : r.fs.length ≤ 1000) (hl2 : ks.length ≤ 1000) :
    Calls Try.prog 34 #[v, kv, .int .i64 p] w fun e w' => e = .returned (.tuple #[.int .i64 0, .int .i64 (bothErr r ks)]) ∧ Below w.heap.size w w' := by
  obtain ⟨sv, rfl, hi⟩ := hv
  obtain ⟨sa, cap, rfl⟩ := hi.slice
  obtain ⟨ka, kcap, rfl⟩ := hk.slice
  have hB0 := below1 w (.cells #[.int .i64 r.len, .slice sa r.fs.length cap] 24)
  have b0 := Blk.new w (.cells #[.int .i64 r.len, .slice sa r.fs.length cap] 24)
  have HI := Lib.hid (hi.below hB0)
  have HK := Lib.hid (hk.below hB0)
  clear hi hk
  go_enter Try.func34, Try.ntmps34
  go_wp2_with fail
  generalize w.alloc (.cells #[.int .i64 r.len, .slice sa r.fs.length cap] 24) = W0 at *
  refine (lay_err _ _ r ks _ ⟨_, rfl, HI.out⟩ HK.out he hl hl2).mono ?_
  rintro e w1 ⟨rfl, hb1⟩
  have HE : (bothErr r ks != 0) = true := by simpa using he
  have HB := Lib.hid (bC hB0 hb1)
  clear he hb1 hB0 b0 HI HK
  go_wp2
  go_ret2
  exact ⟨rfl, HB.out⟩

set_option maxRecDepth 100000 in
set_option maxHeartbeats 4000000 in
theorem Cost_err (v kv : Value) (r : RibD) (ks : List KindD) (i : Int) (w : World) (hv : RibAt w v r) (hk : KindsAt w kv ks) (he : bothErr r ks ≠ 0) (hl : r.fs.length ≤ 1000) (hl2 : ks.length ≤ 1000) :
    Calls Try.prog 36 #[v, kv, .int .i64 i] w fun e w' => e = .returned (.tuple #[.int .i64 0, .int .i64 (bothErr r ks)]) ∧ Below w.heap.size w w' := by
  obtain ⟨sv, rfl, hi⟩ := hv
  obtain ⟨sa, cap, rfl⟩ := hi.slice
  obtain ⟨ka, kcap, rfl⟩ := hk.slice
  have hB0 := below1 w (.cells #[.int .i64 r.len, .slice sa r.fs.length cap] 24)
  have b0 := Blk.new w (.cells #[.int .i64 r.len, .slice sa r.fs.length cap] 24)
  have HI := Lib.hid (hi.below hB0)
  have HK := Lib.hid (hk.below hB0)
  clear hi hk
  go_enter Try.func36, Try.ntmps36
  go_wp2_with fail
  generalize w.alloc (.cells #[.int .i64 r.len, .slice sa r.fs.length cap] 24) = W0 at *
  refine (lay_err _ _ r ks _ ⟨_, rfl, HI.out⟩ HK.out he hl hl2).mono ?_
  rintro e w1 ⟨rfl, hb1⟩
  have HE : (bothErr r ks != 0) = true := by simpa using he
  have HB := Lib.hid (bC hB0 hb1)
  clear he hb1 hB0 b0 HI HK
  go_wp2
  go_ret2
  exact ⟨rfl, HB.out⟩

set_option maxRecDepth 100000 in
set_option maxHeartbeats 4000000 in
theorem CheckCuts_err (v kv : Value) (r : RibD) (ks : List KindD) (cv : Value) (w : World) (hv : RibAt w v r) (hk : KindsAt w kv ks) (he : bothErr r ks ≠ 0) (hl : r.fs.length ≤ 1000) (hl2 : ks.length ≤ 1000) :
    Calls Try.prog 18 #[v, kv, cv] w fun e w' => e = .returned (.tuple #[.int .i64 0, .int .i64 (bothErr r ks)]) ∧ Below w.heap.size w w' := by
  obtain ⟨sv, rfl, hi⟩ := hv
  obtain ⟨sa, cap, rfl⟩ := hi.slice
  obtain ⟨ka, kcap, rfl⟩ := hk.slice
  have hB0 := below1 w (.cells #[.int .i64 r.len, .slice sa r.fs.length cap] 24)
  have b0 := Blk.new w (.cells #[.int .i64 r.len, .slice sa r.fs.length cap] 24)
  have HI := Lib.hid (hi.below hB0)
  have HK := Lib.hid (hk.below hB0)
  clear hi hk
  go_enter Try.func18, Try.ntmps18
  go_wp2_with fail
  generalize w.alloc (.cells #[.int .i64 r.len, .slice sa r.fs.length cap] 24) = W0 at *
  refine (lay_err _ _ r ks _ ⟨_, rfl, HI.out⟩ HK.out he hl hl2).mono ?_
  rintro e w1 ⟨rfl, hb1⟩
  have HE : (bothErr r ks != 0) = true := by simpa using he
  have HB := Lib.hid (bC hB0 hb1)
  clear he hb1 hB0 b0 HI HK
  go_wp2
  go_ret2
  exact ⟨rfl, HB.out⟩

set_option maxRecDepth 100000 in
set_option maxHeartbeats 4000000 in
theorem Worth_ok (v kv : Value) (r : RibD) (ks : List KindD) (w : World) (hv : RibAt w v r) (hk : KindsAt w kv ks) (hr : RibOk r) (hks : KindsOk ks) :
    Calls Try.prog 24 #[v, kv] w fun e w' => e = .returned (.tuple #[.int .i64 (dn (tabOf r ks) 0), .int .i64 0]) ∧ Below w.heap.size w w' := by
  obtain ⟨sv, rfl, hi⟩ := hv
  obtain ⟨sa, cap, rfl⟩ := hi.slice
  obtain ⟨ka, kcap, rfl⟩ := hk.slice
  have hB0 := below1 w (.cells #[.int .i64 r.len, .slice sa r.fs.length cap] 24)
  have b0 := Blk.new w (.cells #[.int .i64 r.len, .slice sa r.fs.length cap] 24)
  have HI := Lib.hid (hi.below hB0)
  have HK := Lib.hid (hk.below hB0)
  clear hi hk
  go_enter Try.func24, Try.ntmps24
  go_wp2_with fail
  generalize w.alloc (.cells #[.int .i64 r.len, .slice sa r.fs.length cap] 24) = W0 at *
  have HRK := Lib.hid (And.intro hr hks)
  have hfc := hr.count
  have hl1 := hr.l1
  have hl2 := hr.l2
  have hk6 := hks.1
  have hokt := tabOf_ok (r := r) (ks := ks) (by omega) hks
  have HOK := Lib.hid hokt
  refine (lay_ok _ _ r ks _ ⟨_, rfl, HI.out⟩ HK.out hr hks).mono ?_
  rintro e w1 ⟨T, M, rfl, hla, hT, hM, hb1⟩
  have HB1 := Lib.hid (bC hB0 hb1)
  have HL1 := Lib.hid hla
  replace b0 := b0.below hb1
  clear hb1 hB0 hr hks hla HI HK hokt
  have HU := Lib.hid (show Ux (tabOf r ks) (r.len.toNat + 1) r.len.toNat = dn (tabOf r ks) 0 by
    unfold Ux
    rw [if_pos (by omega)]
    exact up_all HOK.out)
  go_wp2_with fail
  refine (worth_any T M r ks _ _ HL1.out.1.tab HRK.out.1 HL1.out.1.up).mono ?_
  rintro e w2 ⟨rfl, hb2⟩
  rw [HU.out]
  have HB2 := Lib.hid (bC HB1.out hb2)
  clear hb2
  go_wp2
  go_ret2
  exact ⟨rfl, HB2.out⟩

set_option maxRecDepth 100000 in
set_option maxHeartbeats 4000000 in
theorem Count_ok (v kv : Value) (r : RibD) (ks : List KindD) (w : World) (hv : RibAt w v r) (hk : KindsAt w kv ks) (hr : RibOk r) (hks : KindsOk ks) :
    Calls Try.prog 28 #[v, kv] w fun e w' => e = .returned (.tuple #[.int .i64 (many (tabOf r ks) 0), .int .i64 0]) ∧ Below w.heap.size w w' := by
  obtain ⟨sv, rfl, hi⟩ := hv
  obtain ⟨sa, cap, rfl⟩ := hi.slice
  obtain ⟨ka, kcap, rfl⟩ := hk.slice
  have hB0 := below1 w (.cells #[.int .i64 r.len, .slice sa r.fs.length cap] 24)
  have b0 := Blk.new w (.cells #[.int .i64 r.len, .slice sa r.fs.length cap] 24)
  have HI := Lib.hid (hi.below hB0)
  have HK := Lib.hid (hk.below hB0)
  clear hi hk
  go_enter Try.func28, Try.ntmps28
  go_wp2_with fail
  generalize w.alloc (.cells #[.int .i64 r.len, .slice sa r.fs.length cap] 24) = W0 at *
  have HRK := Lib.hid (And.intro hr hks)
  have hfc := hr.count
  have hl1 := hr.l1
  have hl2 := hr.l2
  have hk6 := hks.1
  have hokt := tabOf_ok (r := r) (ks := ks) (by omega) hks
  have HOK := Lib.hid hokt
  refine (lay_ok _ _ r ks _ ⟨_, rfl, HI.out⟩ HK.out hr hks).mono ?_
  rintro e w1 ⟨T, M, rfl, hla, hT, hM, hb1⟩
  have HB1 := Lib.hid (bC hB0 hb1)
  have HL1 := Lib.hid hla
  replace b0 := b0.below hb1
  clear hb1 hB0 hr hks hla HI HK hokt
  have y0 := HL1.out.wy (Nat.zero_le _) hl2
  rw [ways_start] at y0
  go_wp2
  go_ret2
  exact ⟨rfl, HB1.out⟩

end Go.Proofs.Ytnkeikhkafbokaa

namespace Go.Proofs.Ytnkeikhkafbokaa
open Go.RowKit Go.Dag Go.Sort Go.Shelf
attribute [local go_sem] Oper.semAt_some

/-! ## The program: CheckCuts -/
set_option maxRecDepth 100000 in
set_option maxHeartbeats 4000000 in
theorem allNamed_any (cv : Value) (g : List (Int × Int)) (T M : Nat) (r : RibD) (ks : List KindD) (w : World) (hcv : PairsAt w cv g) (hT : TabAt w T M r ks) (hr : RibOk r) (hks : KindsOk ks) (hg : g.length ≤ 1000) :
    Calls Try.prog 54 #[cv, .func (.func 55) #[.pointer (some ⟨T, 0, none⟩)] #[]] w fun e w' => e = .returned (.bool (g.all (namedB r ks))) ∧ Below w.heap.size w w' := by
  obtain ⟨ca, ccap, rfl⟩ := hcv.slice
  have HC := Lib.hid (fun k (hk : k < g.length) => hcv.at.2 k hk)
  have HT := Lib.hid hT
  have HRK := Lib.hid (And.intro hr hks)
  have hr1 := hr.l1
  have hr2 := hr.l2
  clear hcv hT hr hks
  go_enter Try.func54, Try.ntmps54
  go_wp2
  go_loopw [9] (fun s wr => ∃ k : Nat, k ≤ g.length ∧ s = .int .i64 k ∧ (g.take k).all (namedB r ks) = true ∧ Below w.heap.size w wr) (fun s _ => g.length - (intOf s).toNat)
  case atStart => exact ⟨0, Nat.zero_le _, rfl, rfl, Below.refl _ _⟩
  case round =>
    obtain ⟨k, hk, rfl, hok, hB⟩ := hrel
    have HO := Lib.hid hok
    clear hok
    by_cases hlt : k < g.length
    · obtain ⟨cb, coff, rfl, x1, x2⟩ := HC.out k hlt
      replace x1 := cellB x1 hB
      replace x2 := cellB x2 hB
      have hz := hB.size
      obtain ⟨aa, haa⟩ : ∃ aa, g[k].1 = aa := ⟨_, rfl⟩
      obtain ⟨ii, hii⟩ : ∃ ii, g[k].2 = ii := ⟨_, rfl⟩
      have HPR := Lib.hid (show namedB r ks g[k] = namedB r ks (aa, ii) by rw [← haa, ← hii])
      rw [haa] at x1
      rw [hii] at x2
      clear haa hii
      have HB := Lib.hid (hB.alloc hz (.cells #[.int .i64 aa, .int .i64 ii] 56))
      have HT3 := Lib.hid (HT.out.below (hB.alloc hz (.cells #[.int .i64 aa, .int .i64 ii] 56)))
      clear hB
      go_wp2_with fail
      refine (isNamed_any T M r ks (aa, ii) _ HT3.out HRK.out.1 HRK.out.2).mono ?_
      rintro e w2 ⟨rfl, hb2⟩
      rw [← HPR.out]
      by_cases q : namedB r ks g[k] = true
      · rw [q]
        have HB2 := Lib.hid (bC HB.out hb2)
        clear hb2 x1 x2
        go_wp2
        rename_i wr8
        go_roundw
        case rel => exact ⟨k + 1, by omega, by go_num, all_snoc hlt HO.out q, HB2.out⟩
        case measure => simp [intOf]; omega
      · rw [Bool.not_eq_true] at q
        rw [q]
        have HB2 := Lib.hid (bC HB.out hb2)
        have HTT := Lib.hid (all_false (p := namedB r ks) hlt q)
        clear hb2 x1 x2
        go_wp2
        go_ret
        exact ⟨ret_bool HTT.out.symm, HB2.out⟩
    · obtain rfl : k = g.length := by omega
      go_wp2
      go_ret
      refine ⟨ret_bool ?_, hB⟩
      have := HO.out
      rw [List.take_length] at this
      exact this.symm

set_option maxRecDepth 100000 in
set_option maxHeartbeats 4000000 in
theorem allCan_any (cv : Value) (g : List (Int × Int)) (T M : Nat) (r : RibD) (ks : List KindD) (w : World) (hcv : PairsAt w cv g) (hT : TabAt w T M r ks) (hr : RibOk r) (hks : KindsOk ks) (hg : g.length ≤ 1000) (hn : g.all (namedB r ks) = true) :
    Calls Try.prog 54 #[cv, .func (.func 56) #[.pointer (some ⟨T, 0, none⟩)] #[]] w fun e w' => e = .returned (.bool (g.all (canS r ks))) ∧ Below w.heap.size w w' := by
  obtain ⟨ca, ccap, rfl⟩ := hcv.slice
  have HC := Lib.hid (fun k (hk : k < g.length) => hcv.at.2 k hk)
  have HT := Lib.hid hT
  have HRK := Lib.hid (And.intro hr hks)
  have hr1 := hr.l1
  have hr2 := hr.l2
  have HN := Lib.hid hn
  clear hcv hT hr hks hn
  go_enter Try.func54, Try.ntmps54
  go_wp2
  go_loopw [9] (fun s wr => ∃ k : Nat, k ≤ g.length ∧ s = .int .i64 k ∧ (g.take k).all (canS r ks) = true ∧ Below w.heap.size w wr) (fun s _ => g.length - (intOf s).toNat)
  case atStart => exact ⟨0, Nat.zero_le _, rfl, rfl, Below.refl _ _⟩
  case round =>
    obtain ⟨k, hk, rfl, hok, hB⟩ := hrel
    have HO := Lib.hid hok
    clear hok
    by_cases hlt : k < g.length
    · obtain ⟨cb, coff, rfl, x1, x2⟩ := HC.out k hlt
      replace x1 := cellB x1 hB
      replace x2 := cellB x2 hB
      have hz := hB.size
      obtain ⟨aa, ii, haa, hii, han, hil⟩ := named_nat HN.out hlt
      have HPR := Lib.hid (show canS r ks g[k] = canI r ks (aa : Int) ii by rw [canI_nat]; unfold canS sk; rw [haa, hii, Int.toNat_natCast, Int.toNat_natCast])
      rw [haa] at x1
      rw [hii] at x2
      clear haa hii
      have HB := Lib.hid (hB.alloc hz (.cells #[.int .i64 aa, .int .i64 ii] 56))
      have HT3 := Lib.hid (HT.out.below (hB.alloc hz (.cells #[.int .i64 aa, .int .i64 ii] 56)))
      clear hB
      go_wp2_with fail
      refine (canCut_any T M r ks (aa : Int) ii _ HT3.out HRK.out.1 HRK.out.2 hil (by omega) (by omega)).mono ?_
      rintro e w2 ⟨rfl, hb2⟩
      rw [← HPR.out]
      by_cases q : canS r ks g[k] = true
      · rw [q]
        have HB2 := Lib.hid (bC HB.out hb2)
        clear hb2 x1 x2
        go_wp2
        rename_i wr8
        go_roundw
        case rel => exact ⟨k + 1, by omega, by go_num, all_snoc hlt HO.out q, HB2.out⟩
        case measure => simp [intOf]; omega
      · rw [Bool.not_eq_true] at q
        rw [q]
        have HB2 := Lib.hid (bC HB.out hb2)
        have HTT := Lib.hid (all_false (p := canS r ks) hlt q)
        clear hb2 x1 x2
        go_wp2
        go_ret
        exact ⟨ret_bool HTT.out.symm, HB2.out⟩
    · obtain rfl : k = g.length := by omega
      go_wp2
      go_ret
      refine ⟨ret_bool ?_, hB⟩
      have := HO.out
      rw [List.take_length] at this
      exact this.symm

set_option maxRecDepth 100000 in
set_option maxHeartbeats 4000000 in
theorem CheckCuts_ok (v kv : Value) (r : RibD) (ks : List KindD) (cv : Value) (g : List (Int × Int)) (w : World) (hv : RibAt w v r) (hk : KindsAt w kv ks) (hcv : PairsAt w cv g) (hg : g.length ≤ 1000) (hr : RibOk r) (hks : KindsOk ks) :
    Calls Try.prog 18 #[v, kv, cv] w fun e w' => e = .returned (.tuple #[.int .i64 (cutsV r ks g), .int .i64 (cutsErr r ks g)]) ∧ Below w.heap.size w w' := by
  obtain ⟨sv, rfl, hi⟩ := hv
  obtain ⟨sa, cap, rfl⟩ := hi.slice
  obtain ⟨ka, kcap, rfl⟩ := hk.slice
  have hB0 := below1 w (.cells #[.int .i64 r.len, .slice sa r.fs.length cap] 24)
  have b0 := Blk.new w (.cells #[.int .i64 r.len, .slice sa r.fs.length cap] 24)
  have HI := Lib.hid (hi.below hB0)
  have HK := Lib.hid (hk.below hB0)
  obtain ⟨ca, ccap, rfl⟩ := hcv.slice
  have HCV := Lib.hid (hcv.below hB0)
  have HBE := Lib.hid (bothErr_of hr hks)
  clear hcv
  clear hi hk
  go_enter Try.func18, Try.ntmps18
  go_wp2_with fail
  generalize w.alloc (.cells #[.int .i64 r.len, .slice sa r.fs.length cap] 24) = W0 at *
  have HRK := Lib.hid (And.intro hr hks)
  have hfc := hr.count
  have hl1 := hr.l1
  have hl2 := hr.l2
  have hk6 := hks.1
  have hokt := tabOf_ok (r := r) (ks := ks) (by omega) hks
  have HOK := Lib.hid hokt
  refine (lay_ok _ _ r ks _ ⟨_, rfl, HI.out⟩ HK.out hr hks).mono ?_
  rintro e w1 ⟨T, M, rfl, hla, hT, hM, hb1⟩
  have HB1 := Lib.hid (bC hB0 hb1)
  have HL1 := Lib.hid hla
  have HC1 := Lib.hid (HCV.out.below hb1)
  clear HCV
  replace b0 := b0.below hb1
  clear hb1 hB0 hr hks hla HI HK hokt
  have t0 := HL1.out.1.len
  by_cases q1 : r.len < g.length
  · have e1 : decide (r.len < (g.length : Int)) = true := by simpa using q1
    have HT := Lib.hid (cut_tup (cutsErr_6 HBE.out q1) (by decide))
    go_wp2
    go_ret2
    exact ⟨HT.out, HB1.out⟩
  have e1 : decide (r.len < (g.length : Int)) = false := by simpa using q1
  have HQ : Hid (¬ r.len < (g.length : Int)) := Lib.hid q1
  have hgl : (g.length : Int) ≤ 24 := by omega
  have hmf : ∀ (fn : Fn) (first cap : Array Value) (w : World), (Instr.makeFunc fn first cap).run Try.prog w = .ok (.func fn first cap) w := fun _ _ _ _ => rfl
  clear q1
  go_wp2_with fail
  refine (allNamed_any _ g T M r ks _ HC1.out HL1.out.1.tab HRK.out.1 HRK.out.2 hg).mono ?_
  rintro e w2 ⟨rfl, hb2⟩
  have HB2 := Lib.hid (bC HB1.out hb2)
  have HL2 := Lib.hid (HL1.out.below hb2)
  have HC2 := Lib.hid (HC1.out.below hb2)
  clear HB1 HL1 HC1 hb2 t0 e1
  cases q2 : g.all (namedB r ks) with
  | false =>
    have HT := Lib.hid (cut_tup (cutsErr_3 HBE.out (Int.not_lt.2 HQ.out) q2) (by decide))
    clear q2
    go_wp2
    go_ret2
    exact ⟨HT.out, HB2.out⟩
  | true =>
    have HN := Lib.hid q2
    clear q2
    go_wp2_with fail
    refine (allCan_any _ g T M r ks _ HC2.out HL2.out.1.tab HRK.out.1 HRK.out.2 hg HN.out).mono ?_
    rintro e w3 ⟨rfl, hb3⟩
    have HB3 := Lib.hid (bC HB2.out hb3)
    have HL3 := Lib.hid (HL2.out.below hb3)
    have HC3 := Lib.hid (fun k (hk : k < g.length) => (HC2.out.below hb3).at.2 k hk)
    have hz3 := HB3.out.size
    clear HB2 HL2 HC2 hb3
    cases q3 : g.all (canS r ks) with
    | false =>
      have HT := Lib.hid (cut_tup (cutsErr_18 HBE.out (Int.not_lt.2 HQ.out) HN.out q3) (by decide))
      clear q3
      go_wp2
      go_ret2
      exact ⟨HT.out, HB3.out⟩
    | true =>
      have HCA := Lib.hid q3
      clear q3
      go_wp2
      go_loopw [10, 11, 46] (fun sw sn s wr => ∃ k : Nat, k ≤ g.length ∧ s = .int .i64 k ∧ sw = .int .i64 (cutsSum ks (g.take k)) ∧ sn = .int .i64 (endAt ks g k) ∧ orderB ks 0 g = orderB ks (endAt ks g k) (g.drop k) ∧ Below w3.heap.size w3 wr) (fun _ _ s _ => g.length - (intOf s).toNat)
      case atStart => exact ⟨0, Nat.zero_le _, rfl, rfl, rfl, rfl, Below.refl _ _⟩
      case round =>
        rename_i wr
        obtain ⟨k, hk, rfl, rfl, rfl, hok, hB⟩ := hrel
        have HO := Lib.hid hok
        have HB := Lib.hid hB
        clear hok hB
        by_cases hlt : k < g.length
        · obtain ⟨cb, coff, rfl, x1, x2⟩ := HC3.out k hlt
          obtain ⟨an, kn, ha, hkn, han, hknl⟩ := named_nat HN.out hlt
          have HSK := Lib.hid (show sk ks g[k] = kd ks kn by unfold sk; rw [hkn, Int.toNat_natCast])
          have HOS := Lib.hid (order_snoc (ks := ks) (e := endAt ks g k) hlt)
          have HES := Lib.hid (endAt_succ (ks := ks) hlt)
          have HSS := Lib.hid (sum_snoc (ks := ks) hlt)
          have hsb := sum_bd HRK.out.2 HN.out k
          rw [ha] at x1 HOS HES
          rw [hkn] at x2
          rw [HSK.out] at HES HSS
          have x1 := cellB x1 HB.out
          have x2 := cellB x2 HB.out
          have hko := kd_ok HRK.out.2 hknl
          have p1' := hko.p1
          have p2' := hko.p2
          clear ha hkn hko
          have hzr := HB.out.size
          obtain ⟨en, hen⟩ : ∃ en, endAt ks g k = en := ⟨_, rfl⟩
          obtain ⟨sm, hsm⟩ : ∃ sm, cutsSum ks (g.take k) = sm := ⟨_, rfl⟩
          rw [hen] at HO HOS ⊢
          rw [hsm] at HSS hsb ⊢
          clear hen hsm
          have bx := Blk.new wr (.cells #[.int .i64 an, .int .i64 kn] 56)
          have hbx := below1 wr (.cells #[.int .i64 an, .int .i64 kn] 56)
          by_cases q2 : (an : Int) < en
          · have e2 : decide ((an : Int) < en) = true := by simpa using q2
            have HT := Lib.hid (cut_tup (cutsErr_16 HBE.out (Int.not_lt.2 HQ.out) HN.out HCA.out (by rw [HO.out, HOS.out, decide_eq_false (by omega)]; rfl)) (by decide))
            have HBx := Lib.hid (bC HB3.out (bC HB.out hbx))
            clear hbx bx
            go_wp2
            go_ret2
            exact ⟨HT.out, HBx.out⟩
          · have e2 : decide ((an : Int) < en) = false := by simpa using q2
            have HQ2 := Lib.hid (show en ≤ (an : Int) by omega)
            have ww2 : IntKind.i64.wrap (sm + (kd ks kn).p) = sm + (kd ks kn).p := IntWalk.i64_in _ (by omega)
            clear q2
            have HBx := Lib.hid (bC HB.out hbx)
            have HLx := Lib.hid (HL3.out.below HBx.out)
            clear hbx
            go_wp2_with fail
            generalize wr.alloc (.cells #[.int .i64 an, .int .i64 kn] 56) = wx at *
            refine (price_any T M r ks (an : Int) kn _ HLx.out.1.tab HRK.out.1 HRK.out.2 hknl).mono ?_
            rintro e w5 ⟨rfl, hb5⟩
            have HB5 := Lib.hid (bC HBx.out hb5)
            have HL5 := Lib.hid (HLx.out.below hb5)
            replace bx := bx.below hb5
            clear hb5 HBx HLx x1 x2
            have y1 := bx.cell 0
            have y2 := bx.cell 1
            simp at y1 y2
            go_wp2_with fail
            refine (end_any T M r ks (an : Int) kn _ HL5.out.1.tab HRK.out.1 HRK.out.2 hknl (by omega) (by omega)).mono ?_
            rintro e w6 ⟨rfl, hb6⟩
            have HB6 := Lib.hid (bC HB5.out hb6)
            clear hb6 HB5 HL5 bx y1 y2
            go_wp2
            clear ww2 e2
            rename_i wr8
            go_roundw
            case rel => exact ⟨k + 1, by omega, by go_num, by rw [HSS.out], by rw [HES.out], by rw [HO.out, HOS.out, decide_eq_true HQ2.out, Bool.true_and], HB6.out⟩
            case measure => simp [intOf]; omega
        · obtain rfl : k = g.length := by omega
          have HT := Lib.hid (cut_tup0 (cutsErr_00 HBE.out (Int.not_lt.2 HQ.out) HN.out HCA.out (by rw [HO.out, List.drop_length]; rfl)) (c := cutsSum ks (g.take g.length)) (by rw [List.take_length]))
          go_wp2
          go_ret2
          exact ⟨HT.out, bC HB3.out HB.out⟩
end Go.Proofs.Ytnkeikhkafbokaa
