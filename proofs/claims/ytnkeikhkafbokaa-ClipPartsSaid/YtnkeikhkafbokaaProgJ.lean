import Derived.Test.YtnkeikhkafbokaaProgI
import Derived.Test.YtnkeikhkafbokaaRefI
namespace Go.Proofs.Ytnkeikhkafbokaa
open Go.RowKit Go.Dag Go.Sort Go.Shelf
attribute [local go_sem] Oper.semAt_some

/-! ## The program: what it exports, where there is an error; Worth, Count, Prices -/
theorem LaidAt.up {w : World} {T M : Nat} {r : RibD} {ks : List KindD} (h : LaidAt w T M r ks) {q : Nat} (hq : q ≤ r.len.toNat) (h24 : r.len ≤ 24) : w.cell? ⟨T, 4 + q, none⟩ = some (.int .i64 (up (tabOf r ks) q)) := by
  rw [h.1.up q (by omega)]
  unfold Ux
  rw [if_pos (by omega)]
theorem LaidAt.wy {w : World} {T M : Nat} {r : RibD} {ks : List KindD} (h : LaidAt w T M r ks) {q : Nat} (hq : q ≤ r.len.toNat) (h24 : r.len ≤ 24) : w.cell? ⟨T, 29 + q, none⟩ = some (.int .i64 (Dag.ways (tabOf r ks) q)) := by
  rw [h.1.wy (by omega), Wx_zero hq]
theorem ways_start {t : Tab} : Dag.ways t 0 = many t 0 := by
  unfold Dag.ways
  rw [if_pos (on_zero t)]
set_option maxRecDepth 100000 in
set_option maxHeartbeats 4000000 in
theorem Worth_err (v kv : Value) (r : RibD) (ks : List KindD) (w : World) (hv : RibAt w v r) (hk : KindsAt w kv ks) (he : bothErr r ks ≠ 0) (hl : r.fs.length ≤ 1000) (hl2 : ks.length ≤ 1000) :
    Calls Try.prog 24 #[v, kv] w fun e w' => e = .returned (.tuple #[.int .i64 0, .int .i64 (bothErr r ks)]) ∧ Below w.heap.size w w' := by
  obtain ⟨sv, rfl, hi⟩ := hv
  obtain ⟨sa, cap, rfl⟩ := hi.slice
  obtain ⟨ka, kcap, rfl⟩ := hk.slice
  have hB0 := below1 w (.cells #[.int .i64 r.len, .slice sa r.fs.length cap] 24)
  have b0 := Blk.new w (.cells #[.int .i64 r.len, .slice sa r.fs.length cap] 24)
  have HI := Lib.hid (hi.below hB0)
  have HK := Lib.hid (hk.below hB0)
  clear hi hk
  go_enter Try.func24, Try.ntmps24
  go_wp2_with fail
  generalize w.alloc (.cells #[.int .i64 r.len, .slice sa r.fs.length cap] 24) = W0 at *
  refine (lay_err _ _ r ks _ ⟨_, rfl, HI.out⟩ HK.out he hl hl2).mono ?_
  rintro e w1 ⟨rfl, hb1⟩
  have HE : (bothErr r ks != 0) = true := by simpa using he
  have HB := Lib.hid (bC hB0 hb1)
  clear he hb1 hB0 b0 HI HK
  go_wp2
  go_ret2
  exact ⟨rfl, HB.out⟩

set_option maxRecDepth 100000 in
set_option maxHeartbeats 4000000 in
theorem Count_err (v kv : Value) (r : RibD) (ks : List KindD) (w : World) (hv : RibAt w v r) (hk : KindsAt w kv ks) (he : bothErr r ks ≠ 0) (hl : r.fs.length ≤ 1000) (hl2 : ks.length ≤ 1000) :
    Calls Try.prog 28 #[v, kv] w fun e w' => e = .returned (.tuple #[.int .i64 0, .int .i64 (bothErr r ks)]) ∧ Below w.heap.size w w' := by
  obtain ⟨sv, rfl, hi⟩ := hv
  obtain ⟨sa, cap, rfl⟩ := hi.slice
  obtain ⟨ka, kcap, rfl⟩ := hk.slice
  have hB0 := below1 w (.cells #[.int .i64 r.len, .slice sa r.fs.length cap] 24)
  have b0 := Blk.new w (.cells #[.int .i64 r.len, .slice sa r.fs.length cap] 24)
  have HI := Lib.hid (hi.below hB0)
  have HK := Lib.hid (hk.below hB0)
  clear hi hk
  go_enter Try.func28, Try.ntmps28
  go_wp2_with fail
  generalize w.alloc (.cells #[.int .i64 r.len, .slice sa r.fs.length cap] 24) = W0 at *
  refine (lay_err _ _ r ks _ ⟨_, rfl, HI.out⟩ HK.out he hl hl2).mono ?_
  rintro e w1 ⟨rfl, hb1⟩
  have HE : (bothErr r ks != 0) = true := by simpa using he
  have HB := Lib.hid (bC hB0 hb1)
  clear he hb1 hB0 b0 HI HK
  go_wp2
  go_ret2
  exact ⟨rfl, HB.out⟩

set_option maxRecDepth 100000 in
set_option maxHeartbeats 4000000 in
theorem Cuts_err (v kv : Value) (r : RibD) (ks : List KindD) (w : World) (hv : RibAt w v r) (hk : KindsAt w kv ks) (he : bothErr r ks ≠ 0) (hl : r.fs.length ≤ 1000) (hl2 : ks.length ≤ 1000) :
    Calls Try.prog 26 #[v, kv] w fun e w' => e = .returned (.tuple #[.slice none 0 0, .int .i64 (bothErr r ks)]) ∧ Below w.heap.size w w' := by
  obtain ⟨sv, rfl, hi⟩ := hv
  obtain ⟨sa, cap, rfl⟩ := hi.slice
  obtain ⟨ka, kcap, rfl⟩ := hk.slice
  have hB0 := below1 w (.cells #[.int .i64 r.len, .slice sa r.fs.length cap] 24)
  have b0 := Blk.new w (.cells #[.int .i64 r.len, .slice sa r.fs.length cap] 24)
  have HI := Lib.hid (hi.below hB0)
  have HK := Lib.hid (hk.below hB0)
  clear hi hk
  go_enter Try.func26, Try.ntmps26
  go_wp2_with fail
  generalize w.alloc (.cells #[.int .i64 r.len, .slice sa r.fs.length cap] 24) = W0 at *
  refine (lay_err _ _ r ks _ ⟨_, rfl, HI.out⟩ HK.out he hl hl2).mono ?_
  rintro e w1 ⟨rfl, hb1⟩
  have HE : (bothErr r ks != 0) = true := by simpa using he
  have HB := Lib.hid (bC hB0 hb1)
  clear he hb1 hB0 b0 HI HK
  go_wp2
  go_ret2
  exact ⟨rfl, HB.out⟩

set_option maxRecDepth 100000 in
set_option maxHeartbeats 4000000 in
theorem Prices_err (v kv : Value) (r : RibD) (ks : List KindD) (w : World) (hv : RibAt w v r) (hk : KindsAt w kv ks) (he : bothErr r ks ≠ 0) (hl : r.fs.length ≤ 1000) (hl2 : ks.length ≤ 1000) :
    Calls Try.prog 33 #[v, kv] w fun e w' => e = .returned (.tuple #[.slice none 0 0, .int .i64 (bothErr r ks)]) ∧ Below w.heap.size w w' := by
  obtain ⟨sv, rfl, hi⟩ := hv
  obtain ⟨sa, cap, rfl⟩ := hi.slice
  obtain ⟨ka, kcap, rfl⟩ := hk.slice
  have hB0 := below1 w (.cells #[.int .i64 r.len, .slice sa r.fs.length cap] 24)
  have b0 := Blk.new w (.cells #[.int .i64 r.len, .slice sa r.fs.length cap] 24)
  have HI := Lib.hid (hi.below hB0)
  have HK := Lib.hid (hk.below hB0)
  clear hi hk
  go_enter Try.func33, Try.ntmps33
  go_wp2_with fail
  generalize w.alloc (.cells #[.int .i64 r.len, .slice sa r.fs.length cap] 24) = W0 at *
  refine (lay_err _ _ r ks _ ⟨_, rfl, HI.out⟩ HK.out he hl hl2).mono ?_
  rintro e w1 ⟨rfl, hb1⟩
  have HE : (bothErr r ks != 0) = true := by simpa using he
  have HB := Lib.hid (bC hB0 hb1)
  clear he hb1 hB0 b0 HI HK
  go_wp2
  go_ret2
  exact ⟨rfl, HB.out⟩

set_option maxRecDepth 100000 in
set_option maxHeartbeats 4000000 in
theorem Parted_err (v kv : Value) (r : RibD) (ks : List KindD) (p : Int) (w : World) (hv : RibAt w v r) (hk : KindsAt w kv ks) (he : bothErr r ks ≠ 0) (hl : r.fs.length ≤ 1000) (hl2 : ks.length ≤ 1000) :
    Calls Try.prog 34 #[v, kv, .int .i64 p] w fun e w' => e = .returned (.tuple #[.int .i64 0, .int .i64 (bothErr r ks)]) ∧ Below w.heap.size w w' := by
  obtain ⟨sv, rfl, hi⟩ := hv
  obtain ⟨sa, cap, rfl⟩ := hi.slice
  obtain ⟨ka, kcap, rfl⟩ := hk.slice
  have hB0 := below1 w (.cells #[.int .i64 r.len, .slice sa r.fs.length cap] 24)
  have b0 := Blk.new w (.cells #[.int .i64 r.len, .slice sa r.fs.length cap] 24)
  have HI := Lib.hid (hi.below hB0)
  have HK := Lib.hid (hk.below hB0)
  clear hi hk
  go_enter Try.func34, Try.ntmps34
  go_wp2_with fail
  generalize w.alloc (.cells #[.int .i64 r.len, .slice sa r.fs.length cap] 24) = W0 at *
  refine (lay_err _ _ r ks _ ⟨_, rfl, HI.out⟩ HK.out he hl hl2).mono ?_
  rintro e w1 ⟨rfl, hb1⟩
  have HE : (bothErr r ks != 0) = true := by simpa using he
  have HB := Lib.hid (bC hB0 hb1)
  clear he hb1 hB0 b0 HI HK
  go_wp2
  go_ret2
  exact ⟨rfl, HB.out⟩

set_option maxRecDepth 100000 in
set_option maxHeartbeats 4000000 in
theorem Cost_err (v kv : Value) (r : RibD) (ks : List KindD) (i : Int) (w : World) (hv : RibAt w v r) (hk : KindsAt w kv ks) (he : bothErr r ks ≠ 0) (hl : r.fs.length ≤ 1000) (hl2 : ks.length ≤ 1000) :
    Calls Try.prog 36 #[v, kv, .int .i64 i] w fun e w' => e = .returned (.tuple #[.int .i64 0, .int .i64 (bothErr r ks)]) ∧ Below w.heap.size w w' := by
  obtain ⟨sv, rfl, hi⟩ := hv
  obtain ⟨sa, cap, rfl⟩ := hi.slice
  obtain ⟨ka, kcap, rfl⟩ := hk.slice
  have hB0 := below1 w (.cells #[.int .i64 r.len, .slice sa r.fs.length cap] 24)
  have b0 := Blk.new w (.cells #[.int .i64 r.len, .slice sa r.fs.length cap] 24)
  have HI := Lib.hid (hi.below hB0)
  have HK := Lib.hid (hk.below hB0)
  clear hi hk
  go_enter Try.func36, Try.ntmps36
  go_wp2_with fail
  generalize w.alloc (.cells #[.int .i64 r.len, .slice sa r.fs.length cap] 24) = W0 at *
  refine (lay_err _ _ r ks _ ⟨_, rfl, HI.out⟩ HK.out he hl hl2).mono ?_
  rintro e w1 ⟨rfl, hb1⟩
  have HE : (bothErr r ks != 0) = true := by simpa using he
  have HB := Lib.hid (bC hB0 hb1)
  clear he hb1 hB0 b0 HI HK
  go_wp2
  go_ret2
  exact ⟨rfl, HB.out⟩

set_option maxRecDepth 100000 in
set_option maxHeartbeats 4000000 in
theorem CheckCuts_err (v kv : Value) (r : RibD) (ks : List KindD) (cv : Value) (w : World) (hv : RibAt w v r) (hk : KindsAt w kv ks) (he : bothErr r ks ≠ 0) (hl : r.fs.length ≤ 1000) (hl2 : ks.length ≤ 1000) :
    Calls Try.prog 18 #[v, kv, cv] w fun e w' => e = .returned (.tuple #[.int .i64 0, .int .i64 (bothErr r ks)]) ∧ Below w.heap.size w w' := by
  obtain ⟨sv, rfl, hi⟩ := hv
  obtain ⟨sa, cap, rfl⟩ := hi.slice
  obtain ⟨ka, kcap, rfl⟩ := hk.slice
  have hB0 := below1 w (.cells #[.int .i64 r.len, .slice sa r.fs.length cap] 24)
  have b0 := Blk.new w (.cells #[.int .i64 r.len, .slice sa r.fs.length cap] 24)
  have HI := Lib.hid (hi.below hB0)
  have HK := Lib.hid (hk.below hB0)
  clear hi hk
  go_enter Try.func18, Try.ntmps18
  go_wp2_with fail
  generalize w.alloc (.cells #[.int .i64 r.len, .slice sa r.fs.length cap] 24) = W0 at *
  refine (lay_err _ _ r ks _ ⟨_, rfl, HI.out⟩ HK.out he hl hl2).mono ?_
  rintro e w1 ⟨rfl, hb1⟩
  have HE : (bothErr r ks != 0) = true := by simpa using he
  have HB := Lib.hid (bC hB0 hb1)
  clear he hb1 hB0 b0 HI HK
  go_wp2
  go_ret2
  exact ⟨rfl, HB.out⟩

set_option maxRecDepth 100000 in
set_option maxHeartbeats 4000000 in
theorem Worth_ok (v kv : Value) (r : RibD) (ks : List KindD) (w : World) (hv : RibAt w v r) (hk : KindsAt w kv ks) (hr : RibOk r) (hks : KindsOk ks) :
    Calls Try.prog 24 #[v, kv] w fun e w' => e = .returned (.tuple #[.int .i64 (dn (tabOf r ks) 0), .int .i64 0]) ∧ Below w.heap.size w w' := by
  obtain ⟨sv, rfl, hi⟩ := hv
  obtain ⟨sa, cap, rfl⟩ := hi.slice
  obtain ⟨ka, kcap, rfl⟩ := hk.slice
  have hB0 := below1 w (.cells #[.int .i64 r.len, .slice sa r.fs.length cap] 24)
  have b0 := Blk.new w (.cells #[.int .i64 r.len, .slice sa r.fs.length cap] 24)
  have HI := Lib.hid (hi.below hB0)
  have HK := Lib.hid (hk.below hB0)
  clear hi hk
  go_enter Try.func24, Try.ntmps24
  go_wp2_with fail
  generalize w.alloc (.cells #[.int .i64 r.len, .slice sa r.fs.length cap] 24) = W0 at *
  have HRK := Lib.hid (And.intro hr hks)
  have hfc := hr.count
  have hl1 := hr.l1
  have hl2 := hr.l2
  have hk6 := hks.1
  have hokt := tabOf_ok (r := r) (ks := ks) (by omega) hks
  have HOK := Lib.hid hokt
  refine (lay_ok _ _ r ks _ ⟨_, rfl, HI.out⟩ HK.out hr hks).mono ?_
  rintro e w1 ⟨T, M, rfl, hla, hT, hM, hb1⟩
  have HB1 := Lib.hid (bC hB0 hb1)
  have HL1 := Lib.hid hla
  replace b0 := b0.below hb1
  clear hb1 hB0 hr hks hla HI HK hokt
  have HU := Lib.hid (show Ux (tabOf r ks) (r.len.toNat + 1) r.len.toNat = dn (tabOf r ks) 0 by
    unfold Ux
    rw [if_pos (by omega)]
    exact up_all HOK.out)
  go_wp2_with fail
  refine (worth_any T M r ks _ _ HL1.out.1.tab HRK.out.1 HL1.out.1.up).mono ?_
  rintro e w2 ⟨rfl, hb2⟩
  rw [HU.out]
  have HB2 := Lib.hid (bC HB1.out hb2)
  clear hb2
  go_wp2
  go_ret2
  exact ⟨rfl, HB2.out⟩

set_option maxRecDepth 100000 in
set_option maxHeartbeats 4000000 in
theorem Count_ok (v kv : Value) (r : RibD) (ks : List KindD) (w : World) (hv : RibAt w v r) (hk : KindsAt w kv ks) (hr : RibOk r) (hks : KindsOk ks) :
    Calls Try.prog 28 #[v, kv] w fun e w' => e = .returned (.tuple #[.int .i64 (many (tabOf r ks) 0), .int .i64 0]) ∧ Below w.heap.size w w' := by
  obtain ⟨sv, rfl, hi⟩ := hv
  obtain ⟨sa, cap, rfl⟩ := hi.slice
  obtain ⟨ka, kcap, rfl⟩ := hk.slice
  have hB0 := below1 w (.cells #[.int .i64 r.len, .slice sa r.fs.length cap] 24)
  have b0 := Blk.new w (.cells #[.int .i64 r.len, .slice sa r.fs.length cap] 24)
  have HI := Lib.hid (hi.below hB0)
  have HK := Lib.hid (hk.below hB0)
  clear hi hk
  go_enter Try.func28, Try.ntmps28
  go_wp2_with fail
  generalize w.alloc (.cells #[.int .i64 r.len, .slice sa r.fs.length cap] 24) = W0 at *
  have HRK := Lib.hid (And.intro hr hks)
  have hfc := hr.count
  have hl1 := hr.l1
  have hl2 := hr.l2
  have hk6 := hks.1
  have hokt := tabOf_ok (r := r) (ks := ks) (by omega) hks
  have HOK := Lib.hid hokt
  refine (lay_ok _ _ r ks _ ⟨_, rfl, HI.out⟩ HK.out hr hks).mono ?_
  rintro e w1 ⟨T, M, rfl, hla, hT, hM, hb1⟩
  have HB1 := Lib.hid (bC hB0 hb1)
  have HL1 := Lib.hid hla
  replace b0 := b0.below hb1
  clear hb1 hB0 hr hks hla HI HK hokt
  have y0 := HL1.out.wy (Nat.zero_le _) hl2
  rw [ways_start] at y0
  go_wp2
  go_ret2
  exact ⟨rfl, HB1.out⟩

end Go.Proofs.Ytnkeikhkafbokaa
