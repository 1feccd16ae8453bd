import Derived.Test.YtnkeikhkafbokaaQm
import Derived.Test.YtnkeikhkafbokaaQk
import Derived.Test.YtnkeikhkafbokaaQl
namespace Go.Proofs.Ytnkeikhkafbokaa
open Go.RowKit Go.Dag Go.Sort

/-! ## The program: sums of units -/
set_option maxHeartbeats 400000 in
theorem sums_any (sa : Option Addr) (n cap : Nat) (w : World) :
    Calls Try.prog 70 #[.slice sa n cap] w fun e w' => e = .returned (.func (.func 78) #[] #[.pointer (some ⟨w.heap.size, 0, none⟩)]) ∧ w.alloc (.cells #[.slice sa n cap] 39) = w' := by
  have hmf : ∀ (fn : Fn) (first cap : Array Value) (w : World), (Instr.makeFunc fn first cap).run Try.prog w = .ok (.func fn first cap) w := fun _ _ _ _ => rfl
  go_enter Try.func70, Try.ntmps70
  go_wp2
  go_ret
  exact ⟨rfl, rfl⟩
set_option maxRecDepth 100000 in
set_option maxHeartbeats 2000000 in
theorem sums1_any (q b off cap a d : Nat) (l : List Int) (w : World) (hq : w.cell? ⟨q, 0, none⟩ = some (.slice (some ⟨b, off, none⟩) l.length cap)) (hcap : l.length ≤ cap)
    (hc : ∀ i (h : i < l.length), w.cell? ⟨b, off + i, none⟩ = some (.int .i64 l[i])) (hd : 0 < d) (had : a + d ≤ l.length) (hl : l.length ≤ 100) (hok : okPrices l = true) :
    Calls Try.prog 78 #[.int .i64 a, .int .i64 ((a + d : Nat) : Int), .pointer (some ⟨q, 0, none⟩)] w fun e w' => e = .returned (.int .i64 (psum (priceF l) a d)) ∧ w = w' := by
  have HC := Lib.hid hc
  have HOK := Lib.hid hok
  clear hc hok
  go_enter Try.func78, Try.ntmps78
  go_wp2
  rw [Nat.add_sub_cancel_left]
  go_loop [6, 14] (fun sm s => ∃ k : Nat, k ≤ d ∧ s = .int .i64 k ∧ sm = .int .i64 (psum (priceF l) a k)) (fun _ s => d - (intOf s).toNat)
  case atStart => exact ⟨0, Nat.zero_le _, rfl, rfl⟩
  case round =>
    obtain ⟨k, hk, rfl, rfl⟩ := hrel
    have hsd := psum_bd HOK.out a k
    by_cases hlt : k < d
    · have x1 := HC.out (a + k) (by omega)
      rw [← Nat.add_assoc] at x1
      have HSD := Lib.hid (show psum (priceF l) a (k + 1) = psum (priceF l) a k + l[a + k] by rw [psum_succ, priceF_get])
      have hle := okPrices_get HOK.out (a + k)
      rw [priceF_get (show a + k < l.length by omega)] at hle
      have ww3 : IntKind.i64.wrap (psum (priceF l) a k + l[a + k]) = psum (priceF l) a k + l[a + k] := IntWalk.i64_in _ (by omega)
      go_wp2
      go_round
      case rel => exact ⟨k + 1, by omega, by go_num, by rw [HSD.out]⟩
      case measure => simp [intOf]; omega
    · obtain rfl : k = d := by omega
      go_wp2
      go_ret
      exact ⟨rfl, rfl⟩

/-! ## The program: a ribbon on the table -/
abbrev sumsV (q : Nat) : Value := .func (.func 78) #[] #[.pointer (some ⟨q, 0, none⟩)]
def marks (r : RibD) : List Int := (List.range r.len.toNat).map fun (u : Nat) => if isF r (u : Int) = true then 1 else 0
theorem marks_len (r : RibD) : (marks r).length = r.len.toNat := by simp [marks]
theorem marks_get {r : RibD} {u : Nat} (hu : u < r.len.toNat) : priceF (marks r) u = if isF r (u : Int) = true then 1 else 0 := by
  unfold priceF marks
  rw [List.getD_eq_getElem?_getD, List.getElem?_map, List.getElem?_range hu]
  rfl
theorem marks_ok (r : RibD) : okPrices (marks r) = true := by
  unfold okPrices marks
  rw [List.all_eq_true]
  intro x hx
  obtain ⟨u, _, rfl⟩ := List.mem_map.1 hx
  split <;> decide
theorem marks_sum {r : RibD} {a n : Nat} (h : a + n ≤ r.len.toNat) : psum (priceF (marks r)) a n = nf r a n := by
  unfold psum nf
  refine isum_same fun u hu => ?_
  have := List.mem_range.1 hu
  rw [marks_get (by omega)]
structure TabIn (w : World) (T M : Nat) (r : RibD) (ks : List KindD) (kb koff kcap q mb moff mcap : Nat) : Prop where
  c0 : w.cell? ⟨T, 0, none⟩ = some (.int .i64 r.len)
  c2 : w.cell? ⟨T, 2, none⟩ = some (.slice (some ⟨kb, koff, none⟩) ks.length kcap)
  c3 : w.cell? ⟨T, 3, none⟩ = some (sumsV q)
  kin : ∀ i (h : i < ks.length), w.cell? ⟨kb, koff + i * 3, none⟩ = some (.int .i64 ks[i].w) ∧ w.cell? ⟨kb, koff + i * 3 + 1, none⟩ = some (.int .i64 ks[i].p) ∧ w.cell? ⟨kb, koff + i * 3 + 2, none⟩ = some (.int .i64 ks[i].m)
  qc : w.cell? ⟨q, 0, none⟩ = some (.slice (some ⟨mb, moff, none⟩) (marks r).length mcap)
  mc : ∀ i (h : i < (marks r).length), w.cell? ⟨mb, moff + i, none⟩ = some (.int .i64 (marks r)[i])
  cap : (marks r).length ≤ mcap
  cap2 : mcap ≤ 1000000
  nk : kb ≠ T ∧ kb ≠ M
  nq : q ≠ T ∧ q ≠ M
  nm : mb ≠ T ∧ mb ≠ M
/-- A table at T, whose map is M: the ribbon's length, the kinds, the faults. -/
def TabAt (w : World) (T M : Nat) (r : RibD) (ks : List KindD) : Prop := ∃ kb koff kcap q mb moff mcap, TabIn w T M r ks kb koff kcap q mb moff mcap
theorem TabIn.below {w w' : World} {T M : Nat} {r : RibD} {ks : List KindD} {kb koff kcap q mb moff mcap : Nat} (h : TabIn w T M r ks kb koff kcap q mb moff mcap) (hb : Below w.heap.size w w') : TabIn w' T M r ks kb koff kcap q mb moff mcap :=
  ⟨cellB h.c0 hb, cellB h.c2 hb, cellB h.c3 hb, fun i hi => ⟨cellB (h.kin i hi).1 hb, cellB (h.kin i hi).2.1 hb, cellB (h.kin i hi).2.2 hb⟩, cellB h.qc hb, fun i hi => cellB (h.mc i hi) hb, h.cap, h.cap2, h.nk, h.nq, h.nm⟩
theorem TabAt.below {w w' : World} {T M : Nat} {r : RibD} {ks : List KindD} (h : TabAt w T M r ks) (hb : Below w.heap.size w w') : TabAt w' T M r ks := by
  obtain ⟨kb, koff, kcap, q, mb, moff, mcap, h⟩ := h
  exact ⟨_, _, _, _, _, _, _, h.below hb⟩
abbrev shV (a : Int) (i : Int) : Value := .agg #[.int .i64 a, .int .i64 i]
def canI (r : RibD) (ks : List KindD) (a : Int) (i : Nat) : Bool := decide (0 ≤ a) && canB r (kd ks i) a.toNat
def UpAt (w : World) (T : Nat) (U : Nat → Int) : Prop := ∀ p, p < 25 → w.cell? ⟨T, 4 + p, none⟩ = some (.int .i64 (U p))
theorem UpAt.below {w w' : World} {T : Nat} {U : Nat → Int} (h : UpAt w T U) (hb : Below w.heap.size w w') : UpAt w' T U := fun p hp => cellB (h p hp) hb

set_option maxRecDepth 100000 in
set_option maxHeartbeats 4000000 in
theorem price_any (T M : Nat) (r : RibD) (ks : List KindD) (a : Int) (i : Nat) (w : World) (hT : TabAt w T M r ks) (hr : RibOk r) (hks : KindsOk ks) (hi : i < ks.length) :
    Calls Try.prog 57 #[.pointer (some ⟨T, 0, none⟩), shV a i] w fun e w' => e = .returned (.int .i64 (kd ks i).p) ∧ Below w.heap.size w w' := by
  obtain ⟨kb, koff, kcap, q, mb, moff, mcap, ht⟩ := hT
  have hB0 := below1 w (.cells #[.int .i64 a, .int .i64 i] 56)
  have b0 := Blk.new w (.cells #[.int .i64 a, .int .i64 i] 56)
  have HT := Lib.hid (ht.below hB0)
  have hTl := lt_of_cell ht.c0
  have hk6 := hks.1
  have hl1 := hr.l1
  have hl2 := hr.l2
  clear ht
  have hkd := kd_get hi
  have hko := kd_ok hks hi
  rw [hkd] at hko
  have kw1 := hko.w1
  have kw2 := hko.w2
  have kp1 := hko.p1
  have kp2 := hko.p2
  have HKD := Lib.hid hkd
  clear hkd hko
  go_enter Try.func57, Try.ntmps57
  go_wp2_with fail
  generalize w.alloc (.cells #[.int .i64 a, .int .i64 i] 56) = W0 at *
  have s0 := b0.cell 0
  have s1 := b0.cell 1
  simp at s0 s1
  obtain ⟨y1, y2, y3⟩ := HT.out.kin i hi
  have t2 := HT.out.c2
  go_quiet (fail)
  go_wp2
  go_ret
  exact ⟨ret_int (by rw [HKD.out]), below_drewN hB0 _⟩

set_option maxRecDepth 100000 in
set_option maxHeartbeats 4000000 in
theorem end_any (T M : Nat) (r : RibD) (ks : List KindD) (a : Int) (i : Nat) (w : World) (hT : TabAt w T M r ks) (hr : RibOk r) (hks : KindsOk ks) (hi : i < ks.length) (ha : -1000 ≤ a) (ha2 : a ≤ 1000) :
    Calls Try.prog 58 #[.pointer (some ⟨T, 0, none⟩), shV a i] w fun e w' => e = .returned (.int .i64 (a + (kd ks i).w)) ∧ Below w.heap.size w w' := by
  obtain ⟨kb, koff, kcap, q, mb, moff, mcap, ht⟩ := hT
  have hB0 := below1 w (.cells #[.int .i64 a, .int .i64 i] 56)
  have b0 := Blk.new w (.cells #[.int .i64 a, .int .i64 i] 56)
  have HT := Lib.hid (ht.below hB0)
  have hTl := lt_of_cell ht.c0
  have hk6 := hks.1
  have hl1 := hr.l1
  have hl2 := hr.l2
  clear ht
  have hkd := kd_get hi
  have hko := kd_ok hks hi
  rw [hkd] at hko
  have kw1 := hko.w1
  have kw2 := hko.w2
  have kp1 := hko.p1
  have kp2 := hko.p2
  have HKD := Lib.hid hkd
  clear hkd hko
  go_enter Try.func58, Try.ntmps58
  go_wp2_with fail
  generalize w.alloc (.cells #[.int .i64 a, .int .i64 i] 56) = W0 at *
  have s0 := b0.cell 0
  have s1 := b0.cell 1
  simp at s0 s1
  obtain ⟨y1, y2, y3⟩ := HT.out.kin i hi
  have t2 := HT.out.c2
  have ww : IntKind.i64.wrap (a + ks[i].w) = a + ks[i].w := IntWalk.i64_in _ (by omega)
  go_quiet (fail)
  go_wp2
  go_ret
  exact ⟨ret_int (by rw [HKD.out]), below_drewN hB0 _⟩

set_option maxRecDepth 100000 in
set_option maxHeartbeats 4000000 in
theorem worthWith_any (T M : Nat) (r : RibD) (ks : List KindD) (a i : Nat) (U : Nat → Int) (w : World) (hT : TabAt w T M r ks) (hr : RibOk r) (hks : KindsOk ks) (hi : i < ks.length) (ha : a ≤ 24) (hU : UpAt w T U) (hu1 : 0 ≤ U a) (hu2 : U a ≤ 24000) :
    Calls Try.prog 83 #[.pointer (some ⟨T, 0, none⟩), shV a i] w fun e w' => e = .returned (.int .i64 (U a + (kd ks i).p)) ∧ Below w.heap.size w w' := by
  obtain ⟨kb, koff, kcap, q, mb, moff, mcap, ht⟩ := hT
  have hB0 := below1 w (.cells #[.int .i64 a, .int .i64 i] 56)
  have b0 := Blk.new w (.cells #[.int .i64 a, .int .i64 i] 56)
  have HT := Lib.hid (ht.below hB0)
  have hTl := lt_of_cell ht.c0
  have hk6 := hks.1
  have hl1 := hr.l1
  have hl2 := hr.l2
  clear ht
  have hkd := kd_get hi
  have hko := kd_ok hks hi
  rw [hkd] at hko
  have kw1 := hko.w1
  have kw2 := hko.w2
  have kp1 := hko.p1
  have kp2 := hko.p2
  have HKD := Lib.hid hkd
  clear hkd hko
  have HU := Lib.hid ((hU.below hB0) a (by omega))
  clear hU
  go_enter Try.func83, Try.ntmps83
  go_wp2_with fail
  generalize w.alloc (.cells #[.int .i64 a, .int .i64 i] 56) = W0 at *
  have s0 := b0.cell 0
  have s1 := b0.cell 1
  simp at s0 s1
  have u0 := HU.out
  obtain ⟨uv, huv⟩ : ∃ uv, U a = uv := ⟨_, rfl⟩
  rw [huv] at u0 hu1 hu2
  have HUV := Lib.hid huv
  clear huv
  have hP : ∀ (d : Nat) (os : Array Obj), _ := fun d os => Calls.regrown_of (price_any T M r ks (a : Int) i (grow (redrawn W0 d) os) ⟨_, _, _, _, _, _, _, HT.out.below (below_regrown W0 d os)⟩ hr hks hi)
  rw [HKD.out] at hP
  have ww : IntKind.i64.wrap (uv + ks[i].p) = uv + ks[i].p := IntWalk.i64_in _ (by omega)
  have g0 := fun d os => cell_regrown s0 d os
  have g1 := fun d os => cell_regrown s1 d os
  have g2 := fun d os => cell_regrown u0 d os
  have ha' : (a : Int) < 25 := by omega
  clear s0 s1 u0
  have hun : undef = Value.tuple #[] := rfl
  refine wp_region_quiet_below (by kernel_rfl) (by kernel_rfl) ?_
  repeat (
    with_reducible refine wpQuiet_step (fun K hK => ?_)
    go_simp
    first
      | (with_reducible refine hK _ ?_; clear hK K)
      | (apply Exists.intro; refine ⟨fun _ => ?_, hK _ ?_⟩; (go_at_call 57; exact hP _ _); clear hK K))
  rw [← hun]
  clear hun
  refine wpQuiet_nil ?_
  intro _ hw'
  obtain ⟨⟨dq, osq⟩, hw''⟩ := hw'
  subst hw''
  have HB := Lib.hid (bC hB0 (below_regrown W0 dq osq))
  clear g0 g1 g2 hP ww
  generalize grow (redrawn W0 dq) osq = w3 at *
  go_wp2
  go_ret
  exact ⟨ret_int (by rw [HKD.out, HUV.out]), HB.out⟩

set_option maxRecDepth 100000 in
set_option maxHeartbeats 4000000 in
theorem worth_any (T M : Nat) (r : RibD) (ks : List KindD) (U : Nat → Int) (w : World) (hT : TabAt w T M r ks) (hr : RibOk r) (hU : UpAt w T U) :
    Calls Try.prog 64 #[.pointer (some ⟨T, 0, none⟩)] w fun e w' => e = .returned (.int .i64 (U r.len.toNat)) ∧ Below w.heap.size w w' := by
  obtain ⟨kb, koff, kcap, q, mb, moff, mcap, ht⟩ := hT
  have hl1 := hr.l1
  have hl2 := hr.l2
  obtain ⟨L, hL⟩ : ∃ L : Nat, r.len = (L : Int) := ⟨r.len.toNat, by omega⟩
  have t0 := ht.c0
  rw [hL] at t0
  have u0 := hU L (by omega)
  have hL25 : (L : Int) < 25 := by omega
  have HL := Lib.hid (show r.len.toNat = L by omega)
  clear ht hU hL
  go_enter Try.func64, Try.ntmps64
  go_wp2_with fail
  go_quiet (fail)
  go_wp2
  go_ret
  exact ⟨ret_int (by rw [HL.out]), below_drewN (Below.refl _ _) _⟩

end Go.Proofs.Ytnkeikhkafbokaa

namespace Go.Proofs.Ytnkeikhkafbokaa
open Go.RowKit Go.Dag Go.Sort

/-! ## The program: which sheets can be cut -/
theorem canI_neg {r : RibD} {ks : List KindD} {a : Int} {i : Nat} (h : a < 0) : canI r ks a i = false := by unfold canI; rw [decide_eq_false (by omega)]; rfl
theorem canI_nat {r : RibD} {ks : List KindD} {a i : Nat} : canI r ks (a : Int) i = canB r (kd ks i) a := by unfold canI; rw [decide_eq_true (by omega), Int.toNat_natCast]; rfl

set_option maxRecDepth 100000 in
set_option maxHeartbeats 4000000 in
theorem canCut_any (T M : Nat) (r : RibD) (ks : List KindD) (a : Int) (i : Nat) (w : World) (hT : TabAt w T M r ks) (hr : RibOk r) (hks : KindsOk ks) (hi : i < ks.length) (ha : -1000 ≤ a) (ha2 : a ≤ 1000) :
    Calls Try.prog 56 #[.pointer (some ⟨T, 0, none⟩), shV a i] w fun e w' => e = .returned (.bool (canI r ks a i)) ∧ Below w.heap.size w w' := by
  obtain ⟨kb, koff, kcap, q, mb, moff, mcap, ht⟩ := hT
  have hB0 := below1 w (.cells #[.int .i64 a, .int .i64 i] 56)
  have b0 := Blk.new w (.cells #[.int .i64 a, .int .i64 i] 56)
  have HT := Lib.hid (ht.below hB0)
  have hTl := lt_of_cell ht.c0
  have hk6 := hks.1
  have hl1 := hr.l1
  have hl2 := hr.l2
  clear ht
  have hkd := kd_get hi
  have hko := kd_ok hks hi
  rw [hkd] at hko
  have kw1 := hko.w1
  have kw2 := hko.w2
  have kp1 := hko.p1
  have kp2 := hko.p2
  have HKD := Lib.hid hkd
  clear hkd hko
  have HRK := Lib.hid (And.intro hr hks)
  clear hr hks
  go_enter Try.func56, Try.ntmps56
  go_wp2_with fail
  generalize w.alloc (.cells #[.int .i64 a, .int .i64 i] 56) = W0 at *
  have s0 := b0.cell 0
  have s1 := b0.cell 1
  simp at s0 s1
  by_cases q1 : a < 0
  · have d1 : decide (a < 0) = true := by simpa using q1
    have HT0 := Lib.hid (canI_neg (r := r) (ks := ks) (i := i) q1)
    have g0 := fun d os => cell_regrown s0 d os
    have g1 := fun d os => cell_regrown s1 d os
    clear s0 s1 q1
    have hun : undef = Value.tuple #[] := rfl
    refine wp_region_quiet_below (by kernel_rfl) (by kernel_rfl) ?_
    repeat (
      with_reducible refine wpQuiet_step (fun K hK => ?_)
      go_simp
      first
        | (with_reducible refine hK _ ?_; clear hK K)
        | (apply Exists.intro; refine ⟨fun _ => ?_, hK _ ?_⟩; (fail); clear hK K))
    rw [← hun]
    clear hun
    refine wpQuiet_nil ?_
    intro _ hw'
    obtain ⟨⟨dq, osq⟩, hw''⟩ := hw'
    subst hw''
    have HB := Lib.hid (bC hB0 (below_regrown W0 dq osq))
    clear g0 g1
    generalize grow (redrawn W0 dq) osq = w3 at *
    go_wp2
    go_ret
    exact ⟨ret_bool HT0.out.symm, HB.out⟩
  have d1 : decide (a < 0) = false := by simpa using q1
  obtain ⟨an, rfl⟩ : ∃ an : Nat, a = (an : Int) := ⟨a.toNat, by omega⟩
  obtain ⟨Wn, hWn⟩ : ∃ Wn : Nat, ks[i].w = (Wn : Int) := ⟨ks[i].w.toNat, by omega⟩
  have HWN := Lib.hid hWn
  have HCI := Lib.hid (canI_nat (r := r) (ks := ks) (a := an) (i := i))
  rw [HKD.out] at HCI
  clear q1
  have hE : ∀ (d : Nat) (os : Array Obj), _ := fun d os => Calls.regrown_of (end_any T M r ks (an : Int) i (grow (redrawn W0 d) os) ⟨_, _, _, _, _, _, _, HT.out.below (below_regrown W0 d os)⟩ HRK.out.1 HRK.out.2 hi (by omega) ha2)
  rw [HKD.out, hWn] at hE
  rw [hWn] at kw1 kw2
  have t0 := HT.out.c0
  have g0 := fun d os => cell_regrown s0 d os
  have g1 := fun d os => cell_regrown s1 d os
  have g2 := fun d os => cell_regrown t0 d os
  clear s0 s1 t0 hWn
  by_cases q2 : r.len < (an : Int) + (Wn : Int)
  · have d2 : decide (r.len < (an : Int) + (Wn : Int)) = true := by simpa using q2
    have HT0 := Lib.hid (canB_far (r := r) (k := ks[i]) (a := an) (by rw [HWN.out]; exact q2))
    clear q2
    have hun : undef = Value.tuple #[] := rfl
    refine wp_region_quiet_below (by kernel_rfl) (by kernel_rfl) ?_
    repeat (
      with_reducible refine wpQuiet_step (fun K hK => ?_)
      go_simp
      first
        | (with_reducible refine hK _ ?_; clear hK K)
        | (apply Exists.intro; refine ⟨fun _ => ?_, hK _ ?_⟩; (go_at_call 58; exact hE _ _); clear hK K))
    rw [← hun]
    clear hun
    refine wpQuiet_nil ?_
    intro _ hw'
    obtain ⟨⟨dq, osq⟩, hw''⟩ := hw'
    subst hw''
    have HB := Lib.hid (bC hB0 (below_regrown W0 dq osq))
    clear g0 g1 g2 hE
    generalize grow (redrawn W0 dq) osq = w3 at *
    go_wp2
    go_ret
    exact ⟨ret_bool (by rw [HCI.out, HT0.out]), HB.out⟩
  · have d2 : decide (r.len < (an : Int) + (Wn : Int)) = false := by simpa using q2
    have HT0 := Lib.hid (canB_near (r := r) (k := ks[i]) (a := an) (by rw [HWN.out]; omega))
    have HN := Lib.hid (show psum (priceF (marks r)) an Wn = nf r an Wn from marks_sum (by omega))
    have hml : (marks r).length = r.len.toNat := marks_len r
    have HML := Lib.hid hml
    have hfit : an + Wn ≤ (marks r).length := by omega
    have hm100 : (marks r).length ≤ 100 := by omega
    clear q2 hml
    have hun : undef = Value.tuple #[] := rfl
    refine wp_region_quiet_below (by kernel_rfl) (by kernel_rfl) ?_
    repeat (
      with_reducible refine wpQuiet_step (fun K hK => ?_)
      go_simp
      first
        | (with_reducible refine hK _ ?_; clear hK K)
        | (apply Exists.intro; refine ⟨fun _ => ?_, hK _ ?_⟩; (go_at_call 58; exact hE _ _); clear hK K))
    rw [← hun]
    clear hun
    refine wpQuiet_nil ?_
    intro _ hw'
    obtain ⟨⟨dq, osq⟩, hw''⟩ := hw'
    subst hw''
    have hbx := below_regrown W0 dq osq
    have HB := Lib.hid (bC hB0 hbx)
    have HT3 := Lib.hid (HT.out.below hbx)
    have b3 := b0.below hbx
    have s0 := b3.cell 0
    have s1 := b3.cell 1
    simp at s0 s1
    clear g0 g1 g2 hE hbx
    generalize grow (redrawn W0 dq) osq = w3 at *
    have hE : ∀ (d : Nat) (os : Array Obj), _ := fun d os => Calls.regrown_of (end_any T M r ks (an : Int) i (grow (redrawn w3 d) os) ⟨_, _, _, _, _, _, _, HT3.out.below (below_regrown w3 d os)⟩ HRK.out.1 HRK.out.2 hi (by omega) ha2)
    rw [HKD.out, HWN.out] at hE
    have hS : ∀ (d : Nat) (os : Array Obj), _ := fun d os => Calls.regrown_of ((sums1_any q mb moff mcap an Wn (marks r) (grow (redrawn w3 d) os) (HT3.out.below (below_regrown w3 d os)).qc HT3.out.cap (HT3.out.below (below_regrown w3 d os)).mc (by omega) hfit hm100 (marks_ok r)).mono fun e w' h => ⟨h.1, by rw [← h.2]; exact Below.refl _ _⟩)
    rw [HN.out, Int.natCast_add] at hS
    obtain ⟨y1, y2, y3⟩ := HT3.out.kin i hi
    have t2 := HT3.out.c2
    have t3 := HT3.out.c3
    obtain ⟨nv, hnv⟩ : ∃ nv, nf r an Wn = nv := ⟨_, rfl⟩
    rw [hnv] at hS
    have HNV := Lib.hid hnv
    clear hnv
    have g0 := fun d os => cell_regrown s0 d os
    have g1 := fun d os => cell_regrown s1 d os
    have g2 := fun d os => cell_regrown t2 d os
    have g3 := fun d os => cell_regrown t3 d os
    have g4 := fun d os => cell_regrown y3 d os
    clear s0 s1 t2 t3 y1 y2 y3 b3
    go_wp2_with fail
    have hun : undef = Value.tuple #[] := rfl
    refine wp_region_quiet_below (by kernel_rfl) (by kernel_rfl) ?_
    repeat (
      with_reducible refine wpQuiet_step (fun K hK => ?_)
      go_simp
      first
        | (with_reducible refine hK _ ?_; clear hK K)
        | (apply Exists.intro; refine ⟨fun _ => ?_, hK _ ?_⟩; (first | (go_at_call 58; exact hE _ _) | (go_at_call 78; exact hS _ _)); clear hK K))
    rw [← hun]
    clear hun
    refine wpQuiet_nil ?_
    intro _ hw'
    obtain ⟨⟨dq, osq⟩, hw''⟩ := hw'
    subst hw''
    have HB2 := Lib.hid (bC HB.out (below_regrown w3 dq osq))
    clear g0 g1 g2 g3 g4 hE hS
    generalize grow (redrawn w3 dq) osq = w5 at *
    go_wp2
    go_ret
    exact ⟨ret_bool (by rw [HCI.out, HT0.out, HWN.out, Int.toNat_natCast, HNV.out]), HB2.out⟩

end Go.Proofs.Ytnkeikhkafbokaa
