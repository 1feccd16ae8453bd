import Derived.Test.YtjbeoakikdkdaaaSk
import Derived.Test.YtjbeoakikdkdaaaSa
namespace Go.Proofs.Ytjbeoakikdkdaaa
open Go.RowKit Go.Vat Go.Sort Go.Shelf
attribute [local go_sem] Oper.semAt_some

/-! ## The reference: what windows need, loads of hours -/
theorem ret_bool {a b : Bool} (h : a = b) : Ending.returned (.bool a) = .returned (.bool b) := by rw [h]
set_option maxHeartbeats 400000 in
theorem rUp_any (n m : Int) (w : World) (h0 : 0 ≤ n) (h1 : n ≤ 1000) (hm : 1 ≤ m) (hm2 : m ≤ 10) :
    Calls Try.prog 80 #[.int .i64 n, .int .i64 m] w fun e w' => e = .returned (.int .i64 (up n m)) ∧ w = w' := by
  have q1 : IntKind.i64.wrap (n + m) = n + m := IntWalk.i64_in _ (by omega)
  have q2 : IntKind.i64.wrap (n + m - 1) = n + m - 1 := IntWalk.i64_in _ (by omega)
  have e := up_tdiv h0 hm
  have hu0 := up_nonneg hm h0
  have hu1 := up_le_self hm h0
  obtain ⟨q, hq⟩ : ∃ q, (n + m - 1).tdiv m = q := ⟨_, rfl⟩
  have HE := Lib.hid (show q = up n m by rw [← hq]; exact e)
  have wq : IntKind.i64.wrap q = q := IntWalk.i64_in _ (by rw [HE.out]; omega)
  have hq2 : (n + m - 1) / m = q := by rw [← hq, Int.tdiv_eq_ediv_of_nonneg (by omega)]
  go_enter Try.func80, Try.ntmps80
  go_wp2
  go_ret
  exact ⟨rfl, rfl⟩
set_option maxHeartbeats 800000 in
theorem risWindow_any (x y : Int) (w : World) :
    Calls Try.prog 59 #[.agg #[.int .i64 x, .int .i64 y]] w fun e w' => e = .returned (.bool (okWin (x, y))) ∧ Below w.heap.size w w' := by
  by_cases h1 : 0 ≤ x
  case neg =>
    have d1 : decide (x ≥ 0) = false := by simp; omega
    have d2 : decide (0 ≤ x) = false := by simp; omega
    have HT := Lib.hid (show false = okWin (x, y) by unfold okWin; simp only; rw [d2]; rfl)
    go_enter Try.func59, Try.ntmps59
    go_wp2
    go_ret
    exact ⟨ret_bool HT.out, below1 _ _⟩
  have d1 : decide (x ≥ 0) = true := by simp; omega
  have d2 : decide (0 ≤ x) = true := by simp; omega
  by_cases h2 : x ≤ y
  case neg =>
    have d3 : decide (x ≤ y) = false := by simp; omega
    have HT := Lib.hid (show false = okWin (x, y) by unfold okWin; simp only; rw [d2, d3]; rfl)
    clear h1 h2
    go_enter Try.func59, Try.ntmps59
    go_wp2
    go_ret
    exact ⟨ret_bool HT.out, below1 _ _⟩
  have d3 : decide (x ≤ y) = true := by simp; omega
  obtain ⟨B, hB⟩ : ∃ B, decide (y ≤ 100) = B := ⟨_, rfl⟩
  have HT := Lib.hid (show B = okWin (x, y) by unfold okWin; simp only; rw [d2, d3, hB]; rfl)
  clear h1 h2
  go_enter Try.func59, Try.ntmps59
  go_wp2
  go_ret
  exact ⟨ret_bool HT.out, below1 _ _⟩
theorem YardAt.blk {W : World} {k : Nat} {y : YardD} {v : Value} {T : TypeId} (h : Blk W k (.cells #[.int .i64 y.load, v] T)) : W.cell? ⟨k, 0, none⟩ = some (.int .i64 y.load) ∧ W.cell? ⟨k, 1, none⟩ = some v := by
  refine ⟨?_, ?_⟩ <;> rw [h.cell] <;> rfl
set_option maxRecDepth 100000 in
set_option maxHeartbeats 4000000 in
theorem rNeedOf_any (v : Value) (y : YardD) (a b : Int) (w : World) (hv : YardAt w v y) (hy : y.Ok) :
    Calls Try.prog 60 #[v, .agg #[.int .i64 a, .int .i64 b]] w fun e w' => e = .returned (.int .i64 (need y a b)) ∧ Below w.heap.size w w' := by
  obtain ⟨sv, rfl, hp⟩ := hv
  obtain ⟨sa, cap, rfl⟩ := hp.slice
  have hB0 := below2 w (.cells #[.int .i64 y.load, .slice sa y.logs.length cap] 24) (.cells #[.int .i64 a, .int .i64 b] 27)
  have b0 := (Blk.new w (.cells #[.int .i64 y.load, .slice sa y.logs.length cap] 24)).alloc (.cells #[.int .i64 a, .int .i64 b] 27)
  have b1 := Blk.new (w.alloc (.cells #[.int .i64 y.load, .slice sa y.logs.length cap] 24)) (.cells #[.int .i64 a, .int .i64 b] 27)
  rw [World.size_alloc] at b1
  have HP := Lib.hid (hp.below hB0)
  have HY := Lib.hid hy
  have hl10 := hy.count
  clear hp hy
  go_enter Try.func60, Try.ntmps60
  go_wp2
  generalize (w.alloc (.cells #[.int .i64 y.load, .slice sa y.logs.length cap] 24)).alloc (.cells #[.int .i64 a, .int .i64 b] 27) = W0 at *
  go_loopw [5, 6] (fun n i wr => ∃ k : Nat, k ≤ y.logs.length ∧ i = .int .i64 k ∧ n = .int .i64 ((y.logs.take k).countP (inW a b) : Nat) ∧ Below W0.heap.size W0 wr) (fun _ i _ => y.logs.length - (intOf i).toNat)
  case atStart => exact ⟨0, Nat.zero_le _, rfl, by simp, Below.refl _ _⟩
  case round =>
    obtain ⟨k, hk, rfl, rfl, hB⟩ := hrel
    have c0 := (b0.below hB).cell 0
    have c1 := (b0.below hB).cell 1
    have x0 := (b1.below hB).cell 0
    have x1 := (b1.below hB).cell 1
    simp at c0 c1 x0 x1
    have hcn : (y.logs.take k).countP (inW a b) ≤ 10 := by
      have := List.countP_le_length (p := inW a b) (l := y.logs.take k)
      rw [List.length_take] at this
      omega
    by_cases hlt : k < y.logs.length
    · obtain ⟨pb, off, rfl, hbw, hc, hc'⟩ := PairsAt.get0 (HP.out.below hB) hlt
      have HS := Lib.hid (countP_take (p := inW a b) hlt)
      obtain ⟨l1, hl1⟩ : ∃ x, y.logs[k].1 = x := ⟨_, rfl⟩
      obtain ⟨l2, hl2⟩ : ∃ x, y.logs[k].2 = x := ⟨_, rfl⟩
      have HIN := Lib.hid (show inW a b y.logs[k] = (decide (a ≤ l1) && decide (l2 ≤ b)) by unfold inW; rw [hl1, hl2])
      rw [hl1] at hc
      rw [hl2] at hc'
      clear hl1 hl2
      obtain ⟨cn, hcne⟩ : ∃ cn, (y.logs.take k).countP (inW a b) = cn := ⟨_, rfl⟩
      rw [hcne] at hcn HS ⊢
      by_cases q1 : a ≤ l1
      · by_cases q2 : l2 ≤ b
        · have d1 : decide (l1 ≥ a) = true := by simp; omega
          have d2 : decide (a ≤ l1) = true := by simp; omega
          have d3 : decide (l2 ≤ b) = true := by simp; omega
          have HS' := Lib.hid (show ((y.logs.take (k + 1)).countP (inW a b) : Int) = (cn : Int) + 1 by rw [HS.out, if_pos (by rw [HIN.out, d2, d3]; rfl)]; omega)
          go_wp2_with fail
          go_quiet (fail)
          clear d1 d2 d3 c0 c1 x0 x1 hc hc'
          go_wp2
          go_roundw
          case rel => exact ⟨k + 1, by omega, by go_num, by rw [HS'.out], below_drewN hB _⟩
          case measure => simp [intOf] <;> omega
        · have d1 : decide (l1 ≥ a) = true := by simp; omega
          have d2 : decide (a ≤ l1) = true := by simp; omega
          have d3 : decide (l2 ≤ b) = false := by simp; omega
          have HS' := Lib.hid (show ((y.logs.take (k + 1)).countP (inW a b) : Int) = (cn : Int) by rw [HS.out, if_neg (by rw [HIN.out, d2, d3]; simp)]; omega)
          go_wp2_with fail
          go_quiet (fail)
          clear d1 d2 d3 c0 c1 x0 x1 hc hc'
          go_wp2
          go_roundw
          case rel => exact ⟨k + 1, by omega, by go_num, by rw [HS'.out], below_drewN hB _⟩
          case measure => simp [intOf] <;> omega
      · have d1 : decide (l1 ≥ a) = false := by simp; omega
        have d2 : decide (a ≤ l1) = false := by simp; omega
        have HS' := Lib.hid (show ((y.logs.take (k + 1)).countP (inW a b) : Int) = (cn : Int) by rw [HS.out, if_neg (by rw [HIN.out, d2]; simp)]; omega)
        go_wp2_with fail
        go_quiet (fail)
        clear d1 d2 c0 c1 x0 x1 hc hc'
        go_wp2
        go_roundw
        case rel => exact ⟨k + 1, by omega, by go_num, by rw [HS'.out], below_drewN hB _⟩
        case measure => simp [intOf] <;> omega
    · obtain rfl : k = y.logs.length := by omega
      rw [List.take_length] at hcn ⊢
      have hy1 := HY.out.l1
      have hy2 := HY.out.l2
      have HN := Lib.hid (show up (y.logs.countP (inW a b) : Nat) y.load = need y a b from rfl)
      go_wp2_with fail
      refine (rUp_any _ y.load _ (by omega) (by omega) hy1 hy2).mono ?_
      rintro e w2 ⟨rfl, rfl⟩
      go_wp2
      go_ret
      exact ⟨ret_int HN.out, bC hB0 hB⟩
end Go.Proofs.Ytjbeoakikdkdaaa

namespace Go.Proofs.Ytjbeoakikdkdaaa
open Go.RowKit Go.Vat Go.Sort Go.Shelf
attribute [local go_sem] Oper.semAt_some

/-! ## The reference: loads of hours, valid yards -/
set_option maxRecDepth 100000 in
set_option maxHeartbeats 4000000 in
theorem rLoads_any (v xv : Value) (y : YardD) (xs : List Int) (w : World) (hv : YardAt w v y) (hx : IntsAt w xv xs) (hy : y.Ok) (hl : xs.length ≤ 1000) :
    Calls Try.prog 56 #[v, xv] w fun e w' => e = .returned (.int .i64 (N y.load xs 101)) ∧ Below w.heap.size w w' := by
  obtain ⟨sv, rfl, hp⟩ := hv
  obtain ⟨sa, cap, rfl⟩ := hp.slice
  obtain ⟨xa, xc, rfl⟩ := hx.slice
  have hB0 := below1 w (.cells #[.int .i64 y.load, .slice sa y.logs.length cap] 24)
  have b0 := Blk.new w (.cells #[.int .i64 y.load, .slice sa y.logs.length cap] 24)
  have HP := Lib.hid (hp.below hB0)
  have HX := Lib.hid (hx.below hB0)
  have HY := Lib.hid hy
  have hl1 := hy.l1
  have hl2 := hy.l2
  clear hx hy
  clear hp
  go_enter Try.func56, Try.ntmps56
  go_wp2
  generalize w.alloc (.cells #[.int .i64 y.load, .slice sa y.logs.length cap] 24) = W0 at *
  go_loopw [5, 6, 7, 8] (fun n h _ _ wr => ∃ k : Nat, k ≤ 101 ∧ h = .int .i64 k ∧ n = .int .i64 (N y.load xs k) ∧ Below W0.heap.size W0 wr) (fun _ h _ _ _ => 101 - (intOf h).toNat)
  case atStart => exact ⟨0, by omega, rfl, rfl, Below.refl _ _⟩
  case round =>
    obtain ⟨k, hk, rfl, rfl, hB⟩ := hrel
    have n1 := N_mono hl1 xs (Nat.zero_le k)
    have n2 := N_le_count hl1 xs k
    have n0 : N y.load xs 0 = 0 := rfl
    rw [n0] at n1
    by_cases hlt : k < 101
    · have d1 : decide ((k : Int) ≤ 100) = true := by simp; omega
      have HNS := Lib.hid (show N y.load xs (k + 1) = N y.load xs k + up (xs.count (k : Int)) y.load from rfl)
      have n3 := N_le_count hl1 xs (k + 1)
      have n4 := N_mono1 hl1 xs k
      obtain ⟨A, hA⟩ : ∃ A, N y.load xs k = A := ⟨_, rfl⟩
      rw [hA] at HNS n1 n2 n4 ⊢
      have HN5 := Lib.hid (And.intro n3 n4)
      clear n0 n3 n4 hA
      go_wp2
      go_loopw [7, 8] (fun n i w2 => ∃ j : Nat, j ≤ xs.length ∧ i = .int .i64 j ∧ n = .int .i64 ((xs.take j).count (k : Int) : Nat) ∧ w2 = wr) (fun _ i _ => xs.length - (intOf i).toNat)
      case atStart => exact ⟨0, Nat.zero_le _, rfl, by simp, rfl⟩
      case round =>
        obtain ⟨j, hj, rfl, rfl, rfl⟩ := hrel
        have hcn : (xs.take j).count (k : Int) ≤ 1000 := by
          have := List.count_le_length (a := (k : Int)) (l := xs.take j)
          rw [List.length_take] at this
          omega
        by_cases hjt : j < xs.length
        · obtain ⟨xb, off, xc', e, hc⟩ := (HX.out.below hB).get j hjt
          cases e
          have HS := Lib.hid (show (xs.take (j + 1)).count (k : Int) = (xs.take j).count (k : Int) + (if xs[j] = (k : Int) then 1 else 0) by
            rw [List.take_succ_eq_append_getElem hjt, List.count_append, List.count_singleton]
            simp)
          obtain ⟨x, hx⟩ : ∃ x, xs[j] = x := ⟨_, rfl⟩
          rw [hx] at hc HS
          clear hx
          by_cases q : x = (k : Int)
          · have d2 : (x == (k : Int)) = true := by simpa using q
            have HS' := Lib.hid (show (((xs.take (j + 1)).count (k : Int) : Nat) : Int) = ((xs.take j).count (k : Int) : Nat) + 1 by rw [HS.out, if_pos q]; omega)
            clear q
            go_wp2
            go_roundw
            case rel => exact ⟨j + 1, by omega, by go_num, by rw [HS'.out], trivial⟩
            case measure => simp [intOf] <;> omega
          · have d2 : (x == (k : Int)) = false := by simpa using q
            have HS' := Lib.hid (show (((xs.take (j + 1)).count (k : Int) : Nat) : Int) = ((xs.take j).count (k : Int) : Nat) by rw [HS.out, if_neg q]; omega)
            clear q
            go_wp2
            go_roundw
            case rel => exact ⟨j + 1, by omega, by go_num, by rw [HS'.out], trivial⟩
            case measure => simp [intOf] <;> omega
        · obtain rfl : j = xs.length := by omega
          rw [List.take_length] at hcn ⊢
          have c0 := (b0.below hB).cell 0
          simp at c0
          obtain ⟨B, hB2⟩ : ∃ B, N y.load xs (k + 1) = B := ⟨_, rfl⟩
          have n7 := HN5.out
          rw [hB2] at n7
          have HB2 := Lib.hid hB2
          have n8 : A + up (xs.count (k : Int)) y.load = B := by rw [← hB2, HNS.out]
          have HN8 := Lib.hid n8
          have n9 : IntKind.i64.wrap (A + up (xs.count (k : Int)) y.load) = B := by rw [n8]; exact IntWalk.i64_in _ (by omega)
          clear hB2 n8
          go_wp2_with fail
          refine (rUp_any _ y.load _ (by omega) (by omega) hl1 hl2).mono ?_
          rintro e w2 ⟨rfl, rfl⟩
          go_wp2
          go_roundw
          case rel => exact ⟨k + 1, by omega, by go_num, by rw [HB2.out], hB⟩
          case measure => simp [intOf] <;> omega
    · obtain rfl : k = 101 := by omega
      have d1 : decide (((101 : Nat) : Int) ≤ 100) = false := by decide
      go_wp2
      go_ret
      exact ⟨rfl, bC hB0 hB⟩
end Go.Proofs.Ytjbeoakikdkdaaa

namespace Go.Proofs.Ytjbeoakikdkdaaa
open Go.RowKit Go.Vat Go.Sort Go.Shelf
attribute [local go_sem] Oper.semAt_some

/-! ## The reference: right hours, what windows need -/
set_option maxRecDepth 100000 in
set_option maxHeartbeats 8000000 in
theorem rCheckHours_err (v : Value) (xv : Value) (y : YardD) (w : World) (hv : YardAt w v y) (hl : y.logs.length ≤ 1000000) (he : yardErr y ≠ 0) :
    Calls Try.prog 20 #[v, xv] w fun e w' => e = .returned (.tuple #[.int .i64 0, .int .i64 (yardErr y)]) ∧ Below w.heap.size w w' := by
  obtain ⟨sv, rfl, hp⟩ := hv
  obtain ⟨sa, cap, rfl⟩ := hp.slice
  have hB0 := below1 w (.cells #[.int .i64 y.load, .slice sa y.logs.length cap] 24)
  have B0 := Lib.hid (Blk.new w (.cells #[.int .i64 y.load, .slice sa y.logs.length cap] 24))
  have HB := Lib.hid hB0
  have HV := Lib.hid (show YardAt _ (.agg #[.int .i64 y.load, .slice sa y.logs.length cap]) y from ⟨_, rfl, hp.below hB0⟩)
  obtain ⟨E, hE⟩ : ∃ E, yardErr y = E := ⟨_, rfl⟩
  have d1 : (E != 0) = true := by rw [← hE]; simpa using he
  have HE := Lib.hid hE
  clear he hE
  rw [HE.out]
  clear hp hB0
  go_enter Try.func20, Try.ntmps20
  go_wp2_with fail
  generalize w.alloc (.cells #[.int .i64 y.load, .slice sa y.logs.length cap] 24) = W0 at *
  refine (rCheckYard_any (.agg #[.int .i64 y.load, .slice sa y.logs.length cap]) y _ HV.out hl).mono ?_
  rintro e v1 ⟨rfl, hb⟩
  replace HV := Lib.hid (HV.out.below hb)
  replace B0 := Lib.hid (B0.out.below hb)
  replace HB := Lib.hid (bC HB.out hb)
  clear hb
  rw [HE.out]
  have B0c0 := B0.out.cell 0
  have B0c1 := B0.out.cell 1
  simp at B0c0 B0c1
  go_wp2_with fail
  clear B0c0 B0c1
  refine (rCheckYard_any (.agg #[.int .i64 y.load, .slice sa y.logs.length cap]) y _ HV.out hl).mono ?_
  rintro e v2 ⟨rfl, hb⟩
  replace HV := Lib.hid (HV.out.below hb)
  replace B0 := Lib.hid (B0.out.below hb)
  replace HB := Lib.hid (bC HB.out hb)
  clear hb
  rw [HE.out]
  have B0c0 := B0.out.cell 0
  have B0c1 := B0.out.cell 1
  simp at B0c0 B0c1
  go_wp2
  go_ret2
  exact ⟨rfl, HB.out⟩
set_option maxRecDepth 100000 in
set_option maxHeartbeats 8000000 in
theorem rNeed_err (v : Value) (a b : Int) (y : YardD) (w : World) (hv : YardAt w v y) (hl : y.logs.length ≤ 1000000) (he : yardErr y ≠ 0) :
    Calls Try.prog 22 #[v, .agg #[.int .i64 a, .int .i64 b]] w fun e w' => e = .returned (.tuple #[.int .i64 0, .int .i64 (yardErr y)]) ∧ Below w.heap.size w w' := by
  obtain ⟨sv, rfl, hp⟩ := hv
  obtain ⟨sa, cap, rfl⟩ := hp.slice
  have hB0 := below2 w (.cells #[.int .i64 y.load, .slice sa y.logs.length cap] 24) (.cells #[.int .i64 a, .int .i64 b] 27)
  have B0 := Lib.hid ((Blk.new w (.cells #[.int .i64 y.load, .slice sa y.logs.length cap] 24)).alloc (.cells #[.int .i64 a, .int .i64 b] 27))
  have b1 := Blk.new (w.alloc (.cells #[.int .i64 y.load, .slice sa y.logs.length cap] 24)) (.cells #[.int .i64 a, .int .i64 b] 27)
  rw [World.size_alloc] at b1
  have B1 := Lib.hid b1
  clear b1
  have HB := Lib.hid hB0
  have HV := Lib.hid (show YardAt _ (.agg #[.int .i64 y.load, .slice sa y.logs.length cap]) y from ⟨_, rfl, hp.below hB0⟩)
  obtain ⟨E, hE⟩ : ∃ E, yardErr y = E := ⟨_, rfl⟩
  have d1 : (E != 0) = true := by rw [← hE]; simpa using he
  have HE := Lib.hid hE
  clear he hE
  rw [HE.out]
  clear hp hB0
  go_enter Try.func22, Try.ntmps22
  go_wp2_with fail
  generalize (w.alloc (.cells #[.int .i64 y.load, .slice sa y.logs.length cap] 24)).alloc (.cells #[.int .i64 a, .int .i64 b] 27) = W0 at *
  refine (rCheckYard_any (.agg #[.int .i64 y.load, .slice sa y.logs.length cap]) y _ HV.out hl).mono ?_
  rintro e v1 ⟨rfl, hb⟩
  replace HV := Lib.hid (HV.out.below hb)
  replace B0 := Lib.hid (B0.out.below hb)
  replace B1 := Lib.hid (B1.out.below hb)
  replace HB := Lib.hid (bC HB.out hb)
  clear hb
  rw [HE.out]
  have B0c0 := B0.out.cell 0
  have B0c1 := B0.out.cell 1
  have B1c0 := B1.out.cell 0
  have B1c1 := B1.out.cell 1
  simp at B0c0 B0c1 B1c0 B1c1
  go_wp2_with fail
  clear B0c0 B0c1 B1c0 B1c1
  refine (rCheckYard_any (.agg #[.int .i64 y.load, .slice sa y.logs.length cap]) y _ HV.out hl).mono ?_
  rintro e v2 ⟨rfl, hb⟩
  replace HV := Lib.hid (HV.out.below hb)
  replace B0 := Lib.hid (B0.out.below hb)
  replace B1 := Lib.hid (B1.out.below hb)
  replace HB := Lib.hid (bC HB.out hb)
  clear hb
  rw [HE.out]
  have B0c0 := B0.out.cell 0
  have B0c1 := B0.out.cell 1
  have B1c0 := B1.out.cell 0
  have B1c1 := B1.out.cell 1
  simp at B0c0 B0c1 B1c0 B1c1
  go_wp2
  go_ret2
  exact ⟨rfl, HB.out⟩
set_option maxRecDepth 100000 in
set_option maxHeartbeats 8000000 in
theorem rCheckHours_15 (v : Value) (xv : Value) (xs : List Int) (y : YardD) (w : World) (hv : YardAt w v y) (hy : y.Ok) (hx : IntsAt w xv xs) (hne : xs.length ≠ y.logs.length) :
    Calls Try.prog 20 #[v, xv] w fun e w' => e = .returned (.tuple #[.int .i64 0, .int .i64 15]) ∧ Below w.heap.size w w' := by
  obtain ⟨sv, rfl, hp⟩ := hv
  obtain ⟨sa, cap, rfl⟩ := hp.slice
  obtain ⟨xa, xc, rfl⟩ := hx.slice
  have hB0 := below1 w (.cells #[.int .i64 y.load, .slice sa y.logs.length cap] 24)
  have B0 := Lib.hid (Blk.new w (.cells #[.int .i64 y.load, .slice sa y.logs.length cap] 24))
  have HB := Lib.hid hB0
  have HV := Lib.hid (show YardAt _ (.agg #[.int .i64 y.load, .slice sa y.logs.length cap]) y from ⟨_, rfl, hp.below hB0⟩)
  have HX := Lib.hid (hx.below hB0)
  have HYD := Lib.hid hy
  have HE := Lib.hid (yardErr_of hy)
  have hl10 := hy.count
  clear hy
  have d1 : ((xs.length : Int) != (y.logs.length : Int)) = true := by simp; omega
  clear hp hB0 hx
  go_enter Try.func20, Try.ntmps20
  go_wp2_with fail
  generalize w.alloc (.cells #[.int .i64 y.load, .slice sa y.logs.length cap] 24) = W0 at *
  refine (rCheckYard_any (.agg #[.int .i64 y.load, .slice sa y.logs.length cap]) y _ HV.out (by omega)).mono ?_
  rintro e v1 ⟨rfl, hb⟩
  replace HV := Lib.hid (HV.out.below hb)
  replace HX := Lib.hid (HX.out.below hb)
  replace B0 := Lib.hid (B0.out.below hb)
  replace HB := Lib.hid (bC HB.out hb)
  clear hb
  rw [HE.out]
  have B0c0 := B0.out.cell 0
  have B0c1 := B0.out.cell 1
  simp at B0c0 B0c1
  go_wp2
  go_ret2
  exact ⟨rfl, HB.out⟩
set_option maxRecDepth 100000 in
set_option maxHeartbeats 8000000 in
theorem rCheckHours_0 (v : Value) (xv : Value) (xs : List Int) (y : YardD) (w : World) (hv : YardAt w v y) (hy : y.Ok) (hx : IntsAt w xv xs) (hne : xs.length = y.logs.length) (PV PE : Int) (hok : fitB xs y.logs = true → PV = N y.load xs 101 ∧ PE = 0) (hno : fitB xs y.logs = false → PV = 0 ∧ PE = 19) :
    Calls Try.prog 20 #[v, xv] w fun e w' => e = .returned (.tuple #[.int .i64 PV, .int .i64 PE]) ∧ Below w.heap.size w w' := by
  obtain ⟨sv, rfl, hp⟩ := hv
  obtain ⟨sa, cap, rfl⟩ := hp.slice
  obtain ⟨xa, xc, rfl⟩ := hx.slice
  have hB0 := below1 w (.cells #[.int .i64 y.load, .slice sa y.logs.length cap] 24)
  have B0 := Lib.hid (Blk.new w (.cells #[.int .i64 y.load, .slice sa y.logs.length cap] 24))
  have HB := Lib.hid hB0
  have HV := Lib.hid (show YardAt _ (.agg #[.int .i64 y.load, .slice sa y.logs.length cap]) y from ⟨_, rfl, hp.below hB0⟩)
  have HX := Lib.hid (hx.below hB0)
  have HYD := Lib.hid hy
  have HE := Lib.hid (yardErr_of hy)
  have hl10 := hy.count
  clear hy
  have HLE := Lib.hid hne
  have d1 : ((xs.length : Int) != (y.logs.length : Int)) = false := by rw [hne]; simp
  have HOK := Lib.hid hok
  have HNO := Lib.hid hno
  clear hne hok hno
  clear hp hB0 hx
  go_enter Try.func20, Try.ntmps20
  go_wp2_with fail
  generalize w.alloc (.cells #[.int .i64 y.load, .slice sa y.logs.length cap] 24) = W0 at *
  refine (rCheckYard_any (.agg #[.int .i64 y.load, .slice sa y.logs.length cap]) y _ HV.out (by omega)).mono ?_
  rintro e v1 ⟨rfl, hb⟩
  replace HV := Lib.hid (HV.out.below hb)
  replace HX := Lib.hid (HX.out.below hb)
  replace B0 := Lib.hid (B0.out.below hb)
  replace HB := Lib.hid (bC HB.out hb)
  clear hb
  rw [HE.out]
  have B0c0 := B0.out.cell 0
  have B0c1 := B0.out.cell 1
  simp at B0c0 B0c1
  go_wp2
  clear B0c0 B0c1
  go_loopw [6] (fun i wr => ∃ k : Nat, k ≤ xs.length ∧ i = .int .i64 k ∧ fitB xs y.logs = fitB (xs.drop k) (y.logs.drop k) ∧ Below v1.heap.size v1 wr) (fun i _ => xs.length - (intOf i).toNat)
  case atStart => exact ⟨0, Nat.zero_le _, rfl, rfl, Below.refl _ _⟩
  case round =>
    obtain ⟨k, hk, rfl, hpf, hB⟩ := hrel
    have HPF := Lib.hid hpf
    clear hpf d1
    have c0 := (B0.out.below hB).cell 0
    have c1 := (B0.out.below hB).cell 1
    simp at c0 c1
    by_cases hlt : k < xs.length
    · have hlt' : k < y.logs.length := by have := HLE.out; omega
      obtain ⟨xb, xoff, xc', e, hx⟩ := (HX.out.below hB).get k hlt
      cases e
      have HPL : PairsAt v1 (.slice sa y.logs.length cap) y.logs := by
        obtain ⟨_, e, h⟩ := HV.out
        cases e
        exact h
      obtain ⟨pb, off, rfl, hbw, hc, hc2⟩ := PairsAt.get0 (HPL.below hB) hlt'
      have HD := Lib.hid (fitB_drop hlt hlt')
      obtain ⟨x, hx0⟩ : ∃ x, xs[k] = x := ⟨_, rfl⟩
      obtain ⟨l1, hl1⟩ : ∃ x, y.logs[k].1 = x := ⟨_, rfl⟩
      obtain ⟨l2, hl2⟩ : ∃ x, y.logs[k].2 = x := ⟨_, rfl⟩
      rw [hx0] at hx HD
      rw [hl1] at hc HD
      rw [hl2] at hc2 HD
      clear hx0 hl1 hl2 HPL
      have hlk : (k : Int) < (y.logs.length : Int) := by omega
      by_cases q1 : x < l1
      · have e1 : decide (x < l1) = true := by simp; omega
        have e2 : decide (l1 ≤ x) = false := by simp; omega
        have HF := Lib.hid (HNO.out (by rw [HPF.out, HD.out, e2]; simp))
        obtain ⟨rfl, rfl⟩ := HF.out
        clear HF
        go_wp2_with fail
        go_quiet (fail)
        clear e1 e2 c0 c1 hc hc2 hx
        go_wp2
        go_ret2
        exact ⟨rfl, below_drewN (bC HB.out hB) _⟩
      · by_cases q2 : l2 < x
        · have e1 : decide (x < l1) = false := by simp; omega
          have e2 : decide (l1 ≤ x) = true := by simp; omega
          have e3 : decide (x > l2) = true := by simp; omega
          have e4 : decide (l2 < x) = true := by simp; omega
          have e5 : decide (x ≤ l2) = false := by simp; omega
          have HF := Lib.hid (HNO.out (by rw [HPF.out, HD.out, e2, e5]; simp))
          obtain ⟨rfl, rfl⟩ := HF.out
          clear HF
          go_wp2_with fail
          go_quiet (fail)
          clear e1 e2 e3 e4 e5 c0 c1 hc hc2 hx
          go_wp2
          go_ret2
          exact ⟨rfl, below_drewN (bC HB.out hB) _⟩
        · have e1 : decide (x < l1) = false := by simp; omega
          have e2 : decide (l1 ≤ x) = true := by simp; omega
          have e3 : decide (x > l2) = false := by simp; omega
          have e4 : decide (l2 < x) = false := by simp; omega
          have e5 : decide (x ≤ l2) = true := by simp; omega
          have HG := Lib.hid (show fitB xs y.logs = fitB (xs.drop (k + 1)) (y.logs.drop (k + 1)) by rw [HPF.out, HD.out, e2, e5]; rfl)
          go_wp2_with fail
          go_quiet (fail)
          clear e1 e2 e3 e4 e5 c0 c1 hc hc2 hx
          go_wp2
          go_roundw
          case rel => exact ⟨k + 1, by omega, by go_num, HG.out, below_drewN hB _⟩
          case measure => simp [intOf] <;> omega
    · obtain rfl : k = xs.length := by omega
      have hft : fitB xs y.logs = true := by rw [HPF.out, List.drop_length, List.drop_of_length_le (by have := HLE.out; omega)]; rfl
      obtain ⟨h1, rfl⟩ := HOK.out hft
      have HPV := Lib.hid h1
      clear h1 hft
      go_wp2_with fail
      refine (rLoads_any (.agg #[.int .i64 y.load, .slice sa y.logs.length cap]) (.slice xa xs.length xc) y xs _ (HV.out.below hB) (HX.out.below hB) HYD.out (by have := HLE.out; omega)).mono ?_
      rintro e w2 ⟨rfl, hb2⟩
      rw [← HPV.out]
      go_wp2
      go_ret2
      exact ⟨rfl, bC (bC HB.out hB) hb2⟩
/-- What the reference answers for hours, for a valid yard. -/
theorem rCheckHours_ok (v xv : Value) (y : YardD) (xs : List Int) (w : World) (hv : YardAt w v y) (hy : y.Ok) (hx : IntsAt w xv xs) :
    Calls Try.prog 20 #[v, xv] w fun e w' => e = .returned (.tuple #[.int .i64 (hoursV y xs), .int .i64 (hoursErr y xs)]) ∧ Below w.heap.size w w' := by
  have he := hoursErr_ok hy xs
  by_cases h1 : xs.length = y.logs.length
  · have h2 : hoursErr y xs = if fitB xs y.logs = true then 0 else 19 := by rw [he]; unfold hoursErr0; rw [if_neg (by simpa using h1)]
    refine rCheckHours_0 v xv xs y w hv hy hx h1 _ _ (fun h => ?_) (fun h => ?_)
    · rw [h, if_pos rfl] at h2
      exact ⟨by unfold hoursV; rw [if_pos h2], h2⟩
    · rw [h, if_neg (by simp)] at h2
      exact ⟨hoursV_no (by rw [h2]; decide), h2⟩
  · have h2 : hoursErr y xs = 15 := by rw [he]; unfold hoursErr0; rw [if_pos h1]
    rw [hoursV_no (by rw [h2]; decide), h2]
    exact rCheckHours_15 v xv xs y w hv hy hx h1
set_option maxRecDepth 100000 in
set_option maxHeartbeats 8000000 in
theorem rNeed_no (v : Value) (a b : Int) (y : YardD) (w : World) (hv : YardAt w v y) (hy : y.Ok) (hw : okWin (a, b) = false) :
    Calls Try.prog 22 #[v, .agg #[.int .i64 a, .int .i64 b]] w fun e w' => e = .returned (.tuple #[.int .i64 0, .int .i64 3]) ∧ Below w.heap.size w w' := by
  obtain ⟨sv, rfl, hp⟩ := hv
  obtain ⟨sa, cap, rfl⟩ := hp.slice
  have hB0 := below2 w (.cells #[.int .i64 y.load, .slice sa y.logs.length cap] 24) (.cells #[.int .i64 a, .int .i64 b] 27)
  have B0 := Lib.hid ((Blk.new w (.cells #[.int .i64 y.load, .slice sa y.logs.length cap] 24)).alloc (.cells #[.int .i64 a, .int .i64 b] 27))
  have b1 := Blk.new (w.alloc (.cells #[.int .i64 y.load, .slice sa y.logs.length cap] 24)) (.cells #[.int .i64 a, .int .i64 b] 27)
  rw [World.size_alloc] at b1
  have B1 := Lib.hid b1
  clear b1
  have HB := Lib.hid hB0
  have HV := Lib.hid (show YardAt _ (.agg #[.int .i64 y.load, .slice sa y.logs.length cap]) y from ⟨_, rfl, hp.below hB0⟩)
  have HYD := Lib.hid hy
  have HE := Lib.hid (yardErr_of hy)
  have hl10 := hy.count
  clear hy
  have HW := Lib.hid hw
  clear hw
  clear hp hB0
  go_enter Try.func22, Try.ntmps22
  go_wp2_with fail
  generalize (w.alloc (.cells #[.int .i64 y.load, .slice sa y.logs.length cap] 24)).alloc (.cells #[.int .i64 a, .int .i64 b] 27) = W0 at *
  refine (rCheckYard_any (.agg #[.int .i64 y.load, .slice sa y.logs.length cap]) y _ HV.out (by omega)).mono ?_
  rintro e v1 ⟨rfl, hb⟩
  replace HV := Lib.hid (HV.out.below hb)
  replace B0 := Lib.hid (B0.out.below hb)
  replace B1 := Lib.hid (B1.out.below hb)
  replace HB := Lib.hid (bC HB.out hb)
  clear hb
  rw [HE.out]
  have B0c0 := B0.out.cell 0
  have B0c1 := B0.out.cell 1
  have B1c0 := B1.out.cell 0
  have B1c1 := B1.out.cell 1
  simp at B0c0 B0c1 B1c0 B1c1
  go_wp2_with fail
  clear B0c0 B0c1 B1c0 B1c1
  refine (rIsWindow_any a b _).mono ?_
  rintro e v2 ⟨rfl, hb⟩
  replace HV := Lib.hid (HV.out.below hb)
  replace B0 := Lib.hid (B0.out.below hb)
  replace B1 := Lib.hid (B1.out.below hb)
  replace HB := Lib.hid (bC HB.out hb)
  clear hb
  rw [HW.out]
  have B0c0 := B0.out.cell 0
  have B0c1 := B0.out.cell 1
  have B1c0 := B1.out.cell 0
  have B1c1 := B1.out.cell 1
  simp at B0c0 B0c1 B1c0 B1c1
  go_wp2
  go_ret2
  exact ⟨rfl, HB.out⟩
set_option maxRecDepth 100000 in
set_option maxHeartbeats 8000000 in
theorem rNeed_yes (v : Value) (a b : Int) (y : YardD) (w : World) (hv : YardAt w v y) (hy : y.Ok) (hw : okWin (a, b) = true) :
    Calls Try.prog 22 #[v, .agg #[.int .i64 a, .int .i64 b]] w fun e w' => e = .returned (.tuple #[.int .i64 (need y a b), .int .i64 0]) ∧ Below w.heap.size w w' := by
  obtain ⟨sv, rfl, hp⟩ := hv
  obtain ⟨sa, cap, rfl⟩ := hp.slice
  have hB0 := below2 w (.cells #[.int .i64 y.load, .slice sa y.logs.length cap] 24) (.cells #[.int .i64 a, .int .i64 b] 27)
  have B0 := Lib.hid ((Blk.new w (.cells #[.int .i64 y.load, .slice sa y.logs.length cap] 24)).alloc (.cells #[.int .i64 a, .int .i64 b] 27))
  have b1 := Blk.new (w.alloc (.cells #[.int .i64 y.load, .slice sa y.logs.length cap] 24)) (.cells #[.int .i64 a, .int .i64 b] 27)
  rw [World.size_alloc] at b1
  have B1 := Lib.hid b1
  clear b1
  have HB := Lib.hid hB0
  have HV := Lib.hid (show YardAt _ (.agg #[.int .i64 y.load, .slice sa y.logs.length cap]) y from ⟨_, rfl, hp.below hB0⟩)
  have HYD := Lib.hid hy
  have HE := Lib.hid (yardErr_of hy)
  have hl10 := hy.count
  clear hy
  have HW := Lib.hid hw
  clear hw
  clear hp hB0
  go_enter Try.func22, Try.ntmps22
  go_wp2_with fail
  generalize (w.alloc (.cells #[.int .i64 y.load, .slice sa y.logs.length cap] 24)).alloc (.cells #[.int .i64 a, .int .i64 b] 27) = W0 at *
  refine (rCheckYard_any (.agg #[.int .i64 y.load, .slice sa y.logs.length cap]) y _ HV.out (by omega)).mono ?_
  rintro e v1 ⟨rfl, hb⟩
  replace HV := Lib.hid (HV.out.below hb)
  replace B0 := Lib.hid (B0.out.below hb)
  replace B1 := Lib.hid (B1.out.below hb)
  replace HB := Lib.hid (bC HB.out hb)
  clear hb
  rw [HE.out]
  have B0c0 := B0.out.cell 0
  have B0c1 := B0.out.cell 1
  have B1c0 := B1.out.cell 0
  have B1c1 := B1.out.cell 1
  simp at B0c0 B0c1 B1c0 B1c1
  go_wp2_with fail
  clear B0c0 B0c1 B1c0 B1c1
  refine (rIsWindow_any a b _).mono ?_
  rintro e v2 ⟨rfl, hb⟩
  replace HV := Lib.hid (HV.out.below hb)
  replace B0 := Lib.hid (B0.out.below hb)
  replace B1 := Lib.hid (B1.out.below hb)
  replace HB := Lib.hid (bC HB.out hb)
  clear hb
  rw [HW.out]
  have B0c0 := B0.out.cell 0
  have B0c1 := B0.out.cell 1
  have B1c0 := B1.out.cell 0
  have B1c1 := B1.out.cell 1
  simp at B0c0 B0c1 B1c0 B1c1
  go_wp2_with fail
  clear B0c0 B0c1 B1c0 B1c1
  refine (rNeedOf_any (.agg #[.int .i64 y.load, .slice sa y.logs.length cap]) y a b _ HV.out HYD.out).mono ?_
  rintro e v3 ⟨rfl, hb⟩
  replace HV := Lib.hid (HV.out.below hb)
  replace B0 := Lib.hid (B0.out.below hb)
  replace B1 := Lib.hid (B1.out.below hb)
  replace HB := Lib.hid (bC HB.out hb)
  clear hb
  have B0c0 := B0.out.cell 0
  have B0c1 := B0.out.cell 1
  have B1c0 := B1.out.cell 0
  have B1c1 := B1.out.cell 1
  simp at B0c0 B0c1 B1c0 B1c1
  go_wp2
  go_ret2
  exact ⟨rfl, HB.out⟩
end Go.Proofs.Ytjbeoakikdkdaaa
