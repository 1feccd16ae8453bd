import Derived.Test.YtjbeoakikdkdaaaSn
namespace Go.Proofs.Ytjbeoakikdkdaaa
open Go.RowKit Go.Vat Go.Sort Go.Shelf
attribute [local go_sem] Oper.semAt_some

/-! ## The reference: the fewest loads, proofs, early and late loads -/
set_option maxRecDepth 100000 in
set_option maxHeartbeats 8000000 in
theorem rFewestOf_any (v : Value) (y : YardD) (w : World) (hv : YardAt w v y) (hy : y.Ok) :
    Calls Try.prog 63 #[v] w fun e w' => e = .returned (.int .i64 (U y 101)) ∧ Below w.heap.size w w' := by
  obtain ⟨sv, rfl, hp⟩ := hv
  obtain ⟨sa, cap, rfl⟩ := hp.slice
  have hB0 := below1 w (.cells #[.int .i64 y.load, .slice sa y.logs.length cap] 24)
  have B0 := Lib.hid (Blk.new w (.cells #[.int .i64 y.load, .slice sa y.logs.length cap] 24))
  have HB := Lib.hid hB0
  have HV := Lib.hid (show YardAt _ (.agg #[.int .i64 y.load, .slice sa y.logs.length cap]) y from ⟨_, rfl, hp.below hB0⟩)
  have HYD := Lib.hid hy
  clear hy
  clear hp hB0
  go_enter Try.func63, Try.ntmps63
  go_wp2_with fail
  generalize w.alloc (.cells #[.int .i64 y.load, .slice sa y.logs.length cap] 24) = W0 at *
  refine (rLeast_any _ y _ HV.out HYD.out).mono ?_
  rintro e w2 ⟨g, rfl, hA, hg, hb⟩
  have HB2 := Lib.hid (bC HB.out hb)
  have c := hA.cell (i := 101) (by omega)
  clear hA hb
  go_wp2
  go_ret
  exact ⟨rfl, HB2.out⟩
set_option maxRecDepth 100000 in
set_option maxHeartbeats 8000000 in
theorem rFewest_err (v : Value) (y : YardD) (w : World) (hv : YardAt w v y) (hl : y.logs.length ≤ 1000000) (he : yardErr y ≠ 0) :
    Calls Try.prog 26 #[v] w fun e w' => e = .returned (.tuple #[.int .i64 0, .int .i64 (yardErr y)]) ∧ Below w.heap.size w w' := by
  obtain ⟨sv, rfl, hp⟩ := hv
  obtain ⟨sa, cap, rfl⟩ := hp.slice
  have hB0 := below1 w (.cells #[.int .i64 y.load, .slice sa y.logs.length cap] 24)
  have B0 := Lib.hid (Blk.new w (.cells #[.int .i64 y.load, .slice sa y.logs.length cap] 24))
  have HB := Lib.hid hB0
  have HV := Lib.hid (show YardAt _ (.agg #[.int .i64 y.load, .slice sa y.logs.length cap]) y from ⟨_, rfl, hp.below hB0⟩)
  obtain ⟨E, hE⟩ : ∃ E, yardErr y = E := ⟨_, rfl⟩
  have d1 : (E != 0) = true := by rw [← hE]; simpa using he
  have HE := Lib.hid hE
  clear he hE
  rw [HE.out]
  clear hp hB0
  go_enter Try.func26, Try.ntmps26
  go_wp2_with fail
  generalize w.alloc (.cells #[.int .i64 y.load, .slice sa y.logs.length cap] 24) = W0 at *
  refine (rCheckYard_any (.agg #[.int .i64 y.load, .slice sa y.logs.length cap]) y _ HV.out hl).mono ?_
  rintro e v1 ⟨rfl, hb⟩
  replace HV := Lib.hid (HV.out.below hb)
  replace B0 := Lib.hid (B0.out.below hb)
  replace HB := Lib.hid (bC HB.out hb)
  clear hb
  rw [HE.out]
  have B0c0 := B0.out.cell 0
  have B0c1 := B0.out.cell 1
  simp at B0c0 B0c1
  go_wp2_with fail
  clear B0c0 B0c1
  refine (rCheckYard_any (.agg #[.int .i64 y.load, .slice sa y.logs.length cap]) y _ HV.out hl).mono ?_
  rintro e v2 ⟨rfl, hb⟩
  replace HV := Lib.hid (HV.out.below hb)
  replace B0 := Lib.hid (B0.out.below hb)
  replace HB := Lib.hid (bC HB.out hb)
  clear hb
  rw [HE.out]
  have B0c0 := B0.out.cell 0
  have B0c1 := B0.out.cell 1
  simp at B0c0 B0c1
  go_wp2
  go_ret2
  exact ⟨rfl, HB.out⟩
set_option maxRecDepth 100000 in
set_option maxHeartbeats 8000000 in
theorem rFewest_ok (v : Value) (y : YardD) (w : World) (hv : YardAt w v y) (hy : y.Ok) :
    Calls Try.prog 26 #[v] w fun e w' => e = .returned (.tuple #[.int .i64 (U y 101), .int .i64 0]) ∧ Below w.heap.size w w' := by
  obtain ⟨sv, rfl, hp⟩ := hv
  obtain ⟨sa, cap, rfl⟩ := hp.slice
  have hB0 := below1 w (.cells #[.int .i64 y.load, .slice sa y.logs.length cap] 24)
  have B0 := Lib.hid (Blk.new w (.cells #[.int .i64 y.load, .slice sa y.logs.length cap] 24))
  have HB := Lib.hid hB0
  have HV := Lib.hid (show YardAt _ (.agg #[.int .i64 y.load, .slice sa y.logs.length cap]) y from ⟨_, rfl, hp.below hB0⟩)
  have HYD := Lib.hid hy
  have HE := Lib.hid (yardErr_of hy)
  have hl10 := hy.count
  clear hy
  clear hp hB0
  go_enter Try.func26, Try.ntmps26
  go_wp2_with fail
  generalize w.alloc (.cells #[.int .i64 y.load, .slice sa y.logs.length cap] 24) = W0 at *
  refine (rCheckYard_any (.agg #[.int .i64 y.load, .slice sa y.logs.length cap]) y _ HV.out (by omega)).mono ?_
  rintro e v1 ⟨rfl, hb⟩
  replace HV := Lib.hid (HV.out.below hb)
  replace B0 := Lib.hid (B0.out.below hb)
  replace HB := Lib.hid (bC HB.out hb)
  clear hb
  rw [HE.out]
  have B0c0 := B0.out.cell 0
  have B0c1 := B0.out.cell 1
  simp at B0c0 B0c1
  go_wp2_with fail
  clear B0c0 B0c1
  refine (rFewestOf_any (.agg #[.int .i64 y.load, .slice sa y.logs.length cap]) y _ HV.out HYD.out).mono ?_
  rintro e v2 ⟨rfl, hb⟩
  replace HV := Lib.hid (HV.out.below hb)
  replace B0 := Lib.hid (B0.out.below hb)
  replace HB := Lib.hid (bC HB.out hb)
  clear hb
  have B0c0 := B0.out.cell 0
  have B0c1 := B0.out.cell 1
  simp at B0c0 B0c1
  go_wp2
  go_ret2
  exact ⟨rfl, HB.out⟩
set_option maxRecDepth 100000 in
set_option maxHeartbeats 8000000 in
theorem rLate_err (v : Value) (y : YardD) (w : World) (hv : YardAt w v y) (hl : y.logs.length ≤ 1000000) (he : yardErr y ≠ 0) :
    Calls Try.prog 34 #[v] w fun e w' => e = .returned (.tuple #[.slice none 0 0, .int .i64 (yardErr y)]) ∧ Below w.heap.size w w' := by
  obtain ⟨sv, rfl, hp⟩ := hv
  obtain ⟨sa, cap, rfl⟩ := hp.slice
  have hB0 := below1 w (.cells #[.int .i64 y.load, .slice sa y.logs.length cap] 24)
  have B0 := Lib.hid (Blk.new w (.cells #[.int .i64 y.load, .slice sa y.logs.length cap] 24))
  have HB := Lib.hid hB0
  have HV := Lib.hid (show YardAt _ (.agg #[.int .i64 y.load, .slice sa y.logs.length cap]) y from ⟨_, rfl, hp.below hB0⟩)
  obtain ⟨E, hE⟩ : ∃ E, yardErr y = E := ⟨_, rfl⟩
  have d1 : (E != 0) = true := by rw [← hE]; simpa using he
  have HE := Lib.hid hE
  clear he hE
  rw [HE.out]
  clear hp hB0
  go_enter Try.func34, Try.ntmps34
  go_wp2_with fail
  generalize w.alloc (.cells #[.int .i64 y.load, .slice sa y.logs.length cap] 24) = W0 at *
  refine (rCheckYard_any (.agg #[.int .i64 y.load, .slice sa y.logs.length cap]) y _ HV.out hl).mono ?_
  rintro e v1 ⟨rfl, hb⟩
  replace HV := Lib.hid (HV.out.below hb)
  replace B0 := Lib.hid (B0.out.below hb)
  replace HB := Lib.hid (bC HB.out hb)
  clear hb
  rw [HE.out]
  have B0c0 := B0.out.cell 0
  have B0c1 := B0.out.cell 1
  simp at B0c0 B0c1
  go_wp2_with fail
  clear B0c0 B0c1
  refine (rCheckYard_any (.agg #[.int .i64 y.load, .slice sa y.logs.length cap]) y _ HV.out hl).mono ?_
  rintro e v2 ⟨rfl, hb⟩
  replace HV := Lib.hid (HV.out.below hb)
  replace B0 := Lib.hid (B0.out.below hb)
  replace HB := Lib.hid (bC HB.out hb)
  clear hb
  rw [HE.out]
  have B0c0 := B0.out.cell 0
  have B0c1 := B0.out.cell 1
  simp at B0c0 B0c1
  go_wp2
  go_ret2
  exact ⟨rfl, HB.out⟩
set_option maxRecDepth 100000 in
set_option maxHeartbeats 8000000 in
theorem rLate_ok (v : Value) (y : YardD) (w : World) (hv : YardAt w v y) (hy : y.Ok) :
    Calls Try.prog 34 #[v] w fun e w' => ∃ v, e = .returned (.tuple #[v, .int .i64 0]) ∧ IntsAt w' v (lateL y) ∧ Below w.heap.size w w' := by
  obtain ⟨sv, rfl, hp⟩ := hv
  obtain ⟨sa, cap, rfl⟩ := hp.slice
  have hB0 := below1 w (.cells #[.int .i64 y.load, .slice sa y.logs.length cap] 24)
  have B0 := Lib.hid (Blk.new w (.cells #[.int .i64 y.load, .slice sa y.logs.length cap] 24))
  have HB := Lib.hid hB0
  have HV := Lib.hid (show YardAt _ (.agg #[.int .i64 y.load, .slice sa y.logs.length cap]) y from ⟨_, rfl, hp.below hB0⟩)
  have HYD := Lib.hid hy
  have HE := Lib.hid (yardErr_of hy)
  have hl10 := hy.count
  clear hy
  clear hp hB0
  go_enter Try.func34, Try.ntmps34
  go_wp2_with fail
  generalize w.alloc (.cells #[.int .i64 y.load, .slice sa y.logs.length cap] 24) = W0 at *
  refine (rCheckYard_any (.agg #[.int .i64 y.load, .slice sa y.logs.length cap]) y _ HV.out (by omega)).mono ?_
  rintro e v1 ⟨rfl, hb⟩
  replace HV := Lib.hid (HV.out.below hb)
  replace B0 := Lib.hid (B0.out.below hb)
  replace HB := Lib.hid (bC HB.out hb)
  clear hb
  rw [HE.out]
  have B0c0 := B0.out.cell 0
  have B0c1 := B0.out.cell 1
  simp at B0c0 B0c1
  go_wp2_with fail
  clear B0c0 B0c1
  refine (rLeast_any (.agg #[.int .i64 y.load, .slice sa y.logs.length cap]) y _ HV.out HYD.out).mono ?_
  rintro e v2 ⟨g, rfl, hA, hg, hb⟩
  replace HV := Lib.hid (HV.out.below hb)
  replace B0 := Lib.hid (B0.out.below hb)
  replace HB := Lib.hid (bC HB.out hb)
  clear hb
  have HA := Lib.hid hA
  clear hA
  clear hg
  go_wp2
  go_loopw [4, 6, 7] (fun o h _ wr => ∃ k : Nat, k ≤ 101 ∧ h = .int .i64 k ∧ wr.ownsRow v2.heap.size 2 1 o (LL (U y) k).length ((LL (U y) k).map (Value.int .i64)) ∧ Below v2.heap.size v2 wr) (fun _ h _ _ => 101 - (intOf h).toNat)
  case atStart => exact ⟨0, by omega, rfl, owns_nil _ _ _ _, Below.refl _ _⟩
  case round =>
    obtain ⟨k, hk, rfl, hown, hbw⟩ := hrel
    have hll : (LL (U y) k).length ≤ 10 := by
      have h1 := LL_length (U_step y) k
      have h2 := U_len HYD.out k
      have h3 := U_zero y
      omega
    obtain ⟨CL, hCL⟩ : ∃ CL, LL (U y) k = CL := ⟨_, rfl⟩
    have HNX := Lib.hid (show LL (U y) (k + 1) = LL (U y) k ++ List.replicate (U y (k + 1) - U y k).toNat (k : Int) from rfl)
    rw [hCL] at hown hll HNX
    have HCL := Lib.hid hCL
    clear hCL
    have HOWN := Lib.hid hown
    obtain ⟨oa, oc, rfl⟩ := owns_slice hown
    have HBW := Lib.hid hbw
    clear hown
    by_cases hlt : k < 101
    · have d1 : decide ((k : Int) ≤ 100) = true := by simp; omega
      have a1 := (HA.out.below hbw).cell (i := k) (by omega)
      have a2 := (HA.out.below hbw).cell (i := k + 1) (by omega)
      have u1 := U_step y k
      have u2 := U_nonneg y k
      have u3 := U_len HYD.out (k + 1)
      obtain ⟨ua, hua⟩ : ∃ x, U y k = x := ⟨_, rfl⟩
      obtain ⟨ub, hub⟩ : ∃ x, U y (k + 1) = x := ⟨_, rfl⟩
      rw [hua] at a1 u1 u2 HNX
      rw [hub] at a2 u1 u3 HNX
      obtain ⟨d, hd⟩ : ∃ d : Nat, ub = ua + (d : Int) := ⟨(ub - ua).toNat, by omega⟩
      subst hd
      have hd10 : d ≤ 10 := by omega
      have HNY := Lib.hid (show LL (U y) (k + 1) = CL ++ List.replicate d (k : Int) by rw [HNX.out]; congr 2; omega)
      have q1 : IntKind.i64.wrap ((k : Int) + 1) = (k : Int) + 1 := IntWalk.i64_in _ (by omega)
      have q2 : (0 : Int) ≤ (k : Int) + 1 := by omega
      have q3 : (k : Int) + 1 < 102 := by omega
      have q4 : ((k : Int) + 1).toNat = k + 1 := by omega
      have q5 : (k : Int) < 102 := by omega
      have HA2 := Lib.hid a2
      have HUB := Lib.hid hub
      clear hua hub HNX hbw a2
      go_wp2
      clear a1
      go_loopw [4, 7] (fun o n w6 => ∃ j : Nat, j ≤ d ∧ n = .int .i64 (ua + (j : Int)) ∧ w6.ownsRow v2.heap.size 2 1 o (CL ++ List.replicate j (k : Int)).length ((CL ++ List.replicate j (k : Int)).map (Value.int .i64)) ∧ Below v2.heap.size v2 w6) (fun _ n _ => (ua + (d : Int) - intOf n).toNat)
      case atStart => exact ⟨0, Nat.zero_le _, by simp, by simpa using HOWN.out, HBW.out⟩
      case round =>
        clear HOWN HBW HA2
        obtain ⟨j, hj, rfl, hown, hbw⟩ := hrel
        have hl2 : (CL ++ List.replicate j (k : Int)).length ≤ 20 := by rw [List.length_append, List.length_replicate]; omega
        have HPT := Lib.hid (show (CL ++ List.replicate (j + 1) (k : Int)).map (Value.int .i64) = (CL ++ List.replicate j (k : Int)).map (Value.int .i64) ++ [.int .i64 (k : Int)] by rw [List.replicate_succ', ← List.append_assoc]; simp)
        have HPL := Lib.hid (show (CL ++ List.replicate (j + 1) (k : Int)).length = (CL ++ List.replicate j (k : Int)).length + 1 by simp; omega)
        obtain ⟨CM, hCM⟩ : ∃ CM, CL ++ List.replicate j (k : Int) = CM := ⟨_, rfl⟩
        rw [hCM] at hown hl2 HPT HPL
        have HCM := Lib.hid hCM
        clear hCM
        obtain ⟨oa, oc, rfl⟩ := owns_slice hown
        have a2 := (HA.out.below hbw).cell (i := k + 1) (by omega)
        have HU := Lib.hid (show U y (k + 1) = ua + (d : Int) from by have := HUB.out; omega)
        rw [HU.out] at a2
        by_cases hjt : j < d
        · have d2 : decide (ua + (j : Int) < ua + (d : Int)) = true := by simp; omega
          have d3 : decide ((j : Int) < (d : Int)) = true := by simp; omega
          have q6 : IntKind.i64.wrap (ua + (j : Int) + 1) = ua + (j : Int) + 1 := IntWalk.i64_in _ (by omega)
          have ownA := owns_below hown (below1 wr (.cells #[.int .i64 (k : Int)] 2))
          have belA := bC hbw (below1 wr (.cells #[.int .i64 (k : Int)] 2))
          have bN := Blk.new wr (.cells #[.int .i64 (k : Int)] 2)
          have HOA := Lib.hid ownA
          have HBA := Lib.hid belA
          have HBN := Lib.hid bN
          have hsz := belA.size
          clear hown hbw ownA belA bN
          go_wp2_with (at_builtin; refine wp_app64 rfl (.tmp 32) (.tmp 34) rfl _ _ _ _ rfl HOA.out _ _ _ rfl HBN.out (by omega) HBA.out (by exact hsz) ?_; intro a2 c2 w3 own3 bel3 gr3)
          go_roundw
          case rel => exact ⟨j + 1, by omega, by simp; omega, by rw [HPT.out, HPL.out]; exact own3, bel3⟩
          case measure => simp [intOf] <;> omega
        · obtain rfl : j = d := by omega
          have d2 : decide (ua + (j : Int) < ua + (j : Int)) = false := by simp
          have HOWN := Lib.hid hown
          have HBW := Lib.hid hbw
          clear hown hbw
          go_wp2
          go_roundw
          case rel => exact ⟨k + 1, by omega, by go_num, by rw [HNY.out, HCM.out]; exact HOWN.out, HBW.out⟩
          case measure => simp [intOf] <;> omega
    · obtain rfl : k = 101 := by omega
      have d1 : decide (((101 : Nat) : Int) ≤ 100) = false := by decide
      have HI : Hid (IntsAt wr (.slice oa CL.length oc) CL) := Lib.hid (Row.ints (Row.of_owns HOWN.out))
      go_wp2
      go_ret2
      exact ⟨_, rfl, by unfold lateL; rw [HCL.out]; exact HI.out, bC HB.out HBW.out⟩
end Go.Proofs.Ytjbeoakikdkdaaa

namespace Go.Proofs.Ytjbeoakikdkdaaa
open Go.RowKit Go.Vat Go.Sort Go.Shelf
attribute [local go_sem] Oper.semAt_some

/-! ## The reference: a yard whose hours are counted back, and one of some logs -/
theorem Row.pairsN {w : World} {v : Value} {n : Nat} {l : List (Int × Int)} (h : Row w v n 2 (pairCells l)) (e : l.length = n) : PairsAt w v l := by
  subst e
  exact h.pairs
set_option maxRecDepth 100000 in
set_option maxHeartbeats 8000000 in
theorem rBack_any (v : Value) (y : YardD) (w : World) (hv : YardAt w v y) (hy : y.Ok) :
    Calls Try.prog 44 #[v] w fun e w' => ∃ v', e = .returned v' ∧ YardAt w' v' (back y) ∧ Below w.heap.size w w' := by
  obtain ⟨sv, rfl, hp⟩ := hv
  obtain ⟨sa, cap, rfl⟩ := hp.slice
  have hl10 := hy.count
  have HY := Lib.hid hy
  go_enter Try.func44, Try.ntmps44
  go_wp2
  obtain ⟨W0, hW0⟩ : ∃ W0, ((w.alloc (.cells #[.int .i64 y.load, .slice sa y.logs.length cap] 24)).alloc (.cells #[.int .i64 0, .slice none 0 0] 24)).alloc (.cells #[.int .i64 y.load, .slice none 0 0] 24) = W0 := ⟨_, rfl⟩
  have hB0 : Below w.heap.size w W0 := by rw [← hW0]; exact (below2 _ _ _).trans ((below1 _ _).mono (by simp; omega))
  have b0 : Blk W0 w.heap.size (.cells #[.int .i64 y.load, .slice sa y.logs.length cap] 24) := by
    rw [← hW0]
    exact ((Blk.new w (.cells #[.int .i64 y.load, .slice sa y.logs.length cap] 24)).below (below1 _ _)).below (below1 _ _)
  have b1 : Blk W0 (w.heap.size + 1) (.cells #[.int .i64 0, .slice none 0 0] 24) := by
    rw [← hW0]
    have := (Blk.new (w.alloc (.cells #[.int .i64 y.load, .slice sa y.logs.length cap] 24)) (.cells #[.int .i64 0, .slice none 0 0] 24)).below (below1 _ (.cells #[.int .i64 y.load, .slice none 0 0] 24))
    rwa [World.size_alloc] at this
  have b2 : Blk W0 (w.heap.size + 2) (.cells #[.int .i64 y.load, .slice none 0 0] 24) := by
    rw [← hW0]
    have := Blk.new ((w.alloc (.cells #[.int .i64 y.load, .slice sa y.logs.length cap] 24)).alloc (.cells #[.int .i64 0, .slice none 0 0] 24)) (.cells #[.int .i64 y.load, .slice none 0 0] 24)
    simpa using this
  have hz0 : W0.heap.size = w.heap.size + 3 := by rw [← hW0]; simp
  have HP := Lib.hid (fun k (hk : k < y.logs.length) => PairsAt.get0 hp hk)
  rw [hW0]
  clear hW0 hp hy
  have e2 : w.heap.size + 1 + 1 = w.heap.size + 2 := by omega
  rw [e2]
  clear e2
  have HB0 := Lib.hid hB0
  have HB1 := Lib.hid b1
  have HX0 := Lib.hid b0
  have HZ0 := Lib.hid hz0
  obtain ⟨L, hL⟩ : ∃ L, w.heap.size + 2 = L := ⟨_, rfl⟩
  obtain ⟨R, hR⟩ : ∃ R, w.heap.size + 1 = R := ⟨_, rfl⟩
  obtain ⟨X, hX⟩ : ∃ X, w.heap.size = X := ⟨_, rfl⟩
  rw [hL] at b2 ⊢
  rw [hR] at HB1 ⊢
  rw [hX] at HX0 ⊢
  have HL := Lib.hid (And.intro hL (And.intro hR hX))
  have HB2 := Lib.hid b2
  clear hB0 b0 b1 b2 hz0 hL hR hX
  go_loopw [4] (fun i wr => ∃ (k : Nat) (s : Value), k ≤ y.logs.length ∧ i = .int .i64 k ∧ Blk wr L (.cells #[.int .i64 y.load, s] 24) ∧ wr.ownsRow W0.heap.size 27 2 s k (pairCells (backL (y.logs.take k))) ∧ FrL W0 L wr) (fun i _ => y.logs.length - (intOf i).toNat)
  case atStart => exact ⟨0, _, Nat.zero_le _, rfl, HB2.out, by simpa [backL, pairCells] using owns_nil _ _ _ _, FrL.of_below (Below.refl _ _)⟩
  case round =>
    clear HB2
    obtain ⟨k, s, hk, rfl, hbL, hown, hF⟩ := hrel
    obtain ⟨ra, rc, rfl⟩ := owns_slice hown
    have HOWN := Lib.hid hown
    have HF := Lib.hid hF
    have HBL := Lib.hid hbL
    have hzL := hbL.lt
    have hfz := hF.size
    have hBw := HB0.out.trans (hF.under (B := w.heap.size) (by rw [HZ0.out]; omega) (by have := HL.out.1; omega))
    have HBW := Lib.hid hBw
    have hXX := HX0.out.fr' hF (show X ≠ L by have := HL.out; omega)
    have x1 := hXX.cell 1
    simp at x1
    have cL1 := hbL.cell 1
    simp at cL1
    clear hown hbL hBw hXX
    by_cases hlt : k < y.logs.length
    · obtain ⟨pb, off, rfl, hpw, hc, hd⟩ := HP.out k hlt
      replace hc := cellB hc HBW.out
      replace hd := cellB hd HBW.out
      have hlg := HY.out.log _ (List.getElem_mem hlt)
      have HST := Lib.hid (backL_step hlt)
      obtain ⟨l1, hl1⟩ : ∃ x, y.logs[k].1 = x := ⟨_, rfl⟩
      obtain ⟨l2, hl2⟩ : ∃ x, y.logs[k].2 = x := ⟨_, rfl⟩
      rw [hl1] at hc hlg HST
      rw [hl2] at hd hlg HST
      have q1 : IntKind.i64.wrap (100 - l1) = 100 - l1 := IntWalk.i64_in _ (by omega)
      have q2 : IntKind.i64.wrap (100 - l2) = 100 - l2 := IntWalk.i64_in _ (by omega)
      have q3 : (k : Int) < (y.logs.length : Int) := by omega
      clear hl1 hl2 hlg hF
      go_wp2_with fail
      have y0 : wr.drew.cell? ⟨L, 1, none⟩ = some (.slice ra k rc) := cL1
      have y1 : wr.drew.cell? ⟨X, 1, none⟩ = some (.slice (some ⟨pb, off, none⟩) y.logs.length cap) := x1
      have y2 : wr.drew.cell? ⟨pb, off + k * 2, none⟩ = some (.int .i64 l1) := hc
      have y3 : wr.drew.cell? ⟨pb, off + k * 2 + 1, none⟩ = some (.int .i64 l2) := hd
      have own : wr.drew.ownsRow W0.heap.size 27 2 (.slice ra k rc) k (pairCells (backL (y.logs.take k))) := HOWN.out
      have BL : Blk wr.drew L (.cells #[.int .i64 y.load, .slice ra k rc] 24) := HBL.out
      have FF : FrL W0 L wr.drew := HF.out.below ((Below.refl _ _).drew)
      clear HOWN HBL HF HBW cL1 x1 hc hd hzL hfz
      refine (wp_region_T 18 (fun W' => W'.cell? ⟨L, 1, none⟩ = some (.slice ra k rc) ∧ W'.cell? ⟨X, 1, none⟩ = some (.slice (some ⟨pb, off, none⟩) y.logs.length cap) ∧ W'.cell? ⟨pb, off + k * 2, none⟩ = some (.int .i64 l1) ∧ W'.cell? ⟨pb, off + k * 2 + 1, none⟩ = some (.int .i64 l2)) (by kernel_rfl) (by kernel_rfl) ⟨y0, y1, y2, y3⟩ ?_)
      intro inv hS
      clear y0 y1 y2 y3
      generalize wr.drew = V0 at *
      refine wpAnyT_take inv (by kernel_rfl) (by omega) (i := 0) (v := .pointer (some ⟨L, 1, none⟩)) rfl (by kernel_rfl) (by kernel_rfl) (fun _ _ _ h => h) (Or.inl ⟨by kernel_rfl, ?_⟩) (by assumption) ?_
      · rintro W' ⟨q0, q1, q2, q3⟩
        go_simp
      intro inv2
      clear inv
      have inv := inv2
      clear inv2
      simp only [Act.put, List.setIfInBounds_toArray]
      refine wpAnyT_take inv (by kernel_rfl) (by omega) (i := 1) (v := .slice ra k rc) rfl (by kernel_rfl) (by kernel_rfl) (fun _ _ _ h => h) (Or.inl ⟨by kernel_rfl, ?_⟩) (by assumption) ?_
      · rintro W' ⟨q0, q1, q2, q3⟩
        go_simp
      intro inv2
      clear inv
      have inv := inv2
      clear inv2
      simp only [Act.put]
      refine wpAnyT_take inv (by kernel_rfl) (by omega) (i := 2) (v := .pointer (some ⟨X, 1, none⟩)) rfl (by kernel_rfl) (by kernel_rfl) (fun _ _ _ h => h) (Or.inl ⟨by kernel_rfl, ?_⟩) (by assumption) ?_
      · rintro W' ⟨q0, q1, q2, q3⟩
        go_simp
      intro inv2
      clear inv
      have inv := inv2
      clear inv2
      simp only [Act.put]
      refine wpAnyT_take inv (by kernel_rfl) (by omega) (i := 3) (v := .slice (some ⟨pb, off, none⟩) y.logs.length cap) rfl (by kernel_rfl) (by kernel_rfl) (fun _ _ _ h => h) (Or.inl ⟨by kernel_rfl, ?_⟩) (by assumption) ?_
      · rintro W' ⟨q0, q1, q2, q3⟩
        go_simp
      intro inv2
      clear inv
      have inv := inv2
      clear inv2
      simp only [Act.put]
      refine wpAnyT_take inv (by kernel_rfl) (by omega) (i := 4) (v := .int .i64 (k : Int)) rfl (by kernel_rfl) (by kernel_rfl) (fun _ _ _ h => h) (Or.inl ⟨by kernel_rfl, ?_⟩) (by assumption) ?_
      · rintro W' ⟨q0, q1, q2, q3⟩
        go_simp
      intro inv2
      clear inv
      have inv := inv2
      clear inv2
      simp only [Act.put]
      refine wpAnyT_take inv (by kernel_rfl) (by omega) (i := 5) (v := .pointer (some ⟨pb, off + k * 2, none⟩)) rfl (by kernel_rfl) (by kernel_rfl) (fun _ _ _ h => h) (Or.inl ⟨by kernel_rfl, ?_⟩) (by assumption) ?_
      · rintro W' ⟨q0, q1, q2, q3⟩
        go_simp
      intro inv2
      clear inv
      have inv := inv2
      clear inv2
      simp only [Act.put]
      refine wpAnyT_take inv (by kernel_rfl) (by omega) (i := 6) (v := .pointer (some ⟨pb, off + k * 2 + 1, none⟩)) rfl (by kernel_rfl) (by kernel_rfl) (fun _ _ _ h => h) (Or.inl ⟨by kernel_rfl, ?_⟩) (by assumption) ?_
      · rintro W' ⟨q0, q1, q2, q3⟩
        go_simp
      intro inv2
      clear inv
      have inv := inv2
      clear inv2
      simp only [Act.put]
      refine wpAnyT_take inv (by kernel_rfl) (by omega) (i := 7) (v := .int .i64 l2) rfl (by kernel_rfl) (by kernel_rfl) (fun _ _ _ h => h) (Or.inl ⟨by kernel_rfl, ?_⟩) (by assumption) ?_
      · rintro W' ⟨q0, q1, q2, q3⟩
        go_simp
      intro inv2
      clear inv
      have inv := inv2
      clear inv2
      simp only [Act.put]
      refine wpAnyT_take inv (by kernel_rfl) (by omega) (i := 8) (v := .int .i64 (100 - l2)) rfl (by kernel_rfl) (by kernel_rfl) (fun _ _ _ h => h) (Or.inl ⟨by kernel_rfl, ?_⟩) (by assumption) ?_
      · rintro W' ⟨q0, q1, q2, q3⟩
        go_simp
      intro inv2
      clear inv
      have inv := inv2
      clear inv2
      simp only [Act.put]
      refine wpAnyT_take inv (by kernel_rfl) (by omega) (i := 9) (v := .pointer (some ⟨X, 1, none⟩)) rfl (by kernel_rfl) (by kernel_rfl) (fun _ _ _ h => h) (Or.inl ⟨by kernel_rfl, ?_⟩) (by assumption) ?_
      · rintro W' ⟨q0, q1, q2, q3⟩
        go_simp
      intro inv2
      clear inv
      have inv := inv2
      clear inv2
      simp only [Act.put]
      refine wpAnyT_take inv (by kernel_rfl) (by omega) (i := 10) (v := .slice (some ⟨pb, off, none⟩) y.logs.length cap) rfl (by kernel_rfl) (by kernel_rfl) (fun _ _ _ h => h) (Or.inl ⟨by kernel_rfl, ?_⟩) (by assumption) ?_
      · rintro W' ⟨q0, q1, q2, q3⟩
        go_simp
      intro inv2
      clear inv
      have inv := inv2
      clear inv2
      simp only [Act.put]
      refine wpAnyT_take inv (by kernel_rfl) (by omega) (i := 11) (v := .int .i64 (k : Int)) rfl (by kernel_rfl) (by kernel_rfl) (fun _ _ _ h => h) (Or.inl ⟨by kernel_rfl, ?_⟩) (by assumption) ?_
      · rintro W' ⟨q0, q1, q2, q3⟩
        go_simp
      intro inv2
      clear inv
      have inv := inv2
      clear inv2
      simp only [Act.put]
      refine wpAnyT_take inv (by kernel_rfl) (by omega) (i := 12) (v := .pointer (some ⟨pb, off + k * 2, none⟩)) rfl (by kernel_rfl) (by kernel_rfl) (fun _ _ _ h => h) (Or.inl ⟨by kernel_rfl, ?_⟩) (by assumption) ?_
      · rintro W' ⟨q0, q1, q2, q3⟩
        go_simp
      intro inv2
      clear inv
      have inv := inv2
      clear inv2
      simp only [Act.put]
      refine wpAnyT_take inv (by kernel_rfl) (by omega) (i := 13) (v := .pointer (some ⟨pb, off + k * 2, none⟩)) rfl (by kernel_rfl) (by kernel_rfl) (fun _ _ _ h => h) (Or.inl ⟨by kernel_rfl, ?_⟩) (by assumption) ?_
      · rintro W' ⟨q0, q1, q2, q3⟩
        go_simp
      intro inv2
      clear inv
      have inv := inv2
      clear inv2
      simp only [Act.put]
      refine wpAnyT_take inv (by kernel_rfl) (by omega) (i := 14) (v := .int .i64 l1) rfl (by kernel_rfl) (by kernel_rfl) (fun _ _ _ h => h) (Or.inl ⟨by kernel_rfl, ?_⟩) (by assumption) ?_
      · rintro W' ⟨q0, q1, q2, q3⟩
        go_simp
      intro inv2
      clear inv
      have inv := inv2
      clear inv2
      simp only [Act.put]
      refine wpAnyT_take inv (by kernel_rfl) (by omega) (i := 15) (v := .int .i64 (100 - l1)) rfl (by kernel_rfl) (by kernel_rfl) (fun _ _ _ h => h) (Or.inl ⟨by kernel_rfl, ?_⟩) (by assumption) ?_
      · rintro W' ⟨q0, q1, q2, q3⟩
        go_simp
      intro inv2
      clear inv
      have inv := inv2
      clear inv2
      simp only [Act.put]
      refine wpAnyT_take inv (by kernel_rfl) (by omega) (i := 16) (v := .agg #[.int .i64 (100 - l2), .int .i64 (100 - l1)]) rfl (by kernel_rfl) (by kernel_rfl) (fun _ _ _ h => h) (Or.inl ⟨by kernel_rfl, ?_⟩) (by assumption) ?_
      · rintro W' ⟨q0, q1, q2, q3⟩
        go_simp
      intro inv2
      clear inv
      have inv := inv2
      clear inv2
      simp only [Act.put]
      refine wpAnyT_ready [17] (by kernel_rfl) (by simp) ?_
      refine AllReadyT.cons rfl (fun K hK => ?_) AllReadyT.nil
      go_simp
      have hA := below1 V0 (.cells #[.int .i64 (100 - l2), .int .i64 (100 - l1)] 27)
      refine hK.out _ _ (fun _ => ⟨cellB hS.1 hA, cellB hS.2.1 hA, cellB hS.2.2.1 hA, cellB hS.2.2.2 hA⟩) (fun _ => ?_)
      clear hK K hS inv
      try simp only [Act.put]
      have bN := Blk.new V0 (.cells #[.int .i64 (100 - l2), .int .i64 (100 - l1)] 27)
      replace own := owns_below own hA
      replace BL := BL.below hA
      replace FF := FF.below hA
      obtain ⟨bx, hbx⟩ : ∃ bx, V0.heap.size = bx := ⟨_, rfl⟩
      rw [hbx] at bN ⊢
      clear hA hbx
      generalize V0.alloc (.cells #[.int .i64 (100 - l2), .int .i64 (100 - l1)] 27) = V9 at *
      refine wpAnyT_chain (fuel := 3) rfl (by kernel_rfl) ?_
      simp only [List.drop_succ_cons, List.drop_zero]
      go_wp2_with (at_builtin; refine wp_appR rfl (.tmp 16) (.tmp 32) rfl _ _ _ _ rfl own _ _ _ _ rfl bN (by omega) (Below.refl _ _) (by have := FF.size; omega) ?_; intro a2 c2 w3 own3 bel3 gr3; have BL3 := Blk.grown BL own (by decide) gr3; have FF3 := FF.grown own gr3 (Nat.le_refl _); have o1 := BL3.cell 1; have of := BL3.frozen 1; have ol := BL3.lt; simp at o1)
      go_roundw
      case rel => exact ⟨k + 1, _, by omega, by go_num, BL3.set (j := 1) (.slice a2 (k + 1) c2), by rw [HST.out, pairCells_snoc]; exact owns_set own3 BL3 (by decide) 1 _, FF3.set 1 _⟩
      case measure => simp [intOf] <;> omega
    · obtain rfl : k = y.logs.length := by omega
      have hRL : R ≠ L := by have := HL.out; omega
      have cL0 := HBL.out.cell 0
      simp at cL0
      have cR0 := (HB1.out.fr' HF.out hRL).cell 0
      have cR1 := (HB1.out.fr' HF.out hRL).cell 1
      have fR0 := (HB1.out.fr' HF.out hRL).frozen 0
      have fR1 := (HB1.out.fr' HF.out hRL).frozen 1
      simp at cR0 cR1
      have hRz := (HB1.out.fr' HF.out hRL).lt
      rw [List.take_length] at HOWN
      clear hF
      go_wp2
      have hbR := HB1.out.fr' HF.out hRL
      have hfin : Blk ((wr.setCell ⟨R, 0, none⟩ (.int .i64 y.load)).setCell ⟨R, 1, none⟩ (.slice ra y.logs.length rc)) R (.cells #[.int .i64 y.load, .slice ra y.logs.length rc] 24) := (hbR.set (.int .i64 y.load)).set (.slice ra y.logs.length rc)
      (try simp only [Exit.inBlock, Exit.then])
      refine bodyPost_ret (results_cell_row rfl _ _ R _ _ _ _ rfl hfin Try.underlying24 rfl infoYd) rfl ?_
      have hfr : FrL wr R ((wr.setCell ⟨R, 0, none⟩ (.int .i64 y.load)).setCell ⟨R, 1, none⟩ (.slice ra y.logs.length rc)) := ((FrL.of_below (Below.refl _ _)).set 0 _).set 1 _
      have hL1 := HL.out
      have hown2 := owns_set (owns_set HOWN.out hbR (by decide) 0 (.int .i64 y.load)) (hbR.set (j := 0) (.int .i64 y.load)) (by decide) 1 (.slice ra y.logs.length rc)
      have hrow := Row.of_owns hown2
      have hpp : PairsAt _ _ (back y).logs := Row.pairsN hrow (by simp [back])
      exact ⟨_, rfl, ⟨_, rfl, hpp⟩, HBW.out.trans (hfr.under HBW.out.size (by omega))⟩
set_option maxRecDepth 100000 in
set_option maxHeartbeats 8000000 in
theorem rPart_any (v : Value) (lv : Value) (ix : List Nat) (y : YardD) (w : World) (hv : YardAt w v y) (hy : y.Ok) (hi : IntsAt w lv (ix.map (Nat.cast : Nat → Int))) (hix : ∀ i ∈ ix, i < y.logs.length) (hil : ix.length ≤ 1000) :
    Calls Try.prog 48 #[v, lv] w fun e w' => ∃ v', e = .returned v' ∧ YardAt w' v' ⟨y.load, onlyL y ix⟩ ∧ Below w.heap.size w w' := by
  obtain ⟨sv, rfl, hp⟩ := hv
  obtain ⟨sa, cap, rfl⟩ := hp.slice
  have hl10 := hy.count
  have HY := Lib.hid hy
  obtain ⟨la, lc, rfl⟩ := hi.slice
  simp only [List.length_map] at hi ⊢
  go_enter Try.func48, Try.ntmps48
  go_wp2
  obtain ⟨W0, hW0⟩ : ∃ W0, ((w.alloc (.cells #[.int .i64 y.load, .slice sa y.logs.length cap] 24)).alloc (.cells #[.int .i64 0, .slice none 0 0] 24)).alloc (.cells #[.int .i64 y.load, .slice none 0 0] 24) = W0 := ⟨_, rfl⟩
  have hB0 : Below w.heap.size w W0 := by rw [← hW0]; exact (below2 _ _ _).trans ((below1 _ _).mono (by simp; omega))
  have b0 : Blk W0 w.heap.size (.cells #[.int .i64 y.load, .slice sa y.logs.length cap] 24) := by
    rw [← hW0]
    exact ((Blk.new w (.cells #[.int .i64 y.load, .slice sa y.logs.length cap] 24)).below (below1 _ _)).below (below1 _ _)
  have b1 : Blk W0 (w.heap.size + 1) (.cells #[.int .i64 0, .slice none 0 0] 24) := by
    rw [← hW0]
    have := (Blk.new (w.alloc (.cells #[.int .i64 y.load, .slice sa y.logs.length cap] 24)) (.cells #[.int .i64 0, .slice none 0 0] 24)).below (below1 _ (.cells #[.int .i64 y.load, .slice none 0 0] 24))
    rwa [World.size_alloc] at this
  have b2 : Blk W0 (w.heap.size + 2) (.cells #[.int .i64 y.load, .slice none 0 0] 24) := by
    rw [← hW0]
    have := Blk.new ((w.alloc (.cells #[.int .i64 y.load, .slice sa y.logs.length cap] 24)).alloc (.cells #[.int .i64 0, .slice none 0 0] 24)) (.cells #[.int .i64 y.load, .slice none 0 0] 24)
    simpa using this
  have hz0 : W0.heap.size = w.heap.size + 3 := by rw [← hW0]; simp
  have HP := Lib.hid (fun k (hk : k < y.logs.length) => PairsAt.get0 hp hk)
  have HI := Lib.hid (fun k (hk : k < ix.length) => IntsAt.getN hi hk)
  have HIX := Lib.hid hix
  rw [hW0]
  clear hW0 hp hy hi hix
  have e2 : w.heap.size + 1 + 1 = w.heap.size + 2 := by omega
  rw [e2]
  clear e2
  have HB0 := Lib.hid hB0
  have HB1 := Lib.hid b1
  have HX0 := Lib.hid b0
  have HZ0 := Lib.hid hz0
  obtain ⟨L, hL⟩ : ∃ L, w.heap.size + 2 = L := ⟨_, rfl⟩
  obtain ⟨R, hR⟩ : ∃ R, w.heap.size + 1 = R := ⟨_, rfl⟩
  obtain ⟨X, hX⟩ : ∃ X, w.heap.size = X := ⟨_, rfl⟩
  rw [hL] at b2 ⊢
  rw [hR] at HB1 ⊢
  rw [hX] at HX0 ⊢
  have HL := Lib.hid (And.intro hL (And.intro hR hX))
  have HB2 := Lib.hid b2
  clear hB0 b0 b1 b2 hz0 hL hR hX
  go_loopw [6] (fun i wr => ∃ (k : Nat) (s : Value), k ≤ ix.length ∧ i = .int .i64 k ∧ Blk wr L (.cells #[.int .i64 y.load, s] 24) ∧ wr.ownsRow W0.heap.size 27 2 s k (pairCells (onlyL y (ix.take k))) ∧ FrL W0 L wr) (fun i _ => ix.length - (intOf i).toNat)
  case atStart => exact ⟨0, _, Nat.zero_le _, rfl, HB2.out, by simpa [onlyL, pairCells] using owns_nil _ _ _ _, FrL.of_below (Below.refl _ _)⟩
  case round =>
    clear HB2
    obtain ⟨k, s, hk, rfl, hbL, hown, hF⟩ := hrel
    obtain ⟨ra, rc, rfl⟩ := owns_slice hown
    have HOWN := Lib.hid hown
    have HF := Lib.hid hF
    have HBL := Lib.hid hbL
    have hzL := hbL.lt
    have hfz := hF.size
    have hBw := HB0.out.trans (hF.under (B := w.heap.size) (by rw [HZ0.out]; omega) (by have := HL.out.1; omega))
    have HBW := Lib.hid hBw
    have hXX := HX0.out.fr' hF (show X ≠ L by have := HL.out; omega)
    have x1 := hXX.cell 1
    simp at x1
    have cL1 := hbL.cell 1
    simp at cL1
    clear hown hbL hBw hXX
    by_cases hlt : k < ix.length
    · obtain ⟨ib, ioff, rfl, hiw, hj0⟩ := HI.out k hlt
      replace hj0 := cellB hj0 HBW.out
      have hjl := HIX.out _ (List.getElem_mem hlt)
      have HST := Lib.hid (onlyL_step y hlt hjl)
      obtain ⟨j, hj⟩ : ∃ j, ix[k] = j := ⟨_, rfl⟩
      rw [hj] at hj0
      replace hjl : j < y.logs.length := by rw [← hj]; exact hjl
      have HSJ := Lib.hid (show onlyL y (ix.take (k + 1)) = onlyL y (ix.take k) ++ [(y.logs[j].1, y.logs[j].2)] by rw [HST.out]; simp [hj])
      obtain ⟨pb, off, rfl, hpw, hc, hd⟩ := HP.out j hjl
      replace hc := cellB hc HBW.out
      replace hd := cellB hd HBW.out
      have hlg := HY.out.log _ (List.getElem_mem hjl)
      obtain ⟨l1, hl1⟩ : ∃ x, y.logs[j].1 = x := ⟨_, rfl⟩
      obtain ⟨l2, hl2⟩ : ∃ x, y.logs[j].2 = x := ⟨_, rfl⟩
      rw [hl1] at hc hlg HSJ
      rw [hl2] at hd hlg HSJ
      have q3 : (k : Int) < (ix.length : Int) := by omega
      have q4 : (j : Int) < (y.logs.length : Int) := by omega
      clear hl1 hl2 hlg hF hj HST
      go_wp2_with fail
      have y0 : wr.drew.cell? ⟨L, 1, none⟩ = some (.slice ra k rc) := cL1
      have y1 : wr.drew.cell? ⟨X, 1, none⟩ = some (.slice (some ⟨pb, off, none⟩) y.logs.length cap) := x1
      have y2 : wr.drew.cell? ⟨ib, ioff + k, none⟩ = some (.int .i64 (j : Int)) := hj0
      have y3 : wr.drew.cell? ⟨pb, off + j * 2, none⟩ = some (.int .i64 l1) := hc
      have y4 : wr.drew.cell? ⟨pb, off + j * 2 + 1, none⟩ = some (.int .i64 l2) := hd
      have own : wr.drew.ownsRow W0.heap.size 27 2 (.slice ra k rc) k (pairCells (onlyL y (ix.take k))) := HOWN.out
      have BL : Blk wr.drew L (.cells #[.int .i64 y.load, .slice ra k rc] 24) := HBL.out
      have FF : FrL W0 L wr.drew := HF.out.below ((Below.refl _ _).drew)
      clear HOWN HBL HF HBW cL1 x1 hc hd hj0 hzL hfz
      refine (wp_region_T 11 (fun W' => W'.cell? ⟨L, 1, none⟩ = some (.slice ra k rc) ∧ W'.cell? ⟨X, 1, none⟩ = some (.slice (some ⟨pb, off, none⟩) y.logs.length cap) ∧ W'.cell? ⟨ib, ioff + k, none⟩ = some (.int .i64 (j : Int)) ∧ W'.cell? ⟨pb, off + j * 2, none⟩ = some (.int .i64 l1) ∧ W'.cell? ⟨pb, off + j * 2 + 1, none⟩ = some (.int .i64 l2)) (by kernel_rfl) (by kernel_rfl) ⟨y0, y1, y2, y3, y4⟩ ?_)
      intro inv hS
      clear y0 y1 y2 y3 y4
      generalize wr.drew = V0 at *
      refine wpAnyT_take inv (by kernel_rfl) (by omega) (i := 0) (v := .pointer (some ⟨L, 1, none⟩)) rfl (by kernel_rfl) (by kernel_rfl) (fun _ _ _ h => h) (Or.inl ⟨by kernel_rfl, ?_⟩) (by assumption) ?_
      · rintro W' ⟨q0, q1, q2, q3, q4⟩
        go_simp
      intro inv2
      clear inv
      have inv := inv2
      clear inv2
      simp only [Act.put, List.setIfInBounds_toArray]
      refine wpAnyT_take inv (by kernel_rfl) (by omega) (i := 1) (v := .slice ra k rc) rfl (by kernel_rfl) (by kernel_rfl) (fun _ _ _ h => h) (Or.inl ⟨by kernel_rfl, ?_⟩) (by assumption) ?_
      · rintro W' ⟨q0, q1, q2, q3, q4⟩
        go_simp
      intro inv2
      clear inv
      have inv := inv2
      clear inv2
      simp only [Act.put]
      refine wpAnyT_take inv (by kernel_rfl) (by omega) (i := 2) (v := .pointer (some ⟨X, 1, none⟩)) rfl (by kernel_rfl) (by kernel_rfl) (fun _ _ _ h => h) (Or.inl ⟨by kernel_rfl, ?_⟩) (by assumption) ?_
      · rintro W' ⟨q0, q1, q2, q3, q4⟩
        go_simp
      intro inv2
      clear inv
      have inv := inv2
      clear inv2
      simp only [Act.put]
      refine wpAnyT_take inv (by kernel_rfl) (by omega) (i := 3) (v := .slice (some ⟨pb, off, none⟩) y.logs.length cap) rfl (by kernel_rfl) (by kernel_rfl) (fun _ _ _ h => h) (Or.inl ⟨by kernel_rfl, ?_⟩) (by assumption) ?_
      · rintro W' ⟨q0, q1, q2, q3, q4⟩
        go_simp
      intro inv2
      clear inv
      have inv := inv2
      clear inv2
      simp only [Act.put]
      refine wpAnyT_take inv (by kernel_rfl) (by omega) (i := 4) (v := .slice (some ⟨ib, ioff, none⟩) ix.length lc) rfl (by kernel_rfl) (by kernel_rfl) (fun _ _ _ h => h) (Or.inl ⟨by kernel_rfl, ?_⟩) (by assumption) ?_
      · rintro W' ⟨q0, q1, q2, q3, q4⟩
        go_simp
      intro inv2
      clear inv
      have inv := inv2
      clear inv2
      simp only [Act.put]
      refine wpAnyT_take inv (by kernel_rfl) (by omega) (i := 5) (v := .int .i64 (k : Int)) rfl (by kernel_rfl) (by kernel_rfl) (fun _ _ _ h => h) (Or.inl ⟨by kernel_rfl, ?_⟩) (by assumption) ?_
      · rintro W' ⟨q0, q1, q2, q3, q4⟩
        go_simp
      intro inv2
      clear inv
      have inv := inv2
      clear inv2
      simp only [Act.put]
      refine wpAnyT_take inv (by kernel_rfl) (by omega) (i := 6) (v := .pointer (some ⟨ib, ioff + k, none⟩)) rfl (by kernel_rfl) (by kernel_rfl) (fun _ _ _ h => h) (Or.inl ⟨by kernel_rfl, ?_⟩) (by assumption) ?_
      · rintro W' ⟨q0, q1, q2, q3, q4⟩
        go_simp
      intro inv2
      clear inv
      have inv := inv2
      clear inv2
      simp only [Act.put]
      refine wpAnyT_take inv (by kernel_rfl) (by omega) (i := 7) (v := .int .i64 (j : Int)) rfl (by kernel_rfl) (by kernel_rfl) (fun _ _ _ h => h) (Or.inl ⟨by kernel_rfl, ?_⟩) (by assumption) ?_
      · rintro W' ⟨q0, q1, q2, q3, q4⟩
        go_simp
      intro inv2
      clear inv
      have inv := inv2
      clear inv2
      simp only [Act.put]
      refine wpAnyT_take inv (by kernel_rfl) (by omega) (i := 8) (v := .pointer (some ⟨pb, off + j * 2, none⟩)) rfl (by kernel_rfl) (by kernel_rfl) (fun _ _ _ h => h) (Or.inl ⟨by kernel_rfl, ?_⟩) (by assumption) ?_
      · rintro W' ⟨q0, q1, q2, q3, q4⟩
        go_simp
      intro inv2
      clear inv
      have inv := inv2
      clear inv2
      simp only [Act.put]
      refine wpAnyT_take inv (by kernel_rfl) (by omega) (i := 9) (v := .agg #[.int .i64 l1, .int .i64 l2]) rfl (by kernel_rfl) (by kernel_rfl) (fun _ _ _ h => h) (Or.inl ⟨by kernel_rfl, ?_⟩) (by assumption) ?_
      · rintro W' ⟨q0, q1, q2, q3, q4⟩
        go_simp
      intro inv2
      clear inv
      have inv := inv2
      clear inv2
      simp only [Act.put]
      refine wpAnyT_ready [10] (by kernel_rfl) (by simp) ?_
      refine AllReadyT.cons rfl (fun K hK => ?_) AllReadyT.nil
      go_simp
      have hA := below1 V0 (.cells #[.int .i64 l1, .int .i64 l2] 27)
      refine hK.out _ _ (fun _ => ⟨cellB hS.1 hA, cellB hS.2.1 hA, cellB hS.2.2.1 hA, cellB hS.2.2.2.1 hA, cellB hS.2.2.2.2 hA⟩) (fun _ => ?_)
      clear hK K hS inv
      try simp only [Act.put]
      have bN := Blk.new V0 (.cells #[.int .i64 l1, .int .i64 l2] 27)
      replace own := owns_below own hA
      replace BL := BL.below hA
      replace FF := FF.below hA
      obtain ⟨bx, hbx⟩ : ∃ bx, V0.heap.size = bx := ⟨_, rfl⟩
      rw [hbx] at bN ⊢
      clear hA hbx
      generalize V0.alloc (.cells #[.int .i64 l1, .int .i64 l2] 27) = V9 at *
      refine wpAnyT_chain (fuel := 3) rfl (by kernel_rfl) ?_
      simp only [List.drop_succ_cons, List.drop_zero]
      go_wp2_with (at_builtin; refine wp_appR rfl (.tmp 17) (.tmp 26) rfl _ _ _ _ rfl own _ _ _ _ rfl bN (by omega) (Below.refl _ _) (by have := FF.size; omega) ?_; intro a2 c2 w3 own3 bel3 gr3; have BL3 := Blk.grown BL own (by decide) gr3; have FF3 := FF.grown own gr3 (Nat.le_refl _); have o1 := BL3.cell 1; have of := BL3.frozen 1; have ol := BL3.lt; simp at o1)
      go_roundw
      case rel => exact ⟨k + 1, _, by omega, by go_num, BL3.set (j := 1) (.slice a2 (k + 1) c2), by rw [HSJ.out, pairCells_snoc]; exact owns_set own3 BL3 (by decide) 1 _, FF3.set 1 _⟩
      case measure => simp [intOf] <;> omega
    · obtain rfl : k = ix.length := by omega
      have hRL : R ≠ L := by have := HL.out; omega
      have cL0 := HBL.out.cell 0
      simp at cL0
      have cR0 := (HB1.out.fr' HF.out hRL).cell 0
      have cR1 := (HB1.out.fr' HF.out hRL).cell 1
      have fR0 := (HB1.out.fr' HF.out hRL).frozen 0
      have fR1 := (HB1.out.fr' HF.out hRL).frozen 1
      simp at cR0 cR1
      have hRz := (HB1.out.fr' HF.out hRL).lt
      rw [List.take_length] at HOWN
      clear hF
      go_wp2
      have hbR := HB1.out.fr' HF.out hRL
      have hfin : Blk ((wr.setCell ⟨R, 0, none⟩ (.int .i64 y.load)).setCell ⟨R, 1, none⟩ (.slice ra ix.length rc)) R (.cells #[.int .i64 y.load, .slice ra ix.length rc] 24) := (hbR.set (.int .i64 y.load)).set (.slice ra ix.length rc)
      (try simp only [Exit.inBlock, Exit.then])
      refine bodyPost_ret (results_cell_row rfl _ _ R _ _ _ _ rfl hfin Try.underlying24 rfl infoYd) rfl ?_
      have hfr : FrL wr R ((wr.setCell ⟨R, 0, none⟩ (.int .i64 y.load)).setCell ⟨R, 1, none⟩ (.slice ra ix.length rc)) := ((FrL.of_below (Below.refl _ _)).set 0 _).set 1 _
      have hL1 := HL.out
      have hown2 := owns_set (owns_set HOWN.out hbR (by decide) 0 (.int .i64 y.load)) (hbR.set (j := 0) (.int .i64 y.load)) (by decide) 1 (.slice ra ix.length rc)
      have hrow := Row.of_owns hown2
      have hpp : PairsAt _ _ (onlyL y ix) := Row.pairsN hrow (by simp [onlyL])
      exact ⟨_, rfl, ⟨_, rfl, hpp⟩, HBW.out.trans (hfr.under HBW.out.size (by omega))⟩
end Go.Proofs.Ytjbeoakikdkdaaa
