import Derived.Test.YtjbeoakikdkdaaaSw
import Derived.Test.YtjbeoakikdkdaaaSv
namespace Go.Proofs.Ytjbeoakikdkdaaa
open Go.RowKit Go.Vat Go.Sort Go.Shelf
attribute [local go_sem] Oper.semAt_some

/-! ## The law's own functions: the fewest loads, hours by numbers, loads in order -/
set_option maxRecDepth 100000 in
set_option maxHeartbeats 16000000 in
theorem fewest_law (v : Value) (y : YardD) (w : World) (hv : YardAt w v y) (hy : y.Ok) :
    Calls Try.prog 40 #[v] w fun e w' => ∃ vh xs, e = .returned (.tuple #[.int .i64 (U y 101), vh, .bool true]) ∧ IntsAt w' vh xs ∧ fit xs y.logs ∧ N y.load xs 101 = U y 101 ∧ Below w.heap.size w w' := by
  obtain ⟨sv, rfl, hp⟩ := hv
  obtain ⟨sa, cap, rfl⟩ := hp.slice
  have hB0 := below1 w (.cells #[.int .i64 y.load, .slice sa y.logs.length cap] 24)
  have B0 := Lib.hid (Blk.new w (.cells #[.int .i64 y.load, .slice sa y.logs.length cap] 24))
  have HB := Lib.hid hB0
  have HV := Lib.hid (show YardAt _ (.agg #[.int .i64 y.load, .slice sa y.logs.length cap]) y from ⟨_, rfl, hp.below hB0⟩)
  have HYD := Lib.hid hy
  have hl10 := hy.count
  clear hy
  clear hp hB0
  go_enter Try.func40, Try.ntmps40
  go_wp2_with fail
  generalize w.alloc (.cells #[.int .i64 y.load, .slice sa y.logs.length cap] 24) = W0 at *
  refine (Fewest_ok (.agg #[.int .i64 y.load, .slice sa y.logs.length cap]) y _ HV.out HYD.out).mono ?_
  rintro e v1 ⟨rfl, hb⟩
  replace HV := Lib.hid (HV.out.below hb)
  replace B0 := Lib.hid (B0.out.below hb)
  replace HB := Lib.hid (bC HB.out hb)
  clear hb
  obtain ⟨F, hF⟩ : ∃ F, U y 101 = F := ⟨_, rfl⟩
  have HF := Lib.hid hF
  rw [hF]
  clear hF
  have B0c0 := B0.out.cell 0
  have B0c1 := B0.out.cell 1
  simp at B0c0 B0c1
  go_wp2_with fail
  clear B0c0 B0c1
  refine (Hours_ok (.agg #[.int .i64 y.load, .slice sa y.logs.length cap]) y _ HV.out HYD.out).mono ?_
  rintro e v2 ⟨vh, xs, rfl, hi, hf, hn, hb⟩
  replace HV := Lib.hid (HV.out.below hb)
  replace B0 := Lib.hid (B0.out.below hb)
  replace HB := Lib.hid (bC HB.out hb)
  clear hb
  obtain ⟨h1, h2⟩ := hours_of HYD.out hf
  rw [hn, HF.out] at h2
  have hxl := fit_length hf
  obtain ⟨ha, hc, rfl⟩ := hi.slice
  have HH := Lib.hid hi
  have HQ := Lib.hid (And.intro h1 h2)
  have HFN := Lib.hid (And.intro hf hn)
  have hx10 : xs.length ≤ 10 := by omega
  clear hi hf hn h1 h2 hxl
  have B0c0 := B0.out.cell 0
  have B0c1 := B0.out.cell 1
  simp at B0c0 B0c1
  go_wp2_with fail
  clear B0c0 B0c1
  refine (Proof_ok (.agg #[.int .i64 y.load, .slice sa y.logs.length cap]) y _ HV.out HYD.out).mono ?_
  rintro e v3 ⟨vp, rfl, hi, hb⟩
  replace HV := Lib.hid (HV.out.below hb)
  replace HH := Lib.hid (HH.out.below hb)
  replace B0 := Lib.hid (B0.out.below hb)
  replace HB := Lib.hid (bC HB.out hb)
  clear hb
  obtain ⟨p1, p2, p3⟩ := proofL_good HYD.out
  rw [HF.out] at p2
  obtain ⟨PL, hPL⟩ : ∃ PL, proofL y = PL := ⟨_, rfl⟩
  rw [hPL] at hi p1 p2 p3
  obtain ⟨pa, pc, rfl⟩ := hi.slice
  have HP := Lib.hid hi
  have HPQ := Lib.hid (And.intro p1 p2)
  have g5 : decide ((PL.length : Int) > 10) = false := by simp; omega
  have g6 : decide ((10 : Int) < (PL.length : Int)) = false := by simp; omega
  clear hi p1 p2 hPL
  have B0c0 := B0.out.cell 0
  have B0c1 := B0.out.cell 1
  simp at B0c0 B0c1
  go_wp2_with fail
  clear B0c0 B0c1
  refine (CheckHours_ok (.agg #[.int .i64 y.load, .slice sa y.logs.length cap]) (.slice ha xs.length hc) y xs _ HV.out HYD.out HH.out).mono ?_
  rintro e v4 ⟨rfl, hb⟩
  replace HV := Lib.hid (HV.out.below hb)
  replace HH := Lib.hid (HH.out.below hb)
  replace HP := Lib.hid (HP.out.below hb)
  replace B0 := Lib.hid (B0.out.below hb)
  replace HB := Lib.hid (bC HB.out hb)
  clear hb
  rw [HQ.out.1, HQ.out.2]
  have B0c0 := B0.out.cell 0
  have B0c1 := B0.out.cell 1
  simp at B0c0 B0c1
  go_wp2_with fail
  clear B0c0 B0c1
  refine (rCheckHours_ok (.agg #[.int .i64 y.load, .slice sa y.logs.length cap]) (.slice ha xs.length hc) y xs _ HV.out HYD.out HH.out).mono ?_
  rintro e v5 ⟨rfl, hb⟩
  replace HV := Lib.hid (HV.out.below hb)
  replace HH := Lib.hid (HH.out.below hb)
  replace HP := Lib.hid (HP.out.below hb)
  replace B0 := Lib.hid (B0.out.below hb)
  replace HB := Lib.hid (bC HB.out hb)
  clear hb
  rw [HQ.out.1, HQ.out.2]
  have B0c0 := B0.out.cell 0
  have B0c1 := B0.out.cell 1
  simp at B0c0 B0c1
  go_wp2_with fail
  clear B0c0 B0c1
  refine (CheckProof_ok (.agg #[.int .i64 y.load, .slice sa y.logs.length cap]) (.slice pa PL.length pc) y PL _ HV.out HYD.out HP.out (by omega)).mono ?_
  rintro e v6 ⟨rfl, hb⟩
  replace HV := Lib.hid (HV.out.below hb)
  replace HH := Lib.hid (HH.out.below hb)
  replace HP := Lib.hid (HP.out.below hb)
  replace B0 := Lib.hid (B0.out.below hb)
  replace HB := Lib.hid (bC HB.out hb)
  clear hb
  rw [HPQ.out.1, HPQ.out.2]
  have B0c0 := B0.out.cell 0
  have B0c1 := B0.out.cell 1
  simp at B0c0 B0c1
  go_wp2_with fail
  clear B0c0 B0c1
  refine (rCheckProof_ok (.agg #[.int .i64 y.load, .slice sa y.logs.length cap]) (.slice pa PL.length pc) y PL _ HV.out HYD.out HP.out).mono ?_
  rintro e v7 ⟨rfl, hb⟩
  replace HV := Lib.hid (HV.out.below hb)
  replace HH := Lib.hid (HH.out.below hb)
  replace HP := Lib.hid (HP.out.below hb)
  replace B0 := Lib.hid (B0.out.below hb)
  replace HB := Lib.hid (bC HB.out hb)
  clear hb
  rw [HPQ.out.1, HPQ.out.2]
  have B0c0 := B0.out.cell 0
  have B0c1 := B0.out.cell 1
  simp at B0c0 B0c1
  go_wp2
  go_ret3
  exact ⟨.slice ha xs.length hc, xs, by rw [HF.out]; rfl, HH.out, HFN.out.1, HFN.out.2, HB.out⟩
end Go.Proofs.Ytjbeoakikdkdaaa
