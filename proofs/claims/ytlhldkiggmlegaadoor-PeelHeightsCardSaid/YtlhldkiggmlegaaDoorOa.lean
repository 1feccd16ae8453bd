import Derived.Test.YtlhldkiggmlegaaDoorNz
import Derived.Test.YtlhldkiggmlegaaDoorNy
namespace Go.Proofs.YtlhldkiggmlegaaDoor
open Go.ChangeShapes Go.WideShapes Go.ChangeAt Go.WideMaps Go.WideElems Go.RowKit Go.Deep Go.Joins
section
variable {H : Type} {enc : TypeId × Value → H}
theorem uProof : ∃ f0 f1 f2 f3 : Field, Tryd.prog.underlying 45 = some (.struct #[f0, f1, f2, f3]) ∧ f0.type = 3 ∧ f1.type = 3 ∧ f2.type = 3 ∧ f3.type = 3 ∧ oneCellFields Tryd.prog #[f0, f1, f2, f3] = true := ⟨_, _, _, _, Tryd.underlying45, rfl, rfl, rfl, rfl, by kernel_rfl⟩
theorem uRough : ∃ f0 f1 f2 : Field, Tryd.prog.underlying 53 = some (.struct #[f0, f1, f2]) ∧ f0.type = 22 ∧ f1.type = 23 ∧ f2.type = 23 ∧ oneCellFields Tryd.prog #[f0, f1, f2] = true := ⟨_, _, _, Tryd.underlying53, rfl, rfl, rfl, by kernel_rfl⟩
set_option maxRecDepth 100000 in
theorem proof_of_trod {W : World} {base : Nat} {held : Bool} {v : Value} {d : DataW H} {p : List MemPlace} (hv : Value.okWide Tryd.prog W .any base 45 v) (h : DataW.Trod enc Tryd.prog W 0 (fun _ => true) held 45 v d p) : ∃ q : PK, v = pkV q := by
  obtain ⟨f0, f1, f2, f3, hu, t0, t1, t2, t3, hone⟩ := uProof
  obtain ⟨v0, v1, v2, v3, y0, y1, y2, y3, n, rfl, _, _, g0, g1, g2, g3⟩ := open_agg4 hu hone (by kernel_rfl) hv h
  rw [t0] at g0
  rw [t1] at g1
  rw [t2] at g2
  rw [t3] at g3
  obtain ⟨z0, e0, _, _⟩ := DataW.trod_int uInt g0
  obtain ⟨z1, e1, _, _⟩ := DataW.trod_int uInt g1
  obtain ⟨z2, e2, _, _⟩ := DataW.trod_int uInt g2
  obtain ⟨z3, e3, _, _⟩ := DataW.trod_int uInt g3
  simp at e0 e1 e2 e3
  subst e0 e1 e2 e3
  exact ⟨⟨z0, z1, z2, z3⟩, rfl⟩
set_option maxRecDepth 100000 in
theorem rough_of_trod {W : World} {base : Nat} {held : Bool} {v : Value} {d : DataW H} {p : List MemPlace} (hv : Value.okWide Tryd.prog W .any base 53 v) (h : DataW.Trod enc Tryd.prog W 0 (fun _ => true) held 53 v d p) : ∃ r : RoughD, RoughAt W v r := by
  obtain ⟨f0, f1, f2, hu, t0, t1, t2, hone⟩ := uRough
  obtain ⟨v0, v1, v2, y0, y1, y2, n, rfl, _, _, g0, g1, g2⟩ := open_agg3 hu hone (by kernel_rfl) hv h
  rw [t0] at g0
  rw [t1] at g1
  rw [t2] at g2
  obtain ⟨l0, hl0⟩ := ints_of_trod g0
  obtain ⟨l1, hl1⟩ := pairs_of_trod g1
  obtain ⟨l2, hl2⟩ := pairs_of_trod g2
  exact ⟨⟨l0, l1, l2⟩, _, _, _, rfl, hl0, hl1, hl2⟩
set_option maxRecDepth 100000 in
theorem int_of_trod {W : World} {base : Nat} {held : Bool} {v : Value} {d : DataW H} {p : List MemPlace} (hv : Value.okWide Tryd.prog W .any base 2 v) (h : DataW.Trod enc Tryd.prog W 0 (fun _ => true) held 2 v d p) : ∃ n : Int, v = .int .i64 n ∧ (Lit.int .i64 n).wf = true := by
  obtain ⟨n, rfl, _, _, hw⟩ := open_int uI64 hv h
  exact ⟨n, rfl, hw⟩
end
end Go.Proofs.YtlhldkiggmlegaaDoor

namespace Go.Proofs.YtlhldkiggmlegaaDoor
open Go.RowKit Go.Shelf Go.Sort
attribute [local go_sem] Oper.semAt_some

/-! ## The law PeelProofs -/
theorem qe_agg (r : Rat) (e : Int) : ∃ n d : Int, qe r e = .tuple #[.agg #[.int .i64 n, .int .i64 d], .int .i64 e] := by
  unfold qe
  split
  · exact ⟨_, _, rfl⟩
  · exact ⟨_, _, rfl⟩
theorem pk_eq2 (a b c d : Int) (w : World) : (Op.equalIn 10000 45 (.agg #[.int .i64 a, .int .i64 b, .int .i64 c, .int .i64 d]) (.agg #[.int .i64 a, .int .i64 b, .int .i64 c, .int .i64 d])).run Tryd.prog w = .ok true w := by
  have := pk_eq ⟨a, b, c, d⟩ ⟨a, b, c, d⟩ w
  unfold Op.equal Op.maxDepth pkV at this
  simpa using this
set_option maxRecDepth 100000 in
set_option maxHeartbeats 4000000 in
theorem PeelProofs_any (v : Value) (l : LogD) (p : PK) (w : World) (hN : NoneAt w) (hv : LogAt w v l) :
    Calls Tryd.prog 5 #[v, pkV p] w fun e w' => e = .returned (.bool true) ∧ Below w.heap.size w w' := by
  obtain ⟨pf, pm, pt, ps⟩ := p
  unfold pkV
  obtain ⟨va, ve, rfl, h1, h2⟩ := hv
  obtain ⟨a, cap, rfl⟩ := h1.slice
  obtain ⟨a', cap', rfl⟩ := h2.slice
  have HV : Hid (LogAt w (.agg #[.slice a l.at_.length cap, .slice a' l.edges.length cap']) l) := Lib.hid ⟨_, _, rfl, h1, h2⟩
  have HN := Lib.hid hN
  clear h1 h2 hN
  have hL := (Blk.new w (.cells #[.slice a l.at_.length cap, .slice a' l.edges.length cap'] 25)).alloc (.cells #[.int .i64 pf, .int .i64 pm, .int .i64 pt, .int .i64 ps] 45)
  have hX := Blk.new (w.alloc (.cells #[.slice a l.at_.length cap, .slice a' l.edges.length cap'] 25)) (.cells #[.int .i64 pf, .int .i64 pm, .int .i64 pt, .int .i64 ps] 45)
  have hB0 := below2 w (.cells #[.slice a l.at_.length cap, .slice a' l.edges.length cap'] 25) (.cells #[.int .i64 pf, .int .i64 pm, .int .i64 pt, .int .i64 ps] 45)
  simp only [World.size_alloc] at hX
  have HL0 := Lib.hid hL
  have HX0 := Lib.hid hX
  have HB0 := Lib.hid hB0
  clear hB0 hL hX
  by_cases hg : 12 < l.at_.length ∨ 12 < l.edges.length
  · have HG := Lib.hid hg
    clear hg
    go_enter Tryd.func5, Tryd.ntmps5
    go_wp2_with fail
    refine (great_yes _ l _ (HV.out.below HB0.out) HG.out).mono ?_
    rintro e w1x ⟨rfl, hb⟩
    have HB1 := Lib.hid (bC HB0.out hb)
    have HL1 := Lib.hid (HL0.out.below hb)
    have HX1 := Lib.hid (HX0.out.below hb)
    clear hb HB0 HL0 HX0
    go_wp2_with fail
    refine (Works_any _ (HN.out.below HB1.out)).mono ?_
    rintro e w2x ⟨rfl, hb⟩
    have HB2 := Lib.hid (bC HB1.out hb)
    have HL2 := Lib.hid (HL1.out.below hb)
    have HX2 := Lib.hid (HX1.out.below hb)
    clear hb HB1 HL1 HX1
    go_wp2_with fail
    go_ret
    exact ⟨rfl, HB2.out⟩
  · have HS := Lib.hid (show l.small by unfold LogD.small; omega)
    have HG1 := Lib.hid (show l.at_.length ≤ 12 by omega)
    have HG2 := Lib.hid (show l.edges.length ≤ 12 by omega)
    clear hg
    obtain ⟨n, d, hnd⟩ := qe_agg (valR l ⟨pf, pm, pt, ps⟩) (cpE l ⟨pf, pm, pt, ps⟩)
    obtain ⟨e1, he1⟩ : ∃ e1, cpE l ⟨pf, pm, pt, ps⟩ = e1 := ⟨_, rfl⟩
    rw [he1] at hnd
    obtain ⟨n2, d2, hnd2⟩ := qe_agg (bestV l) (logErr l)
    obtain ⟨q, hq⟩ : ∃ q, (if logErr l = 0 then proofX l else ⟨0, 0, 0, 0⟩) = q := ⟨_, rfl⟩
    have hqv : (if logErr l = 0 then pkV (proofX l) else pkV ⟨0, 0, 0, 0⟩) = .agg #[.int .i64 q.f, .int .i64 q.m, .int .i64 q.t, .int .i64 q.s] := by rw [← hq]; split <;> rfl
    have HC1 : Hid (∀ W, NoneAt W → LogAt W (.agg #[.slice a l.at_.length cap, .slice a' l.edges.length cap']) l → Calls Tryd.prog 31 #[(.agg #[.slice a l.at_.length cap, .slice a' l.edges.length cap']), .agg #[.int .i64 pf, .int .i64 pm, .int .i64 pt, .int .i64 ps]] W (Gets (.tuple #[.agg #[.int .i64 n, .int .i64 d], .int .i64 e1]) W)) := Lib.hid (fun W hN h => by have := CheckProof_any _ l ⟨pf, pm, pt, ps⟩ W hN h HS.out; rw [he1, hnd] at this; exact this)
    have HC2 : Hid (∀ W, LogAt W (.agg #[.slice a l.at_.length cap, .slice a' l.edges.length cap']) l → Calls Tryd.prog 32 #[(.agg #[.slice a l.at_.length cap, .slice a' l.edges.length cap']), .agg #[.int .i64 pf, .int .i64 pm, .int .i64 pt, .int .i64 ps]] W (Gets (.tuple #[.agg #[.int .i64 n, .int .i64 d], .int .i64 e1]) W)) := Lib.hid (fun W h => by have := rCheckProof_any _ l ⟨pf, pm, pt, ps⟩ W h HS.out; rw [he1, hnd] at this; exact this)
    have HC3 : Hid (∀ W, LogAt W (.agg #[.slice a l.at_.length cap, .slice a' l.edges.length cap']) l → Calls Tryd.prog 33 #[(.agg #[.slice a l.at_.length cap, .slice a' l.edges.length cap'])] W (Gets (.tuple #[.agg #[.int .i64 q.f, .int .i64 q.m, .int .i64 q.t, .int .i64 q.s], .int .i64 (logErr l)]) W)) := Lib.hid (fun W h => by have := Proof_any _ l W h HS.out; rw [hqv] at this; exact this)
    have HC4 : Hid (∀ W, LogAt W (.agg #[.slice a l.at_.length cap, .slice a' l.edges.length cap']) l → Calls Tryd.prog 27 #[(.agg #[.slice a l.at_.length cap, .slice a' l.edges.length cap'])] W (Gets (.tuple #[.agg #[.int .i64 n2, .int .i64 d2], .int .i64 (logErr l)]) W)) := Lib.hid (fun W h => by have := rBest_any _ l W h HS.out; rw [hnd2] at this; exact this)
    have HQ := Lib.hid hq
    have HND2 := Lib.hid hnd2
    clear hqv hnd hnd2 hq he1
    by_cases h0 : logErr l = 0
    · have hq2 : q = proofX l := by rw [← HQ.out, if_pos h0]
      have hfit := logErr_fit' h0
      have hcp : cpE l q = 0 := by
        have hm := (proof_best hfit).1
        obtain ⟨f, m, t, s, e, g1, g2, g3, g4⟩ := pk_shape hm
        rw [hq2, e]
        unfold cpE
        rw [if_neg (by simp [h0]), if_pos]
        rcases g4 with ⟨rfl, rfl, rfl⟩ | ⟨g4, g5, g6⟩
        · exact ⟨by simp, by simp, by simp, by simpa using g1, .inl ⟨rfl, rfl, rfl⟩⟩
        · exact ⟨by simp, by simp; omega, by simp; omega, by simpa using g3, .inr ⟨g4, by simpa using g5, by simpa using g6⟩⟩
      have HC5 : Hid (∀ W, LogAt W (.agg #[.slice a l.at_.length cap, .slice a' l.edges.length cap']) l → Calls Tryd.prog 32 #[(.agg #[.slice a l.at_.length cap, .slice a' l.edges.length cap']), .agg #[.int .i64 q.f, .int .i64 q.m, .int .i64 q.t, .int .i64 q.s]] W (Gets (.tuple #[.agg #[.int .i64 n2, .int .i64 d2], .int .i64 0]) W)) := Lib.hid (fun W h => by have := rCheckProof_any _ l q W h HS.out; rw [hcp, hq2, (proof_best hfit).2, ← h0, HND2.out, h0] at this; rw [hq2]; exact this)
      rw [h0] at HC3 HC4
      clear hq2 hfit hcp h0
      have heq1 := fun w => pair_eq n d w
      have heq2 := fun w => pair_eq n2 d2 w
      go_enter Tryd.func5, Tryd.ntmps5
      go_wp2_with fail
      refine (great_no _ l _ (HV.out.below HB0.out) HG1.out HG2.out).mono ?_
      rintro e w1x ⟨rfl, hb⟩
      have HB1 := Lib.hid (bC HB0.out hb)
      have HL1 := Lib.hid (HL0.out.below hb)
      have HX1 := Lib.hid (HX0.out.below hb)
      clear hb HB0 HL0 HX0
      have Lc0 := HL1.out.cell 0
      have Lc1 := HL1.out.cell 1
      have Xc0 := HX1.out.cell 0
      have Xc1 := HX1.out.cell 1
      have Xc2 := HX1.out.cell 2
      have Xc3 := HX1.out.cell 3
      simp at Lc0 Lc1 Xc0 Xc1 Xc2 Xc3
      have Ll := HL1.out.lt
      have Xl := HX1.out.lt
      go_wp2_with fail
      clear Lc0 Lc1 Xc0 Xc1 Xc2 Xc3 Ll Xl
      refine (HC1.out _ (HN.out.below HB1.out) (HV.out.below HB1.out)).mono ?_
      rintro e w2x ⟨rfl, hb⟩
      have HB2 := Lib.hid (bC HB1.out hb)
      have HL2 := Lib.hid (HL1.out.below hb)
      have HX2 := Lib.hid (HX1.out.below hb)
      clear hb HB1 HL1 HX1
      have Lc0 := HL2.out.cell 0
      have Lc1 := HL2.out.cell 1
      have Xc0 := HX2.out.cell 0
      have Xc1 := HX2.out.cell 1
      have Xc2 := HX2.out.cell 2
      have Xc3 := HX2.out.cell 3
      simp at Lc0 Lc1 Xc0 Xc1 Xc2 Xc3
      have Ll := HL2.out.lt
      have Xl := HX2.out.lt
      go_wp2_with fail
      clear Lc0 Lc1 Xc0 Xc1 Xc2 Xc3 Ll Xl
      have hP := Blk.new w2x (.cells #[.int .i64 n, .int .i64 d] 31)
      have hA := below1 w2x (.cells #[.int .i64 n, .int .i64 d] 31)
      generalize w2x.alloc (.cells #[.int .i64 n, .int .i64 d] 31) = W2x at *
      have HP3 := Lib.hid hP
      clear hP
      have HB3 := Lib.hid (bC HB2.out hA)
      have HL3 := Lib.hid (HL2.out.below hA)
      have HX3 := Lib.hid (HX2.out.below hA)
      clear hA HB2 HL2 HX2
      refine (HC2.out _ (HV.out.below HB3.out)).mono ?_
      rintro e w4x ⟨rfl, hb⟩
      have HB4 := Lib.hid (bC HB3.out hb)
      have HL4 := Lib.hid (HL3.out.below hb)
      have HX4 := Lib.hid (HX3.out.below hb)
      have HP4 := Lib.hid (HP3.out.below hb)
      clear hb HB3 HL3 HX3 HP3
      have Lc0 := HL4.out.cell 0
      have Lc1 := HL4.out.cell 1
      have Xc0 := HX4.out.cell 0
      have Xc1 := HX4.out.cell 1
      have Xc2 := HX4.out.cell 2
      have Xc3 := HX4.out.cell 3
      simp at Lc0 Lc1 Xc0 Xc1 Xc2 Xc3
      have Ll := HL4.out.lt
      have Xl := HX4.out.lt
      go_wp2_with fail
      clear Lc0 Lc1 Xc0 Xc1 Xc2 Xc3 Ll Xl
      have hQ := Blk.new w4x (.cells #[.int .i64 n, .int .i64 d] 31)
      have hA := below1 w4x (.cells #[.int .i64 n, .int .i64 d] 31)
      generalize w4x.alloc (.cells #[.int .i64 n, .int .i64 d] 31) = W4x at *
      have HQ5 := Lib.hid hQ
      clear hQ
      have HB5 := Lib.hid (bC HB4.out hA)
      have HL5 := Lib.hid (HL4.out.below hA)
      have HX5 := Lib.hid (HX4.out.below hA)
      have HP5 := Lib.hid (HP4.out.below hA)
      clear hA HB4 HL4 HX4 HP4
      refine (HC3.out _ (HV.out.below HB5.out)).mono ?_
      rintro e w6x ⟨rfl, hb⟩
      have HB6 := Lib.hid (bC HB5.out hb)
      have HL6 := Lib.hid (HL5.out.below hb)
      have HX6 := Lib.hid (HX5.out.below hb)
      have HP6 := Lib.hid (HP5.out.below hb)
      have HQ6 := Lib.hid (HQ5.out.below hb)
      clear hb HB5 HL5 HX5 HP5 HQ5
      have Lc0 := HL6.out.cell 0
      have Lc1 := HL6.out.cell 1
      have Xc0 := HX6.out.cell 0
      have Xc1 := HX6.out.cell 1
      have Xc2 := HX6.out.cell 2
      have Xc3 := HX6.out.cell 3
      simp at Lc0 Lc1 Xc0 Xc1 Xc2 Xc3
      have Ll := HL6.out.lt
      have Xl := HX6.out.lt
      go_wp2_with fail
      clear Lc0 Lc1 Xc0 Xc1 Xc2 Xc3 Ll Xl
      have hT := Blk.new w6x (.cells #[.int .i64 q.f, .int .i64 q.m, .int .i64 q.t, .int .i64 q.s] 45)
      have hA := below1 w6x (.cells #[.int .i64 q.f, .int .i64 q.m, .int .i64 q.t, .int .i64 q.s] 45)
      generalize w6x.alloc (.cells #[.int .i64 q.f, .int .i64 q.m, .int .i64 q.t, .int .i64 q.s] 45) = W6x at *
      have HT7 := Lib.hid hT
      clear hT
      have HB7 := Lib.hid (bC HB6.out hA)
      have HL7 := Lib.hid (HL6.out.below hA)
      have HX7 := Lib.hid (HX6.out.below hA)
      have HP7 := Lib.hid (HP6.out.below hA)
      have HQ7 := Lib.hid (HQ6.out.below hA)
      clear hA HB6 HL6 HX6 HP6 HQ6
      refine (HC4.out _ (HV.out.below HB7.out)).mono ?_
      rintro e w8x ⟨rfl, hb⟩
      have HB8 := Lib.hid (bC HB7.out hb)
      have HL8 := Lib.hid (HL7.out.below hb)
      have HX8 := Lib.hid (HX7.out.below hb)
      have HP8 := Lib.hid (HP7.out.below hb)
      have HQ8 := Lib.hid (HQ7.out.below hb)
      have HT8 := Lib.hid (HT7.out.below hb)
      clear hb HB7 HL7 HX7 HP7 HQ7 HT7
      have Lc0 := HL8.out.cell 0
      have Lc1 := HL8.out.cell 1
      have Pc0 := HP8.out.cell 0
      have Pc1 := HP8.out.cell 1
      have Qc0 := HQ8.out.cell 0
      have Qc1 := HQ8.out.cell 1
      have Tc0 := HT8.out.cell 0
      have Tc1 := HT8.out.cell 1
      have Tc2 := HT8.out.cell 2
      have Tc3 := HT8.out.cell 3
      simp at Lc0 Lc1 Pc0 Pc1 Qc0 Qc1 Tc0 Tc1 Tc2 Tc3
      have Ll := HL8.out.lt
      have Pl := HP8.out.lt
      have Ql := HQ8.out.lt
      have Tl := HT8.out.lt
      go_wp2_with fail
      clear Lc0 Lc1 Pc0 Pc1 Qc0 Qc1 Tc0 Tc1 Tc2 Tc3 Ll Pl Ql Tl
      have hU := Blk.new w8x (.cells #[.int .i64 n2, .int .i64 d2] 31)
      have hA := below1 w8x (.cells #[.int .i64 n2, .int .i64 d2] 31)
      generalize w8x.alloc (.cells #[.int .i64 n2, .int .i64 d2] 31) = W8x at *
      have HU9 := Lib.hid hU
      clear hU
      have HB9 := Lib.hid (bC HB8.out hA)
      have HL9 := Lib.hid (HL8.out.below hA)
      have HX9 := Lib.hid (HX8.out.below hA)
      have HP9 := Lib.hid (HP8.out.below hA)
      have HQ9 := Lib.hid (HQ8.out.below hA)
      have HT9 := Lib.hid (HT8.out.below hA)
      clear hA HB8 HL8 HX8 HP8 HQ8 HT8
      refine (HC5.out _ (HV.out.below HB9.out)).mono ?_
      rintro e w10x ⟨rfl, hb⟩
      have HB10 := Lib.hid (bC HB9.out hb)
      have HL10 := Lib.hid (HL9.out.below hb)
      have HX10 := Lib.hid (HX9.out.below hb)
      have HP10 := Lib.hid (HP9.out.below hb)
      have HQ10 := Lib.hid (HQ9.out.below hb)
      have HT10 := Lib.hid (HT9.out.below hb)
      have HU10 := Lib.hid (HU9.out.below hb)
      clear hb HB9 HL9 HX9 HP9 HQ9 HT9 HU9
      have Uc0 := HU10.out.cell 0
      have Uc1 := HU10.out.cell 1
      simp at Uc0 Uc1
      have Ul := HU10.out.lt
      go_wp2_with fail
      clear Uc0 Uc1 Ul
      have hV := Blk.new w10x (.cells #[.int .i64 n2, .int .i64 d2] 31)
      have hA := below1 w10x (.cells #[.int .i64 n2, .int .i64 d2] 31)
      generalize w10x.alloc (.cells #[.int .i64 n2, .int .i64 d2] 31) = W10x at *
      have HV11 := Lib.hid hV
      clear hV
      have HB11 := Lib.hid (bC HB10.out hA)
      have HL11 := Lib.hid (HL10.out.below hA)
      have HX11 := Lib.hid (HX10.out.below hA)
      have HP11 := Lib.hid (HP10.out.below hA)
      have HQ11 := Lib.hid (HQ10.out.below hA)
      have HT11 := Lib.hid (HT10.out.below hA)
      have HU11 := Lib.hid (HU10.out.below hA)
      clear hA HB10 HL10 HX10 HP10 HQ10 HT10 HU10
      refine (Works_any _ (HN.out.below HB11.out)).mono ?_
      rintro e w12x ⟨rfl, hb⟩
      have HB12 := Lib.hid (bC HB11.out hb)
      have HL12 := Lib.hid (HL11.out.below hb)
      have HX12 := Lib.hid (HX11.out.below hb)
      have HP12 := Lib.hid (HP11.out.below hb)
      have HQ12 := Lib.hid (HQ11.out.below hb)
      have HT12 := Lib.hid (HT11.out.below hb)
      have HU12 := Lib.hid (HU11.out.below hb)
      have HV12 := Lib.hid (HV11.out.below hb)
      clear hb HB11 HL11 HX11 HP11 HQ11 HT11 HU11 HV11
      go_wp2_with fail
      go_ret
      exact ⟨rfl, HB12.out⟩
    · have hq2 : q = ⟨0, 0, 0, 0⟩ := by rw [← HQ.out, if_neg h0]
      have hne : (logErr l != 0) = true := by simp [h0]
      subst hq2
      clear h0
      have heq1 := fun w => pair_eq n d w
      have heq2 := fun w => pk_eq2 0 0 0 0 w
      go_enter Tryd.func5, Tryd.ntmps5
      go_wp2_with fail
      refine (great_no _ l _ (HV.out.below HB0.out) HG1.out HG2.out).mono ?_
      rintro e w1x ⟨rfl, hb⟩
      have HB1 := Lib.hid (bC HB0.out hb)
      have HL1 := Lib.hid (HL0.out.below hb)
      have HX1 := Lib.hid (HX0.out.below hb)
      clear hb HB0 HL0 HX0
      have Lc0 := HL1.out.cell 0
      have Lc1 := HL1.out.cell 1
      have Xc0 := HX1.out.cell 0
      have Xc1 := HX1.out.cell 1
      have Xc2 := HX1.out.cell 2
      have Xc3 := HX1.out.cell 3
      simp at Lc0 Lc1 Xc0 Xc1 Xc2 Xc3
      have Ll := HL1.out.lt
      have Xl := HX1.out.lt
      go_wp2_with fail
      clear Lc0 Lc1 Xc0 Xc1 Xc2 Xc3 Ll Xl
      refine (HC1.out _ (HN.out.below HB1.out) (HV.out.below HB1.out)).mono ?_
      rintro e w2x ⟨rfl, hb⟩
      have HB2 := Lib.hid (bC HB1.out hb)
      have HL2 := Lib.hid (HL1.out.below hb)
      have HX2 := Lib.hid (HX1.out.below hb)
      clear hb HB1 HL1 HX1
      have Lc0 := HL2.out.cell 0
      have Lc1 := HL2.out.cell 1
      have Xc0 := HX2.out.cell 0
      have Xc1 := HX2.out.cell 1
      have Xc2 := HX2.out.cell 2
      have Xc3 := HX2.out.cell 3
      simp at Lc0 Lc1 Xc0 Xc1 Xc2 Xc3
      have Ll := HL2.out.lt
      have Xl := HX2.out.lt
      go_wp2_with fail
      clear Lc0 Lc1 Xc0 Xc1 Xc2 Xc3 Ll Xl
      have hP := Blk.new w2x (.cells #[.int .i64 n, .int .i64 d] 31)
      have hA := below1 w2x (.cells #[.int .i64 n, .int .i64 d] 31)
      generalize w2x.alloc (.cells #[.int .i64 n, .int .i64 d] 31) = W2x at *
      have HP3 := Lib.hid hP
      clear hP
      have HB3 := Lib.hid (bC HB2.out hA)
      have HL3 := Lib.hid (HL2.out.below hA)
      have HX3 := Lib.hid (HX2.out.below hA)
      clear hA HB2 HL2 HX2
      refine (HC2.out _ (HV.out.below HB3.out)).mono ?_
      rintro e w4x ⟨rfl, hb⟩
      have HB4 := Lib.hid (bC HB3.out hb)
      have HL4 := Lib.hid (HL3.out.below hb)
      have HX4 := Lib.hid (HX3.out.below hb)
      have HP4 := Lib.hid (HP3.out.below hb)
      clear hb HB3 HL3 HX3 HP3
      have Lc0 := HL4.out.cell 0
      have Lc1 := HL4.out.cell 1
      have Xc0 := HX4.out.cell 0
      have Xc1 := HX4.out.cell 1
      have Xc2 := HX4.out.cell 2
      have Xc3 := HX4.out.cell 3
      simp at Lc0 Lc1 Xc0 Xc1 Xc2 Xc3
      have Ll := HL4.out.lt
      have Xl := HX4.out.lt
      go_wp2_with fail
      clear Lc0 Lc1 Xc0 Xc1 Xc2 Xc3 Ll Xl
      have hQ := Blk.new w4x (.cells #[.int .i64 n, .int .i64 d] 31)
      have hA := below1 w4x (.cells #[.int .i64 n, .int .i64 d] 31)
      generalize w4x.alloc (.cells #[.int .i64 n, .int .i64 d] 31) = W4x at *
      have HQ5 := Lib.hid hQ
      clear hQ
      have HB5 := Lib.hid (bC HB4.out hA)
      have HL5 := Lib.hid (HL4.out.below hA)
      have HX5 := Lib.hid (HX4.out.below hA)
      have HP5 := Lib.hid (HP4.out.below hA)
      clear hA HB4 HL4 HX4 HP4
      refine (HC3.out _ (HV.out.below HB5.out)).mono ?_
      rintro e w6x ⟨rfl, hb⟩
      have HB6 := Lib.hid (bC HB5.out hb)
      have HL6 := Lib.hid (HL5.out.below hb)
      have HX6 := Lib.hid (HX5.out.below hb)
      have HP6 := Lib.hid (HP5.out.below hb)
      have HQ6 := Lib.hid (HQ5.out.below hb)
      clear hb HB5 HL5 HX5 HP5 HQ5
      have Lc0 := HL6.out.cell 0
      have Lc1 := HL6.out.cell 1
      have Xc0 := HX6.out.cell 0
      have Xc1 := HX6.out.cell 1
      have Xc2 := HX6.out.cell 2
      have Xc3 := HX6.out.cell 3
      simp at Lc0 Lc1 Xc0 Xc1 Xc2 Xc3
      have Ll := HL6.out.lt
      have Xl := HX6.out.lt
      go_wp2_with fail
      clear Lc0 Lc1 Xc0 Xc1 Xc2 Xc3 Ll Xl
      have hT := Blk.new w6x (.cells #[.int .i64 0, .int .i64 0, .int .i64 0, .int .i64 0] 45)
      have hA := below1 w6x (.cells #[.int .i64 0, .int .i64 0, .int .i64 0, .int .i64 0] 45)
      generalize w6x.alloc (.cells #[.int .i64 0, .int .i64 0, .int .i64 0, .int .i64 0] 45) = W6x at *
      have HT7 := Lib.hid hT
      clear hT
      have HB7 := Lib.hid (bC HB6.out hA)
      have HL7 := Lib.hid (HL6.out.below hA)
      have HX7 := Lib.hid (HX6.out.below hA)
      have HP7 := Lib.hid (HP6.out.below hA)
      have HQ7 := Lib.hid (HQ6.out.below hA)
      clear hA HB6 HL6 HX6 HP6 HQ6
      refine (HC4.out _ (HV.out.below HB7.out)).mono ?_
      rintro e w8x ⟨rfl, hb⟩
      have HB8 := Lib.hid (bC HB7.out hb)
      have HL8 := Lib.hid (HL7.out.below hb)
      have HX8 := Lib.hid (HX7.out.below hb)
      have HP8 := Lib.hid (HP7.out.below hb)
      have HQ8 := Lib.hid (HQ7.out.below hb)
      have HT8 := Lib.hid (HT7.out.below hb)
      clear hb HB7 HL7 HX7 HP7 HQ7 HT7
      have Lc0 := HL8.out.cell 0
      have Lc1 := HL8.out.cell 1
      have Pc0 := HP8.out.cell 0
      have Pc1 := HP8.out.cell 1
      have Qc0 := HQ8.out.cell 0
      have Qc1 := HQ8.out.cell 1
      have Tc0 := HT8.out.cell 0
      have Tc1 := HT8.out.cell 1
      have Tc2 := HT8.out.cell 2
      have Tc3 := HT8.out.cell 3
      simp at Lc0 Lc1 Pc0 Pc1 Qc0 Qc1 Tc0 Tc1 Tc2 Tc3
      have Ll := HL8.out.lt
      have Pl := HP8.out.lt
      have Ql := HQ8.out.lt
      have Tl := HT8.out.lt
      go_wp2_with fail
      clear Lc0 Lc1 Pc0 Pc1 Qc0 Qc1 Tc0 Tc1 Tc2 Tc3 Ll Pl Ql Tl
      have hU := Blk.new w8x (.cells #[.int .i64 n2, .int .i64 d2] 31)
      have hA := below1 w8x (.cells #[.int .i64 n2, .int .i64 d2] 31)
      generalize w8x.alloc (.cells #[.int .i64 n2, .int .i64 d2] 31) = W8x at *
      have HU9 := Lib.hid hU
      clear hU
      have HB9 := Lib.hid (bC HB8.out hA)
      have HL9 := Lib.hid (HL8.out.below hA)
      have HX9 := Lib.hid (HX8.out.below hA)
      have HP9 := Lib.hid (HP8.out.below hA)
      have HQ9 := Lib.hid (HQ8.out.below hA)
      have HT9 := Lib.hid (HT8.out.below hA)
      clear hA HB8 HL8 HX8 HP8 HQ8 HT8
      refine (Works_any _ (HN.out.below HB9.out)).mono ?_
      rintro e w10x ⟨rfl, hb⟩
      have HB10 := Lib.hid (bC HB9.out hb)
      have HL10 := Lib.hid (HL9.out.below hb)
      have HX10 := Lib.hid (HX9.out.below hb)
      have HP10 := Lib.hid (HP9.out.below hb)
      have HQ10 := Lib.hid (HQ9.out.below hb)
      have HT10 := Lib.hid (HT9.out.below hb)
      have HU10 := Lib.hid (HU9.out.below hb)
      clear hb HB9 HL9 HX9 HP9 HQ9 HT9 HU9
      go_wp2_with fail
      go_ret
      exact ⟨rfl, HB10.out⟩
end Go.Proofs.YtlhldkiggmlegaaDoor

namespace Go.Proofs.YtlhldkiggmlegaaDoor
open Go.RowKit Go.Shelf Go.Sort
attribute [local go_sem] Oper.semAt_some

/-! ## The law PeelBests -/
theorem line_eq0 (a b c : Int) (w : World) : (Op.equalIn 10000 27 (.agg #[.int .i64 a, .int .i64 b, .int .i64 c]) (.agg #[.int .i64 a, .int .i64 b, .int .i64 c])).run Tryd.prog w = .ok true w := by
  have hp : Tryd.prog.stoodInHeld 27 = false := by kernel_rfl
  have ht : Tryd.prog.underlying 27 = some (.struct (Tryd.prog.fieldsOf 27)) := by kernel_rfl
  have he : Tryd.prog.underlying 2 = some (.int .i64) := by kernel_rfl
  have hf : (Tryd.prog.fieldsOf 27).toList.map (fun f => (f.name, f.type, f.offset)) = [("Den", 2, 0), ("Start", 2, 1), ("Step", 2, 2)] := by kernel_rfl
  have p0 : ∀ (a b c : Int) w, (part 2 #[.int .i64 a, .int .i64 b, .int .i64 c] 0).run Tryd.prog w = .ok (.int .i64 a) w := fun _ _ _ w => by kernel_rfl
  have p1 : ∀ (a b c : Int) w, (part 2 #[.int .i64 a, .int .i64 b, .int .i64 c] 1).run Tryd.prog w = .ok (.int .i64 b) w := fun _ _ _ w => by kernel_rfl
  have p2 : ∀ (a b c : Int) w, (part 2 #[.int .i64 a, .int .i64 b, .int .i64 c] 2).run Tryd.prog w = .ok (.int .i64 c) w := fun _ _ _ w => by kernel_rfl
  have h : ∀ a b w, (Op.equalIn 9999 2 (.int .i64 a) (.int .i64 b)).run Tryd.prog w = .ok (a == b) w := fun a b w => run_equalIn_int w 9998 _ _ _ a b he
  rw [run_equalIn_agg w 9999 _ _ _ ht hp]
  obtain ⟨f0, f1, f2, hl⟩ : ∃ f0 f1 f2, (Tryd.prog.fieldsOf 27).toList = [f0, f1, f2] := by
    have hlen : (Tryd.prog.fieldsOf 27).toList.length = 3 := by have := congrArg List.length hf; simpa using this
    generalize (Tryd.prog.fieldsOf 27).toList = fl at hlen
    match fl, hlen with
    | [f0, f1, f2], _ => exact ⟨f0, f1, f2, rfl⟩
  rw [hl] at hf ⊢
  simp only [List.map_cons, List.map_nil, List.cons.injEq, Prod.mk.injEq, and_true] at hf
  obtain ⟨⟨n0, t0, o0⟩, ⟨n1, t1, o1⟩, n2, t2, o2⟩ := hf
  simp only [Op.eqFields, n0, t0, o0, n1, t1, o1, n2, t2, o2]
  simp [p0, p1, p2, h]
set_option maxRecDepth 100000 in
set_option maxHeartbeats 4000000 in
theorem PeelBests_any (v : Value) (l : LogD) (sp sh : Int) (w : World) (hN : NoneAt w) (hv : LogAt w v l) :
    Calls Tryd.prog 4 #[v, .int .i64 sp, .int .i64 sh] w fun e w' => e = .returned (.bool true) ∧ Below w.heap.size w w' := by
  obtain ⟨va, ve, rfl, h1, h2⟩ := hv
  obtain ⟨a, cap, rfl⟩ := h1.slice
  obtain ⟨a', cap', rfl⟩ := h2.slice
  have HV : Hid (LogAt w (.agg #[.slice a l.at_.length cap, .slice a' l.edges.length cap']) l) := Lib.hid ⟨_, _, rfl, h1, h2⟩
  have HN := Lib.hid hN
  clear h1 h2 hN
  have hL := Blk.new w (.cells #[.slice a l.at_.length cap, .slice a' l.edges.length cap'] 25)
  have hB0 := below1 w (.cells #[.slice a l.at_.length cap, .slice a' l.edges.length cap'] 25)
  have HL0 := Lib.hid hL
  have HB0 := Lib.hid hB0
  clear hB0 hL
  by_cases hg : 12 < l.at_.length ∨ 12 < l.edges.length
  · have HG := Lib.hid hg
    clear hg
    go_enter Tryd.func4, Tryd.ntmps4
    go_wp2_with fail
    refine (great_yes _ l _ (HV.out.below HB0.out) HG.out).mono ?_
    rintro e w1x ⟨rfl, hb⟩
    have HB1 := Lib.hid (bC HB0.out hb)
    have HL1 := Lib.hid (HL0.out.below hb)
    clear hb HB0 HL0
    go_wp2_with fail
    refine (Works_any _ (HN.out.below HB1.out)).mono ?_
    rintro e w2x ⟨rfl, hb⟩
    have HB2 := Lib.hid (bC HB1.out hb)
    have HL2 := Lib.hid (HL1.out.below hb)
    clear hb HB1 HL1
    go_wp2_with fail
    go_ret
    exact ⟨rfl, HB2.out⟩
  · have HS := Lib.hid (show l.small by unfold LogD.small; omega)
    have HG1 := Lib.hid (show l.at_.length ≤ 12 by omega)
    have HG2 := Lib.hid (show l.edges.length ≤ 12 by omega)
    clear hg
    obtain ⟨n, d, hnd⟩ := qe_agg (bestV l) (logErr l)
    obtain ⟨tv, htv⟩ : ∃ tv, turnsV l sp sh = tv := ⟨_, rfl⟩
    obtain ⟨te, hte⟩ : ∃ te, turnsE l sp sh = te := ⟨_, rfl⟩
    obtain ⟨x, hx⟩ : ∃ x : Int × Int × Int, (if logErr l = 0 then lineD (lineX l) else (0, 0, 0)) = x := ⟨_, rfl⟩
    have hxv : le (lineD (lineX l)) (logErr l) = .tuple #[.agg #[.int .i64 x.1, .int .i64 x.2.1, .int .i64 x.2.2], .int .i64 (logErr l)] := by rw [← hx, le]; split <;> rfl
    have HC1 : Hid (∀ W, LogAt W (.agg #[.slice a l.at_.length cap, .slice a' l.edges.length cap']) l → Calls Tryd.prog 26 #[(.agg #[.slice a l.at_.length cap, .slice a' l.edges.length cap'])] W (Gets (.tuple #[.agg #[.int .i64 n, .int .i64 d], .int .i64 (logErr l)]) W)) := Lib.hid (fun W h => by have := Best_any _ l W h HS.out; rw [hnd] at this; exact this)
    have HC2 : Hid (∀ W, LogAt W (.agg #[.slice a l.at_.length cap, .slice a' l.edges.length cap']) l → Calls Tryd.prog 27 #[(.agg #[.slice a l.at_.length cap, .slice a' l.edges.length cap'])] W (Gets (.tuple #[.agg #[.int .i64 n, .int .i64 d], .int .i64 (logErr l)]) W)) := Lib.hid (fun W h => by have := rBest_any _ l W h HS.out; rw [hnd] at this; exact this)
    have HC3 : Hid (∀ W, LogAt W (.agg #[.slice a l.at_.length cap, .slice a' l.edges.length cap']) l → Calls Tryd.prog 28 #[(.agg #[.slice a l.at_.length cap, .slice a' l.edges.length cap'])] W (Gets (.tuple #[.agg #[.int .i64 x.1, .int .i64 x.2.1, .int .i64 x.2.2], .int .i64 (logErr l)]) W)) := Lib.hid (fun W h => by have := Line_any _ l W h HS.out; rw [hxv] at this; exact this)
    have HC4 : Hid (∀ W, LogAt W (.agg #[.slice a l.at_.length cap, .slice a' l.edges.length cap']) l → Calls Tryd.prog 29 #[(.agg #[.slice a l.at_.length cap, .slice a' l.edges.length cap']), .int .i64 sp, .int .i64 sh] W (Gets (.tuple #[.int .i64 tv, .int .i64 te]) W)) := Lib.hid (fun W h => by have := Turns_any _ l sp sh W h HS.out; rw [htv, hte] at this; exact this)
    have HC5 : Hid (∀ W, LogAt W (.agg #[.slice a l.at_.length cap, .slice a' l.edges.length cap']) l → Calls Tryd.prog 30 #[(.agg #[.slice a l.at_.length cap, .slice a' l.edges.length cap']), .int .i64 sp, .int .i64 sh] W (Gets (.tuple #[.int .i64 tv, .int .i64 te]) W)) := Lib.hid (fun W h => by have := rTurns_any _ l sp sh W h HS.out; rw [htv, hte] at this; exact this)
    have HX := Lib.hid hx
    have HND := Lib.hid hnd
    clear hxv hnd hx htv hte
    by_cases h0 : logErr l = 0
    · have hx2 : x = lineD (lineX l) := by rw [← HX.out, if_pos h0]
      have hfit := logErr_fit' h0
      have HC6 : Hid (∀ W, LogAt W (.agg #[.slice a l.at_.length cap, .slice a' l.edges.length cap']) l → Calls Tryd.prog 21 #[(.agg #[.slice a l.at_.length cap, .slice a' l.edges.length cap']), .agg #[.int .i64 x.1, .int .i64 x.2.1, .int .i64 x.2.2]] W (Gets (.tuple #[.agg #[.int .i64 n, .int .i64 d], .int .i64 0]) W)) := Lib.hid (fun W h => by
        have := rCore_any _ l x.1 x.2.1 x.2.2 W h HS.out
        have e1 : coreE l x.1 x.2.1 x.2.2 = 0 := by rw [coreE, if_pos h0, hx2]; exact line_valid hfit
        have e2 : Value.tuple #[coreV l x.1 x.2.1 x.2.2, .int .i64 0] = .tuple #[.agg #[.int .i64 n, .int .i64 d], .int .i64 0] := by
          rw [coreV, if_pos e1, hx2, line_best hfit, ← h0, ← HND.out, qe, if_pos h0]
        rw [e1, e2] at this
        exact this)
      rw [h0] at HC1 HC2 HC3
      clear hx2 hfit h0
      have heq1 := fun w => pair_eq n d w
      go_enter Tryd.func4, Tryd.ntmps4
      go_wp2_with fail
      refine (great_no _ l _ (HV.out.below HB0.out) HG1.out HG2.out).mono ?_
      rintro e w1x ⟨rfl, hb⟩
      have HB1 := Lib.hid (bC HB0.out hb)
      have HL1 := Lib.hid (HL0.out.below hb)
      clear hb HB0 HL0
      have Lc0 := HL1.out.cell 0
      have Lc1 := HL1.out.cell 1
      simp at Lc0 Lc1
      have Ll := HL1.out.lt
      go_wp2_with fail
      clear Lc0 Lc1 Ll
      refine (HC1.out _ (HV.out.below HB1.out)).mono ?_
      rintro e w2x ⟨rfl, hb⟩
      have HB2 := Lib.hid (bC HB1.out hb)
      have HL2 := Lib.hid (HL1.out.below hb)
      clear hb HB1 HL1
      have Lc0 := HL2.out.cell 0
      have Lc1 := HL2.out.cell 1
      simp at Lc0 Lc1
      have Ll := HL2.out.lt
      go_wp2_with fail
      clear Lc0 Lc1 Ll
      have hP := Blk.new w2x (.cells #[.int .i64 n, .int .i64 d] 31)
      have hA := below1 w2x (.cells #[.int .i64 n, .int .i64 d] 31)
      generalize w2x.alloc (.cells #[.int .i64 n, .int .i64 d] 31) = W2x at *
      have HP3 := Lib.hid hP
      clear hP
      have HB3 := Lib.hid (bC HB2.out hA)
      have HL3 := Lib.hid (HL2.out.below hA)
      clear hA HB2 HL2
      refine (HC2.out _ (HV.out.below HB3.out)).mono ?_
      rintro e w4x ⟨rfl, hb⟩
      have HB4 := Lib.hid (bC HB3.out hb)
      have HL4 := Lib.hid (HL3.out.below hb)
      have HP4 := Lib.hid (HP3.out.below hb)
      clear hb HB3 HL3 HP3
      have Lc0 := HL4.out.cell 0
      have Lc1 := HL4.out.cell 1
      simp at Lc0 Lc1
      have Ll := HL4.out.lt
      go_wp2_with fail
      clear Lc0 Lc1 Ll
      have hQ := Blk.new w4x (.cells #[.int .i64 n, .int .i64 d] 31)
      have hA := below1 w4x (.cells #[.int .i64 n, .int .i64 d] 31)
      generalize w4x.alloc (.cells #[.int .i64 n, .int .i64 d] 31) = W4x at *
      have HQ5 := Lib.hid hQ
      clear hQ
      have HB5 := Lib.hid (bC HB4.out hA)
      have HL5 := Lib.hid (HL4.out.below hA)
      have HP5 := Lib.hid (HP4.out.below hA)
      clear hA HB4 HL4 HP4
      refine (HC3.out _ (HV.out.below HB5.out)).mono ?_
      rintro e w6x ⟨rfl, hb⟩
      have HB6 := Lib.hid (bC HB5.out hb)
      have HL6 := Lib.hid (HL5.out.below hb)
      have HP6 := Lib.hid (HP5.out.below hb)
      have HQ6 := Lib.hid (HQ5.out.below hb)
      clear hb HB5 HL5 HP5 HQ5
      have Lc0 := HL6.out.cell 0
      have Lc1 := HL6.out.cell 1
      simp at Lc0 Lc1
      have Ll := HL6.out.lt
      go_wp2_with fail
      clear Lc0 Lc1 Ll
      have hT := Blk.new w6x (.cells #[.int .i64 x.1, .int .i64 x.2.1, .int .i64 x.2.2] 27)
      have hA := below1 w6x (.cells #[.int .i64 x.1, .int .i64 x.2.1, .int .i64 x.2.2] 27)
      generalize w6x.alloc (.cells #[.int .i64 x.1, .int .i64 x.2.1, .int .i64 x.2.2] 27) = W6x at *
      have HT7 := Lib.hid hT
      clear hT
      have HB7 := Lib.hid (bC HB6.out hA)
      have HL7 := Lib.hid (HL6.out.below hA)
      have HP7 := Lib.hid (HP6.out.below hA)
      have HQ7 := Lib.hid (HQ6.out.below hA)
      clear hA HB6 HL6 HP6 HQ6
      refine (HC4.out _ (HV.out.below HB7.out)).mono ?_
      rintro e w8x ⟨rfl, hb⟩
      have HB8 := Lib.hid (bC HB7.out hb)
      have HL8 := Lib.hid (HL7.out.below hb)
      have HP8 := Lib.hid (HP7.out.below hb)
      have HQ8 := Lib.hid (HQ7.out.below hb)
      have HT8 := Lib.hid (HT7.out.below hb)
      clear hb HB7 HL7 HP7 HQ7 HT7
      have Lc0 := HL8.out.cell 0
      have Lc1 := HL8.out.cell 1
      simp at Lc0 Lc1
      have Ll := HL8.out.lt
      go_wp2_with fail
      clear Lc0 Lc1 Ll
      refine (HC5.out _ (HV.out.below HB8.out)).mono ?_
      rintro e w9x ⟨rfl, hb⟩
      have HB9 := Lib.hid (bC HB8.out hb)
      have HL9 := Lib.hid (HL8.out.below hb)
      have HP9 := Lib.hid (HP8.out.below hb)
      have HQ9 := Lib.hid (HQ8.out.below hb)
      have HT9 := Lib.hid (HT8.out.below hb)
      clear hb HB8 HL8 HP8 HQ8 HT8
      have Lc0 := HL9.out.cell 0
      have Lc1 := HL9.out.cell 1
      have Pc0 := HP9.out.cell 0
      have Pc1 := HP9.out.cell 1
      have Qc0 := HQ9.out.cell 0
      have Qc1 := HQ9.out.cell 1
      have Tc0 := HT9.out.cell 0
      have Tc1 := HT9.out.cell 1
      have Tc2 := HT9.out.cell 2
      simp at Lc0 Lc1 Pc0 Pc1 Qc0 Qc1 Tc0 Tc1 Tc2
      have Ll := HL9.out.lt
      have Pl := HP9.out.lt
      have Ql := HQ9.out.lt
      have Tl := HT9.out.lt
      go_wp2_with fail
      clear Lc0 Lc1 Pc0 Pc1 Qc0 Qc1 Tc0 Tc1 Tc2 Ll Pl Ql Tl
      refine (HC6.out _ (HV.out.below HB9.out)).mono ?_
      rintro e w10x ⟨rfl, hb⟩
      have HB10 := Lib.hid (bC HB9.out hb)
      have HL10 := Lib.hid (HL9.out.below hb)
      have HP10 := Lib.hid (HP9.out.below hb)
      have HQ10 := Lib.hid (HQ9.out.below hb)
      have HT10 := Lib.hid (HT9.out.below hb)
      clear hb HB9 HL9 HP9 HQ9 HT9
      have Qc0 := HQ10.out.cell 0
      have Qc1 := HQ10.out.cell 1
      simp at Qc0 Qc1
      have Ql := HQ10.out.lt
      go_wp2_with fail
      clear Qc0 Qc1 Ql
      have hV := Blk.new w10x (.cells #[.int .i64 n, .int .i64 d] 31)
      have hA := below1 w10x (.cells #[.int .i64 n, .int .i64 d] 31)
      generalize w10x.alloc (.cells #[.int .i64 n, .int .i64 d] 31) = W10x at *
      have HV11 := Lib.hid hV
      clear hV
      have HB11 := Lib.hid (bC HB10.out hA)
      have HL11 := Lib.hid (HL10.out.below hA)
      have HP11 := Lib.hid (HP10.out.below hA)
      have HQ11 := Lib.hid (HQ10.out.below hA)
      have HT11 := Lib.hid (HT10.out.below hA)
      clear hA HB10 HL10 HP10 HQ10 HT10
      refine (Works_any _ (HN.out.below HB11.out)).mono ?_
      rintro e w12x ⟨rfl, hb⟩
      have HB12 := Lib.hid (bC HB11.out hb)
      have HL12 := Lib.hid (HL11.out.below hb)
      have HP12 := Lib.hid (HP11.out.below hb)
      have HQ12 := Lib.hid (HQ11.out.below hb)
      have HT12 := Lib.hid (HT11.out.below hb)
      have HV12 := Lib.hid (HV11.out.below hb)
      clear hb HB11 HL11 HP11 HQ11 HT11 HV11
      go_wp2_with fail
      go_ret
      exact ⟨rfl, HB12.out⟩
    · have hx2 : x = (0, 0, 0) := by rw [← HX.out, if_neg h0]
      have hne : (logErr l != 0) = true := by simp [h0]
      subst hx2
      clear h0
      have heq1 := fun w => pair_eq n d w
      have heq2 := fun w => line_eq0 0 0 0 w
      go_enter Tryd.func4, Tryd.ntmps4
      go_wp2_with fail
      refine (great_no _ l _ (HV.out.below HB0.out) HG1.out HG2.out).mono ?_
      rintro e w1x ⟨rfl, hb⟩
      have HB1 := Lib.hid (bC HB0.out hb)
      have HL1 := Lib.hid (HL0.out.below hb)
      clear hb HB0 HL0
      have Lc0 := HL1.out.cell 0
      have Lc1 := HL1.out.cell 1
      simp at Lc0 Lc1
      have Ll := HL1.out.lt
      go_wp2_with fail
      clear Lc0 Lc1 Ll
      refine (HC1.out _ (HV.out.below HB1.out)).mono ?_
      rintro e w2x ⟨rfl, hb⟩
      have HB2 := Lib.hid (bC HB1.out hb)
      have HL2 := Lib.hid (HL1.out.below hb)
      clear hb HB1 HL1
      have Lc0 := HL2.out.cell 0
      have Lc1 := HL2.out.cell 1
      simp at Lc0 Lc1
      have Ll := HL2.out.lt
      go_wp2_with fail
      clear Lc0 Lc1 Ll
      have hP := Blk.new w2x (.cells #[.int .i64 n, .int .i64 d] 31)
      have hA := below1 w2x (.cells #[.int .i64 n, .int .i64 d] 31)
      generalize w2x.alloc (.cells #[.int .i64 n, .int .i64 d] 31) = W2x at *
      have HP3 := Lib.hid hP
      clear hP
      have HB3 := Lib.hid (bC HB2.out hA)
      have HL3 := Lib.hid (HL2.out.below hA)
      clear hA HB2 HL2
      refine (HC2.out _ (HV.out.below HB3.out)).mono ?_
      rintro e w4x ⟨rfl, hb⟩
      have HB4 := Lib.hid (bC HB3.out hb)
      have HL4 := Lib.hid (HL3.out.below hb)
      have HP4 := Lib.hid (HP3.out.below hb)
      clear hb HB3 HL3 HP3
      have Lc0 := HL4.out.cell 0
      have Lc1 := HL4.out.cell 1
      simp at Lc0 Lc1
      have Ll := HL4.out.lt
      go_wp2_with fail
      clear Lc0 Lc1 Ll
      have hQ := Blk.new w4x (.cells #[.int .i64 n, .int .i64 d] 31)
      have hA := below1 w4x (.cells #[.int .i64 n, .int .i64 d] 31)
      generalize w4x.alloc (.cells #[.int .i64 n, .int .i64 d] 31) = W4x at *
      have HQ5 := Lib.hid hQ
      clear hQ
      have HB5 := Lib.hid (bC HB4.out hA)
      have HL5 := Lib.hid (HL4.out.below hA)
      have HP5 := Lib.hid (HP4.out.below hA)
      clear hA HB4 HL4 HP4
      refine (HC3.out _ (HV.out.below HB5.out)).mono ?_
      rintro e w6x ⟨rfl, hb⟩
      have HB6 := Lib.hid (bC HB5.out hb)
      have HL6 := Lib.hid (HL5.out.below hb)
      have HP6 := Lib.hid (HP5.out.below hb)
      have HQ6 := Lib.hid (HQ5.out.below hb)
      clear hb HB5 HL5 HP5 HQ5
      have Lc0 := HL6.out.cell 0
      have Lc1 := HL6.out.cell 1
      simp at Lc0 Lc1
      have Ll := HL6.out.lt
      go_wp2_with fail
      clear Lc0 Lc1 Ll
      have hT := Blk.new w6x (.cells #[.int .i64 0, .int .i64 0, .int .i64 0] 27)
      have hA := below1 w6x (.cells #[.int .i64 0, .int .i64 0, .int .i64 0] 27)
      generalize w6x.alloc (.cells #[.int .i64 0, .int .i64 0, .int .i64 0] 27) = W6x at *
      have HT7 := Lib.hid hT
      clear hT
      have HB7 := Lib.hid (bC HB6.out hA)
      have HL7 := Lib.hid (HL6.out.below hA)
      have HP7 := Lib.hid (HP6.out.below hA)
      have HQ7 := Lib.hid (HQ6.out.below hA)
      clear hA HB6 HL6 HP6 HQ6
      refine (HC4.out _ (HV.out.below HB7.out)).mono ?_
      rintro e w8x ⟨rfl, hb⟩
      have HB8 := Lib.hid (bC HB7.out hb)
      have HL8 := Lib.hid (HL7.out.below hb)
      have HP8 := Lib.hid (HP7.out.below hb)
      have HQ8 := Lib.hid (HQ7.out.below hb)
      have HT8 := Lib.hid (HT7.out.below hb)
      clear hb HB7 HL7 HP7 HQ7 HT7
      have Lc0 := HL8.out.cell 0
      have Lc1 := HL8.out.cell 1
      simp at Lc0 Lc1
      have Ll := HL8.out.lt
      go_wp2_with fail
      clear Lc0 Lc1 Ll
      refine (HC5.out _ (HV.out.below HB8.out)).mono ?_
      rintro e w9x ⟨rfl, hb⟩
      have HB9 := Lib.hid (bC HB8.out hb)
      have HL9 := Lib.hid (HL8.out.below hb)
      have HP9 := Lib.hid (HP8.out.below hb)
      have HQ9 := Lib.hid (HQ8.out.below hb)
      have HT9 := Lib.hid (HT8.out.below hb)
      clear hb HB8 HL8 HP8 HQ8 HT8
      have Lc0 := HL9.out.cell 0
      have Lc1 := HL9.out.cell 1
      have Pc0 := HP9.out.cell 0
      have Pc1 := HP9.out.cell 1
      have Qc0 := HQ9.out.cell 0
      have Qc1 := HQ9.out.cell 1
      have Tc0 := HT9.out.cell 0
      have Tc1 := HT9.out.cell 1
      have Tc2 := HT9.out.cell 2
      simp at Lc0 Lc1 Pc0 Pc1 Qc0 Qc1 Tc0 Tc1 Tc2
      have Ll := HL9.out.lt
      have Pl := HP9.out.lt
      have Ql := HQ9.out.lt
      have Tl := HT9.out.lt
      go_wp2_with fail
      clear Lc0 Lc1 Pc0 Pc1 Qc0 Qc1 Tc0 Tc1 Tc2 Ll Pl Ql Tl
      refine (Works_any _ (HN.out.below HB9.out)).mono ?_
      rintro e w10x ⟨rfl, hb⟩
      have HB10 := Lib.hid (bC HB9.out hb)
      have HL10 := Lib.hid (HL9.out.below hb)
      have HP10 := Lib.hid (HP9.out.below hb)
      have HQ10 := Lib.hid (HQ9.out.below hb)
      have HT10 := Lib.hid (HT9.out.below hb)
      clear hb HB9 HL9 HP9 HQ9 HT9
      go_wp2_with fail
      go_ret
      exact ⟨rfl, HB10.out⟩
end Go.Proofs.YtlhldkiggmlegaaDoor
