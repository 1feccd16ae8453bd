import Derived.Test.YtkggjpdjjnnhaaaDoorOq
namespace Go.Proofs.YtkggjpdjjnnhaaaDoor
open Go.RowKit Go.Shelf Go.Sort
attribute [local go_sem] Oper.semAt_some

/-! ## The law PeelScaled -/
set_option maxRecDepth 1000000 in
set_option maxHeartbeats 40000000 in
theorem PeelScaled_any (v : Value) (l : LogD) (tm0 fa0 : Int) (w : World) (hN : NoneAt w) (hv : LogAt w v l)
    (g1 : 0 ≤ tm0 ∧ tm0 ≤ 255) (g2 : 0 ≤ fa0 ∧ fa0 ≤ 255) :
    Calls Tryd.prog 13 #[v, .int .u8 tm0, .int .u8 fa0] w fun e w' => e = .returned (.bool true) ∧ Below w.heap.size w w' := by
  obtain ⟨va, ve, rfl, h1, h2⟩ := hv
  obtain ⟨a, cap, rfl⟩ := h1.slice
  obtain ⟨a', cap', rfl⟩ := h2.slice
  have HV : Hid (LogAt w (.agg #[.slice a l.at_.length cap, .slice a' l.edges.length cap']) l) := Lib.hid ⟨_, _, rfl, h1, h2⟩
  have HI := Lib.hid h1
  have HP := Lib.hid h2
  have HN := Lib.hid hN
  clear h1 h2 hN
  have hL := Blk.new w (.cells #[.slice a l.at_.length cap, .slice a' l.edges.length cap'] 25)
  have hB0 := below1 w (.cells #[.slice a l.at_.length cap, .slice a' l.edges.length cap'] 25)
  have HL0 := Lib.hid hL
  have HB0 := Lib.hid hB0
  clear hB0 hL
  by_cases h0 : logErr l = 0
  · have HF : Hid (∀ W, LogAt W (.agg #[.slice a l.at_.length cap, .slice a' l.edges.length cap']) l → Calls Tryd.prog 41 #[(.agg #[.slice a l.at_.length cap, .slice a' l.edges.length cap'])] W (Gets (.bool true) W)) := Lib.hid (fun W h => by have := fine_any _ l W h; rw [decide_eq_true h0] at this; exact this)
    have hf := logErr_fit' h0
    have hlen := hf.lens _ (List.mem_singleton.2 rfl)
    have hlen8 := hf.eight
    have hlen2 := hf.two
    have HFIT := Lib.hid hf
    have HE0 := Lib.hid h0
    have bt0 := tmodN tm0 4 g1.1 (by decide)
    have bm := tmodN fa0 50 g2.1 (by decide)
    obtain ⟨t0, ht0⟩ : ∃ t0, tm0.tmod 4 = t0 := ⟨_, rfl⟩
    obtain ⟨m, hm⟩ : ∃ m, fa0.tmod 50 = m := ⟨_, rfl⟩
    rw [ht0] at bt0
    rw [hm] at bm
    obtain ⟨t, ht⟩ : ∃ t, 1 + t0 = t := ⟨_, rfl⟩
    have bt : 1 ≤ t ∧ t ≤ 4 := by omega
    have rw1 : IntKind.i64.wrap t0 = t0 := IntWalk.i64_in _ (by omega)
    have rw2 : IntKind.i64.wrap t = t := IntWalk.i64_in _ (by omega)
    have rw3 : IntKind.i64.wrap m = m := IntWalk.i64_in _ (by omega)
    obtain ⟨ir, hir, hk0, hk1, hk2⟩ := info_parts infoR
    obtain ⟨ii, hii, hj0, hj1, hj2⟩ := info_parts infoI
    have IR := Lib.hid hir
    have K0 := Lib.hid hk0
    have K1 := Lib.hid hk1
    have K2 := Lib.hid hk2
    have II := Lib.hid hii
    have J0 := Lib.hid hj0
    have J1 := Lib.hid hj1
    have J2 := Lib.hid hj2
    have HLEN := Lib.hid hlen
    have HL8 := Lib.hid (And.intro hlen2 hlen8)
    have BT := Lib.hid (And.intro bt bm)
    clear hir hk0 hk1 hk2 hii hj0 hj1 hj2 hlen hlen8 hlen2 hf h0 g1 g2 bt0 bm bt
    go_enter Tryd.func13, Tryd.ntmps13
    go_wp2_with fail
    refine (HF.out _ (HV.out.below HB0.out)).mono ?_
    rintro e w1x ⟨rfl, hb⟩
    have HB1 := Lib.hid (bC HB0.out hb)
    have HL1 := Lib.hid (HL0.out.below hb)
    clear hb HB0 HL0
    go_wp2_with fail
    clear ht0 hm ht rw1 rw2 rw3
    have u0 := HL1.out.cell 0
    have u1 := HL1.out.cell 1
    simp at u0 u1
    go_cut [9, 10, 11] (fun s9 s10 s11 wx => ∃ BX BY BZ : Nat, s9 = .pointer (some ⟨BX, 0, none⟩) ∧ s10 = .pointer (some ⟨BY, 0, none⟩) ∧ s11 = .pointer (some ⟨BZ, 0, none⟩) ∧ Blk wx BX (.cells #[.slice a l.at_.length cap, .slice none 0 0] 25) ∧ Blk wx BY (.cells #[.slice none 0 0, .slice a' l.edges.length cap'] 25) ∧ Blk wx BZ (.cells #[.slice none 0 0, .slice a' l.edges.length cap'] 25) ∧ (BX ≠ BY ∧ BX ≠ BZ ∧ BY ≠ BZ) ∧ (w1x.heap.size ≤ BX ∧ w1x.heap.size ≤ BY ∧ w1x.heap.size ≤ BZ) ∧ Below w1x.heap.size w1x wx)
    case first =>
      have BL := Lib.hid (Below.refl w1x.heap.size w1x)
      have y0 : w1x.cell? ⟨w.heap.size, 0, none⟩ = some (.slice a l.at_.length cap) := cellB u0 BL.out
      have y1 : w1x.cell? ⟨w.heap.size, 1, none⟩ = some (.slice a' l.edges.length cap') := cellB u1 BL.out
      refine wp_region_T 14 (fun W' => W'.cell? ⟨w.heap.size, 0, none⟩ = some (.slice a l.at_.length cap) ∧ W'.cell? ⟨w.heap.size, 1, none⟩ = some (.slice a' l.edges.length cap')) (by kernel_rfl) (by kernel_rfl) ⟨y0, y1⟩ ?_
      intro inv hS
      have hbD : Below w1x.heap.size w1x w1x.drew := (Below.refl _ _).drew
      generalize w1x.drew = V0 at *
      replace BL := Lib.hid (bC BL.out hbD)
      clear hbD
      clear y0
      have y0 : V0.cell? ⟨w.heap.size, 0, none⟩ = some (.slice a l.at_.length cap) := cellB u0 BL.out
      clear y1
      have y1 : V0.cell? ⟨w.heap.size, 1, none⟩ = some (.slice a' l.edges.length cap') := cellB u1 BL.out
      refine wpAnyT_take inv (by kernel_rfl) (by omega) (i := 0) (v := .pointer (some ⟨w.heap.size, 0, none⟩)) rfl (by kernel_rfl) (by kernel_rfl) (fun _ _ _ h => h) (Or.inl ⟨by kernel_rfl, ?_⟩) (by assumption) ?_
      · rintro W' ⟨s0, s1⟩
        go_simp
      intro inv2
      clear inv
      have inv := inv2
      clear inv2
      simp only [Act.put, List.setIfInBounds_toArray]
      refine wpAnyT_take inv (by kernel_rfl) (by omega) (i := 1) (v := .slice a l.at_.length cap) rfl (by kernel_rfl) (by kernel_rfl) (fun _ _ _ h => h) (Or.inl ⟨by kernel_rfl, ?_⟩) (by assumption) ?_
      · rintro W' ⟨s0, s1⟩
        go_simp
      intro inv2
      clear inv
      have inv := inv2
      clear inv2
      simp only [Act.put]
      refine wpAnyT_take inv (by kernel_rfl) (by omega) (i := 2) (v := .agg #[.slice a l.at_.length cap, .slice none 0 0]) rfl (by kernel_rfl) (by kernel_rfl) (fun _ _ _ h => h) (Or.inl ⟨by kernel_rfl, ?_⟩) (by assumption) ?_
      · rintro W' ⟨s0, s1⟩
        go_simp
      intro inv2
      clear inv
      have inv := inv2
      clear inv2
      simp only [Act.put]
      refine wpAnyT_take inv (by kernel_rfl) (by omega) (i := 3) (v := .pointer (some ⟨w.heap.size, 1, none⟩)) rfl (by kernel_rfl) (by kernel_rfl) (fun _ _ _ h => h) (Or.inl ⟨by kernel_rfl, ?_⟩) (by assumption) ?_
      · rintro W' ⟨s0, s1⟩
        go_simp
      intro inv2
      clear inv
      have inv := inv2
      clear inv2
      simp only [Act.put]
      refine wpAnyT_take inv (by kernel_rfl) (by omega) (i := 4) (v := .slice a' l.edges.length cap') rfl (by kernel_rfl) (by kernel_rfl) (fun _ _ _ h => h) (Or.inl ⟨by kernel_rfl, ?_⟩) (by assumption) ?_
      · rintro W' ⟨s0, s1⟩
        go_simp
      intro inv2
      clear inv
      have inv := inv2
      clear inv2
      simp only [Act.put]
      refine wpAnyT_take inv (by kernel_rfl) (by omega) (i := 5) (v := .agg #[.slice none 0 0, .slice a' l.edges.length cap']) rfl (by kernel_rfl) (by kernel_rfl) (fun _ _ _ h => h) (Or.inl ⟨by kernel_rfl, ?_⟩) (by assumption) ?_
      · rintro W' ⟨s0, s1⟩
        go_simp
      intro inv2
      clear inv
      have inv := inv2
      clear inv2
      simp only [Act.put]
      refine wpAnyT_take inv (by kernel_rfl) (by omega) (i := 6) (v := .pointer (some ⟨w.heap.size, 1, none⟩)) rfl (by kernel_rfl) (by kernel_rfl) (fun _ _ _ h => h) (Or.inl ⟨by kernel_rfl, ?_⟩) (by assumption) ?_
      · rintro W' ⟨s0, s1⟩
        go_simp
      intro inv2
      clear inv
      have inv := inv2
      clear inv2
      simp only [Act.put]
      refine wpAnyT_take inv (by kernel_rfl) (by omega) (i := 7) (v := .slice a' l.edges.length cap') rfl (by kernel_rfl) (by kernel_rfl) (fun _ _ _ h => h) (Or.inl ⟨by kernel_rfl, ?_⟩) (by assumption) ?_
      · rintro W' ⟨s0, s1⟩
        go_simp
      intro inv2
      clear inv
      have inv := inv2
      clear inv2
      simp only [Act.put]
      refine wpAnyT_take inv (by kernel_rfl) (by omega) (i := 8) (v := .agg #[.slice none 0 0, .slice a' l.edges.length cap']) rfl (by kernel_rfl) (by kernel_rfl) (fun _ _ _ h => h) (Or.inl ⟨by kernel_rfl, ?_⟩) (by assumption) ?_
      · rintro W' ⟨s0, s1⟩
        go_simp
      intro inv2
      clear inv
      have inv := inv2
      clear inv2
      simp only [Act.put]
      refine wpAnyT_ready [9, 10, 11] (by kernel_rfl) (by simp) ?_
      refine AllReadyT.cons rfl (fun K hK => ?_) ?_
      ·
        have zXA : w1x.heap.size ≤ V0.heap.size := BL.out.size
        go_simp
        have hb := below1 V0 (.cells #[.slice none 0 0, .slice none 0 0] 25)
        have XA := Lib.hid (Blk.new V0 (.cells #[.slice none 0 0, .slice none 0 0] 25))
        generalize V0.alloc (.cells #[.slice none 0 0, .slice none 0 0] 25) = V1 at *
        replace BL := Lib.hid (bC BL.out hb)
        clear hb
        clear y0
        have y0 : V1.cell? ⟨w.heap.size, 0, none⟩ = some (.slice a l.at_.length cap) := cellB u0 BL.out
        clear y1
        have y1 : V1.cell? ⟨w.heap.size, 1, none⟩ = some (.slice a' l.edges.length cap') := cellB u1 BL.out
        refine hK.out _ _ (fun _ => ⟨y0, y1⟩) (fun _ => ?_)
        clear hK K
        try simp only [Act.put]
        refine wpAnyT_ready [10, 11] (by kernel_rfl) (by simp) ?_
        refine AllReadyT.cons rfl (fun K hK => ?_) ?_
        ·
          have zXB : w1x.heap.size ≤ V1.heap.size := BL.out.size
          go_simp
          have hb := below1 V1 (.cells #[.slice none 0 0, .slice none 0 0] 25)
          have XB := Lib.hid (Blk.new V1 (.cells #[.slice none 0 0, .slice none 0 0] 25))
          generalize V1.alloc (.cells #[.slice none 0 0, .slice none 0 0] 25) = V2 at *
          replace BL := Lib.hid (bC BL.out hb)
          have nXAXB : V0.heap.size ≠ V1.heap.size := by have := XA.out.lt; omega
          replace XA := Lib.hid (XA.out.below hb)
          clear hb
          clear y0
          have y0 : V2.cell? ⟨w.heap.size, 0, none⟩ = some (.slice a l.at_.length cap) := cellB u0 BL.out
          clear y1
          have y1 : V2.cell? ⟨w.heap.size, 1, none⟩ = some (.slice a' l.edges.length cap') := cellB u1 BL.out
          refine hK.out _ _ (fun _ => ⟨y0, y1⟩) (fun _ => ?_)
          clear hK K
          try simp only [Act.put]
          refine wpAnyT_ready [11] (by kernel_rfl) (by simp) ?_
          refine AllReadyT.cons rfl (fun K hK => ?_) AllReadyT.nil
          have zXC : w1x.heap.size ≤ V2.heap.size := BL.out.size
          go_simp
          have hb := below1 V2 (.cells #[.slice none 0 0, .slice none 0 0] 25)
          have XC := Lib.hid (Blk.new V2 (.cells #[.slice none 0 0, .slice none 0 0] 25))
          generalize V2.alloc (.cells #[.slice none 0 0, .slice none 0 0] 25) = V3 at *
          replace BL := Lib.hid (bC BL.out hb)
          have nXAXC : V0.heap.size ≠ V2.heap.size := by have := XA.out.lt; omega
          replace XA := Lib.hid (XA.out.below hb)
          have nXBXC : V1.heap.size ≠ V2.heap.size := by have := XB.out.lt; omega
          replace XB := Lib.hid (XB.out.below hb)
          clear hb
          clear y0
          have y0 : V3.cell? ⟨w.heap.size, 0, none⟩ = some (.slice a l.at_.length cap) := cellB u0 BL.out
          clear y1
          have y1 : V3.cell? ⟨w.heap.size, 1, none⟩ = some (.slice a' l.edges.length cap') := cellB u1 BL.out
          refine hK.out _ _ (fun _ => ⟨y0, y1⟩) (fun _ => ?_)
          clear hK K
          try simp only [Act.put]
          refine wpAnyT_ready [12] (by kernel_rfl) (by simp) ?_
          refine AllReadyT.cons rfl (fun K hK => ?_) AllReadyT.nil
          have a0 := XA.out.cell 0
          have az0 := XA.out.frozen 0
          have a1 := XA.out.cell 1
          have az1 := XA.out.frozen 1
          have al := XA.out.lt
          simp at a0 a1
          go_simp
          clear al a0 az0 a1 az1
          have hU := ((XA.out.set (j := 0) (.slice a l.at_.length cap)).set (j := 1) (.slice none 0 0))
          simp only [List.setIfInBounds_toArray, List.set_cons_zero, List.set_cons_succ] at hU
          replace XA := Lib.hid hU
          clear hU
          replace XB := Lib.hid ((XB.out.other nXAXB.symm (j := 0) (.slice a l.at_.length cap)).other nXAXB.symm (j := 1) (.slice none 0 0))
          replace XC := Lib.hid ((XC.out.other nXAXC.symm (j := 0) (.slice a l.at_.length cap)).other nXAXC.symm (j := 1) (.slice none 0 0))
          replace BL := Lib.hid ((BL.out.setCell (p := ⟨V0.heap.size, 0, none⟩) zXA (.slice a l.at_.length cap)).setCell (p := ⟨V0.heap.size, 1, none⟩) zXA (.slice none 0 0))
          generalize (V3.setCell ⟨V0.heap.size, 0, none⟩ (.slice a l.at_.length cap)).setCell ⟨V0.heap.size, 1, none⟩ (.slice none 0 0) = V4 at *
          clear y0
          have y0 : V4.cell? ⟨w.heap.size, 0, none⟩ = some (.slice a l.at_.length cap) := cellB u0 BL.out
          clear y1
          have y1 : V4.cell? ⟨w.heap.size, 1, none⟩ = some (.slice a' l.edges.length cap') := cellB u1 BL.out
          refine hK.out _ _ (fun _ => ⟨y0, y1⟩) (fun _ => ?_)
          clear hK K
          try simp only [Act.put]
          refine wpAnyT_ready [13] (by kernel_rfl) (by simp) ?_
          refine AllReadyT.cons rfl (fun K hK => ?_) AllReadyT.nil
          have a0 := XB.out.cell 0
          have az0 := XB.out.frozen 0
          have a1 := XB.out.cell 1
          have az1 := XB.out.frozen 1
          have al := XB.out.lt
          simp at a0 a1
          go_simp
          clear al a0 az0 a1 az1
          have hU := ((XB.out.set (j := 0) (.slice none 0 0)).set (j := 1) (.slice a' l.edges.length cap'))
          simp only [List.setIfInBounds_toArray, List.set_cons_zero, List.set_cons_succ] at hU
          replace XB := Lib.hid hU
          clear hU
          replace XA := Lib.hid ((XA.out.other nXAXB (j := 0) (.slice none 0 0)).other nXAXB (j := 1) (.slice a' l.edges.length cap'))
          replace XC := Lib.hid ((XC.out.other nXBXC.symm (j := 0) (.slice none 0 0)).other nXBXC.symm (j := 1) (.slice a' l.edges.length cap'))
          replace BL := Lib.hid ((BL.out.setCell (p := ⟨V1.heap.size, 0, none⟩) zXB (.slice none 0 0)).setCell (p := ⟨V1.heap.size, 1, none⟩) zXB (.slice a' l.edges.length cap'))
          generalize (V4.setCell ⟨V1.heap.size, 0, none⟩ (.slice none 0 0)).setCell ⟨V1.heap.size, 1, none⟩ (.slice a' l.edges.length cap') = V5 at *
          clear y0
          have y0 : V5.cell? ⟨w.heap.size, 0, none⟩ = some (.slice a l.at_.length cap) := cellB u0 BL.out
          clear y1
          have y1 : V5.cell? ⟨w.heap.size, 1, none⟩ = some (.slice a' l.edges.length cap') := cellB u1 BL.out
          refine hK.out _ _ (fun _ => ⟨y0, y1⟩) (fun _ => ?_)
          clear hK K
          try simp only [Act.put]
          refine wpAnyT_chain (fuel := 1) rfl (by kernel_rfl) ?_
          simp only [List.drop_succ_cons, List.drop_zero]
          have a0 := XC.out.cell 0
          have a1 := XC.out.cell 1
          have az0 := XC.out.frozen 0
          have az1 := XC.out.frozen 1
          have al := XC.out.lt
          simp at a0 a1
          have UC := (XC.out.set (j := 0) (.slice none 0 0)).set (j := 1) (.slice a' l.edges.length cap')
          simp only [List.setIfInBounds_toArray, List.set_cons_zero, List.set_cons_succ] at UC
          have HUC := Lib.hid UC
          have HUA := Lib.hid ((XA.out.other nXAXC (j := 0) (.slice none 0 0)).other nXAXC (j := 1) (.slice a' l.edges.length cap'))
          have HUB := Lib.hid ((XB.out.other nXBXC (j := 0) (.slice none 0 0)).other nXBXC (j := 1) (.slice a' l.edges.length cap'))
          have HBF := Lib.hid ((BL.out.setCell (p := ⟨V2.heap.size, 0, none⟩) zXC (.slice none 0 0)).setCell (p := ⟨V2.heap.size, 1, none⟩) zXC (.slice a' l.edges.length cap'))
          clear hS inv y0 y1 UC
          go_wp2_with fail
          go_meet
          exact ⟨_, _, _, rfl, rfl, rfl, HUA.out, HUB.out, HUC.out, ⟨nXAXB, nXAXC, nXBXC⟩, ⟨zXA, zXB, zXC⟩, HBF.out⟩
        refine AllReadyT.cons rfl (fun K hK => ?_) AllReadyT.nil
        have zXC : w1x.heap.size ≤ V1.heap.size := BL.out.size
        go_simp
        have hb := below1 V1 (.cells #[.slice none 0 0, .slice none 0 0] 25)
        have XC := Lib.hid (Blk.new V1 (.cells #[.slice none 0 0, .slice none 0 0] 25))
        generalize V1.alloc (.cells #[.slice none 0 0, .slice none 0 0] 25) = V6 at *
        replace BL := Lib.hid (bC BL.out hb)
        have nXAXC : V0.heap.size ≠ V1.heap.size := by have := XA.out.lt; omega
        replace XA := Lib.hid (XA.out.below hb)
        clear hb
        clear y0
        have y0 : V6.cell? ⟨w.heap.size, 0, none⟩ = some (.slice a l.at_.length cap) := cellB u0 BL.out
        clear y1
        have y1 : V6.cell? ⟨w.heap.size, 1, none⟩ = some (.slice a' l.edges.length cap') := cellB u1 BL.out
        refine hK.out _ _ (fun _ => ⟨y0, y1⟩) (fun _ => ?_)
        clear hK K
        try simp only [Act.put]
        refine wpAnyT_ready [10] (by kernel_rfl) (by simp) ?_
        refine AllReadyT.cons rfl (fun K hK => ?_) AllReadyT.nil
        have zXB : w1x.heap.size ≤ V6.heap.size := BL.out.size
        go_simp
        have hb := below1 V6 (.cells #[.slice none 0 0, .slice none 0 0] 25)
        have XB := Lib.hid (Blk.new V6 (.cells #[.slice none 0 0, .slice none 0 0] 25))
        generalize V6.alloc (.cells #[.slice none 0 0, .slice none 0 0] 25) = V7 at *
        replace BL := Lib.hid (bC BL.out hb)
        have nXAXB : V0.heap.size ≠ V6.heap.size := by have := XA.out.lt; omega
        replace XA := Lib.hid (XA.out.below hb)
        have nXCXB : V1.heap.size ≠ V6.heap.size := by have := XC.out.lt; omega
        replace XC := Lib.hid (XC.out.below hb)
        clear hb
        clear y0
        have y0 : V7.cell? ⟨w.heap.size, 0, none⟩ = some (.slice a l.at_.length cap) := cellB u0 BL.out
        clear y1
        have y1 : V7.cell? ⟨w.heap.size, 1, none⟩ = some (.slice a' l.edges.length cap') := cellB u1 BL.out
        refine hK.out _ _ (fun _ => ⟨y0, y1⟩) (fun _ => ?_)
        clear hK K
        try simp only [Act.put]
        refine wpAnyT_ready [12] (by kernel_rfl) (by simp) ?_
        refine AllReadyT.cons rfl (fun K hK => ?_) AllReadyT.nil
        have a0 := XA.out.cell 0
        have az0 := XA.out.frozen 0
        have a1 := XA.out.cell 1
        have az1 := XA.out.frozen 1
        have al := XA.out.lt
        simp at a0 a1
        go_simp
        clear al a0 az0 a1 az1
        have hU := ((XA.out.set (j := 0) (.slice a l.at_.length cap)).set (j := 1) (.slice none 0 0))
        simp only [List.setIfInBounds_toArray, List.set_cons_zero, List.set_cons_succ] at hU
        replace XA := Lib.hid hU
        clear hU
        replace XC := Lib.hid ((XC.out.other nXAXC.symm (j := 0) (.slice a l.at_.length cap)).other nXAXC.symm (j := 1) (.slice none 0 0))
        replace XB := Lib.hid ((XB.out.other nXAXB.symm (j := 0) (.slice a l.at_.length cap)).other nXAXB.symm (j := 1) (.slice none 0 0))
        replace BL := Lib.hid ((BL.out.setCell (p := ⟨V0.heap.size, 0, none⟩) zXA (.slice a l.at_.length cap)).setCell (p := ⟨V0.heap.size, 1, none⟩) zXA (.slice none 0 0))
        generalize (V7.setCell ⟨V0.heap.size, 0, none⟩ (.slice a l.at_.length cap)).setCell ⟨V0.heap.size, 1, none⟩ (.slice none 0 0) = V8 at *
        clear y0
        have y0 : V8.cell? ⟨w.heap.size, 0, none⟩ = some (.slice a l.at_.length cap) := cellB u0 BL.out
        clear y1
        have y1 : V8.cell? ⟨w.heap.size, 1, none⟩ = some (.slice a' l.edges.length cap') := cellB u1 BL.out
        refine hK.out _ _ (fun _ => ⟨y0, y1⟩) (fun _ => ?_)
        clear hK K
        try simp only [Act.put]
        refine wpAnyT_ready [13] (by kernel_rfl) (by simp) ?_
        refine AllReadyT.cons rfl (fun K hK => ?_) AllReadyT.nil
        have a0 := XB.out.cell 0
        have az0 := XB.out.frozen 0
        have a1 := XB.out.cell 1
        have az1 := XB.out.frozen 1
        have al := XB.out.lt
        simp at a0 a1
        go_simp
        clear al a0 az0 a1 az1
        have hU := ((XB.out.set (j := 0) (.slice none 0 0)).set (j := 1) (.slice a' l.edges.length cap'))
        simp only [List.setIfInBounds_toArray, List.set_cons_zero, List.set_cons_succ] at hU
        replace XB := Lib.hid hU
        clear hU
        replace XA := Lib.hid ((XA.out.other nXAXB (j := 0) (.slice none 0 0)).other nXAXB (j := 1) (.slice a' l.edges.length cap'))
        replace XC := Lib.hid ((XC.out.other nXCXB (j := 0) (.slice none 0 0)).other nXCXB (j := 1) (.slice a' l.edges.length cap'))
        replace BL := Lib.hid ((BL.out.setCell (p := ⟨V6.heap.size, 0, none⟩) zXB (.slice none 0 0)).setCell (p := ⟨V6.heap.size, 1, none⟩) zXB (.slice a' l.edges.length cap'))
        generalize (V8.setCell ⟨V6.heap.size, 0, none⟩ (.slice none 0 0)).setCell ⟨V6.heap.size, 1, none⟩ (.slice a' l.edges.length cap') = V9 at *
        clear y0
        have y0 : V9.cell? ⟨w.heap.size, 0, none⟩ = some (.slice a l.at_.length cap) := cellB u0 BL.out
        clear y1
        have y1 : V9.cell? ⟨w.heap.size, 1, none⟩ = some (.slice a' l.edges.length cap') := cellB u1 BL.out
        refine hK.out _ _ (fun _ => ⟨y0, y1⟩) (fun _ => ?_)
        clear hK K
        try simp only [Act.put]
        refine wpAnyT_chain (fuel := 1) rfl (by kernel_rfl) ?_
        simp only [List.drop_succ_cons, List.drop_zero]
        have a0 := XC.out.cell 0
        have a1 := XC.out.cell 1
        have az0 := XC.out.frozen 0
        have az1 := XC.out.frozen 1
        have al := XC.out.lt
        simp at a0 a1
        have UC := (XC.out.set (j := 0) (.slice none 0 0)).set (j := 1) (.slice a' l.edges.length cap')
        simp only [List.setIfInBounds_toArray, List.set_cons_zero, List.set_cons_succ] at UC
        have HUC := Lib.hid UC
        have HUA := Lib.hid ((XA.out.other nXAXC (j := 0) (.slice none 0 0)).other nXAXC (j := 1) (.slice a' l.edges.length cap'))
        have HUB := Lib.hid ((XB.out.other nXCXB.symm (j := 0) (.slice none 0 0)).other nXCXB.symm (j := 1) (.slice a' l.edges.length cap'))
        have HBF := Lib.hid ((BL.out.setCell (p := ⟨V1.heap.size, 0, none⟩) zXC (.slice none 0 0)).setCell (p := ⟨V1.heap.size, 1, none⟩) zXC (.slice a' l.edges.length cap'))
        clear hS inv y0 y1 UC
        go_wp2_with fail
        go_meet
        exact ⟨_, _, _, rfl, rfl, rfl, HUA.out, HUB.out, HUC.out, ⟨nXAXB, nXAXC, nXCXB.symm⟩, ⟨zXA, zXB, zXC⟩, HBF.out⟩
      refine AllReadyT.cons rfl (fun K hK => ?_) ?_
      ·
        have zXB : w1x.heap.size ≤ V0.heap.size := BL.out.size
        go_simp
        have hb := below1 V0 (.cells #[.slice none 0 0, .slice none 0 0] 25)
        have XB := Lib.hid (Blk.new V0 (.cells #[.slice none 0 0, .slice none 0 0] 25))
        generalize V0.alloc (.cells #[.slice none 0 0, .slice none 0 0] 25) = V10 at *
        replace BL := Lib.hid (bC BL.out hb)
        clear hb
        clear y0
        have y0 : V10.cell? ⟨w.heap.size, 0, none⟩ = some (.slice a l.at_.length cap) := cellB u0 BL.out
        clear y1
        have y1 : V10.cell? ⟨w.heap.size, 1, none⟩ = some (.slice a' l.edges.length cap') := cellB u1 BL.out
        refine hK.out _ _ (fun _ => ⟨y0, y1⟩) (fun _ => ?_)
        clear hK K
        try simp only [Act.put]
        refine wpAnyT_ready [9, 11] (by kernel_rfl) (by simp) ?_
        refine AllReadyT.cons rfl (fun K hK => ?_) ?_
        ·
          have zXA : w1x.heap.size ≤ V10.heap.size := BL.out.size
          go_simp
          have hb := below1 V10 (.cells #[.slice none 0 0, .slice none 0 0] 25)
          have XA := Lib.hid (Blk.new V10 (.cells #[.slice none 0 0, .slice none 0 0] 25))
          generalize V10.alloc (.cells #[.slice none 0 0, .slice none 0 0] 25) = V11 at *
          replace BL := Lib.hid (bC BL.out hb)
          have nXBXA : V0.heap.size ≠ V10.heap.size := by have := XB.out.lt; omega
          replace XB := Lib.hid (XB.out.below hb)
          clear hb
          clear y0
          have y0 : V11.cell? ⟨w.heap.size, 0, none⟩ = some (.slice a l.at_.length cap) := cellB u0 BL.out
          clear y1
          have y1 : V11.cell? ⟨w.heap.size, 1, none⟩ = some (.slice a' l.edges.length cap') := cellB u1 BL.out
          refine hK.out _ _ (fun _ => ⟨y0, y1⟩) (fun _ => ?_)
          clear hK K
          try simp only [Act.put]
          refine wpAnyT_ready [11] (by kernel_rfl) (by simp) ?_
          refine AllReadyT.cons rfl (fun K hK => ?_) AllReadyT.nil
          have zXC : w1x.heap.size ≤ V11.heap.size := BL.out.size
          go_simp
          have hb := below1 V11 (.cells #[.slice none 0 0, .slice none 0 0] 25)
          have XC := Lib.hid (Blk.new V11 (.cells #[.slice none 0 0, .slice none 0 0] 25))
          generalize V11.alloc (.cells #[.slice none 0 0, .slice none 0 0] 25) = V12 at *
          replace BL := Lib.hid (bC BL.out hb)
          have nXBXC : V0.heap.size ≠ V11.heap.size := by have := XB.out.lt; omega
          replace XB := Lib.hid (XB.out.below hb)
          have nXAXC : V10.heap.size ≠ V11.heap.size := by have := XA.out.lt; omega
          replace XA := Lib.hid (XA.out.below hb)
          clear hb
          clear y0
          have y0 : V12.cell? ⟨w.heap.size, 0, none⟩ = some (.slice a l.at_.length cap) := cellB u0 BL.out
          clear y1
          have y1 : V12.cell? ⟨w.heap.size, 1, none⟩ = some (.slice a' l.edges.length cap') := cellB u1 BL.out
          refine hK.out _ _ (fun _ => ⟨y0, y1⟩) (fun _ => ?_)
          clear hK K
          try simp only [Act.put]
          refine wpAnyT_ready [12] (by kernel_rfl) (by simp) ?_
          refine AllReadyT.cons rfl (fun K hK => ?_) AllReadyT.nil
          have a0 := XA.out.cell 0
          have az0 := XA.out.frozen 0
          have a1 := XA.out.cell 1
          have az1 := XA.out.frozen 1
          have al := XA.out.lt
          simp at a0 a1
          go_simp
          clear al a0 az0 a1 az1
          have hU := ((XA.out.set (j := 0) (.slice a l.at_.length cap)).set (j := 1) (.slice none 0 0))
          simp only [List.setIfInBounds_toArray, List.set_cons_zero, List.set_cons_succ] at hU
          replace XA := Lib.hid hU
          clear hU
          replace XB := Lib.hid ((XB.out.other nXBXA (j := 0) (.slice a l.at_.length cap)).other nXBXA (j := 1) (.slice none 0 0))
          replace XC := Lib.hid ((XC.out.other nXAXC.symm (j := 0) (.slice a l.at_.length cap)).other nXAXC.symm (j := 1) (.slice none 0 0))
          replace BL := Lib.hid ((BL.out.setCell (p := ⟨V10.heap.size, 0, none⟩) zXA (.slice a l.at_.length cap)).setCell (p := ⟨V10.heap.size, 1, none⟩) zXA (.slice none 0 0))
          generalize (V12.setCell ⟨V10.heap.size, 0, none⟩ (.slice a l.at_.length cap)).setCell ⟨V10.heap.size, 1, none⟩ (.slice none 0 0) = V13 at *
          clear y0
          have y0 : V13.cell? ⟨w.heap.size, 0, none⟩ = some (.slice a l.at_.length cap) := cellB u0 BL.out
          clear y1
          have y1 : V13.cell? ⟨w.heap.size, 1, none⟩ = some (.slice a' l.edges.length cap') := cellB u1 BL.out
          refine hK.out _ _ (fun _ => ⟨y0, y1⟩) (fun _ => ?_)
          clear hK K
          try simp only [Act.put]
          refine wpAnyT_ready [13] (by kernel_rfl) (by simp) ?_
          refine AllReadyT.cons rfl (fun K hK => ?_) AllReadyT.nil
          have a0 := XB.out.cell 0
          have az0 := XB.out.frozen 0
          have a1 := XB.out.cell 1
          have az1 := XB.out.frozen 1
          have al := XB.out.lt
          simp at a0 a1
          go_simp
          clear al a0 az0 a1 az1
          have hU := ((XB.out.set (j := 0) (.slice none 0 0)).set (j := 1) (.slice a' l.edges.length cap'))
          simp only [List.setIfInBounds_toArray, List.set_cons_zero, List.set_cons_succ] at hU
          replace XB := Lib.hid hU
          clear hU
          replace XA := Lib.hid ((XA.out.other nXBXA.symm (j := 0) (.slice none 0 0)).other nXBXA.symm (j := 1) (.slice a' l.edges.length cap'))
          replace XC := Lib.hid ((XC.out.other nXBXC.symm (j := 0) (.slice none 0 0)).other nXBXC.symm (j := 1) (.slice a' l.edges.length cap'))
          replace BL := Lib.hid ((BL.out.setCell (p := ⟨V0.heap.size, 0, none⟩) zXB (.slice none 0 0)).setCell (p := ⟨V0.heap.size, 1, none⟩) zXB (.slice a' l.edges.length cap'))
          generalize (V13.setCell ⟨V0.heap.size, 0, none⟩ (.slice none 0 0)).setCell ⟨V0.heap.size, 1, none⟩ (.slice a' l.edges.length cap') = V14 at *
          clear y0
          have y0 : V14.cell? ⟨w.heap.size, 0, none⟩ = some (.slice a l.at_.length cap) := cellB u0 BL.out
          clear y1
          have y1 : V14.cell? ⟨w.heap.size, 1, none⟩ = some (.slice a' l.edges.length cap') := cellB u1 BL.out
          refine hK.out _ _ (fun _ => ⟨y0, y1⟩) (fun _ => ?_)
          clear hK K
          try simp only [Act.put]
          refine wpAnyT_chain (fuel := 1) rfl (by kernel_rfl) ?_
          simp only [List.drop_succ_cons, List.drop_zero]
          have a0 := XC.out.cell 0
          have a1 := XC.out.cell 1
          have az0 := XC.out.frozen 0
          have az1 := XC.out.frozen 1
          have al := XC.out.lt
          simp at a0 a1
          have UC := (XC.out.set (j := 0) (.slice none 0 0)).set (j := 1) (.slice a' l.edges.length cap')
          simp only [List.setIfInBounds_toArray, List.set_cons_zero, List.set_cons_succ] at UC
          have HUC := Lib.hid UC
          have HUA := Lib.hid ((XA.out.other nXAXC (j := 0) (.slice none 0 0)).other nXAXC (j := 1) (.slice a' l.edges.length cap'))
          have HUB := Lib.hid ((XB.out.other nXBXC (j := 0) (.slice none 0 0)).other nXBXC (j := 1) (.slice a' l.edges.length cap'))
          have HBF := Lib.hid ((BL.out.setCell (p := ⟨V11.heap.size, 0, none⟩) zXC (.slice none 0 0)).setCell (p := ⟨V11.heap.size, 1, none⟩) zXC (.slice a' l.edges.length cap'))
          clear hS inv y0 y1 UC
          go_wp2_with fail
          go_meet
          exact ⟨_, _, _, rfl, rfl, rfl, HUA.out, HUB.out, HUC.out, ⟨nXBXA.symm, nXAXC, nXBXC⟩, ⟨zXA, zXB, zXC⟩, HBF.out⟩
        refine AllReadyT.cons rfl (fun K hK => ?_) AllReadyT.nil
        have zXC : w1x.heap.size ≤ V10.heap.size := BL.out.size
        go_simp
        have hb := below1 V10 (.cells #[.slice none 0 0, .slice none 0 0] 25)
        have XC := Lib.hid (Blk.new V10 (.cells #[.slice none 0 0, .slice none 0 0] 25))
        generalize V10.alloc (.cells #[.slice none 0 0, .slice none 0 0] 25) = V15 at *
        replace BL := Lib.hid (bC BL.out hb)
        have nXBXC : V0.heap.size ≠ V10.heap.size := by have := XB.out.lt; omega
        replace XB := Lib.hid (XB.out.below hb)
        clear hb
        clear y0
        have y0 : V15.cell? ⟨w.heap.size, 0, none⟩ = some (.slice a l.at_.length cap) := cellB u0 BL.out
        clear y1
        have y1 : V15.cell? ⟨w.heap.size, 1, none⟩ = some (.slice a' l.edges.length cap') := cellB u1 BL.out
        refine hK.out _ _ (fun _ => ⟨y0, y1⟩) (fun _ => ?_)
        clear hK K
        try simp only [Act.put]
        refine wpAnyT_ready [9] (by kernel_rfl) (by simp) ?_
        refine AllReadyT.cons rfl (fun K hK => ?_) AllReadyT.nil
        have zXA : w1x.heap.size ≤ V15.heap.size := BL.out.size
        go_simp
        have hb := below1 V15 (.cells #[.slice none 0 0, .slice none 0 0] 25)
        have XA := Lib.hid (Blk.new V15 (.cells #[.slice none 0 0, .slice none 0 0] 25))
        generalize V15.alloc (.cells #[.slice none 0 0, .slice none 0 0] 25) = V16 at *
        replace BL := Lib.hid (bC BL.out hb)
        have nXBXA : V0.heap.size ≠ V15.heap.size := by have := XB.out.lt; omega
        replace XB := Lib.hid (XB.out.below hb)
        have nXCXA : V10.heap.size ≠ V15.heap.size := by have := XC.out.lt; omega
        replace XC := Lib.hid (XC.out.below hb)
        clear hb
        clear y0
        have y0 : V16.cell? ⟨w.heap.size, 0, none⟩ = some (.slice a l.at_.length cap) := cellB u0 BL.out
        clear y1
        have y1 : V16.cell? ⟨w.heap.size, 1, none⟩ = some (.slice a' l.edges.length cap') := cellB u1 BL.out
        refine hK.out _ _ (fun _ => ⟨y0, y1⟩) (fun _ => ?_)
        clear hK K
        try simp only [Act.put]
        refine wpAnyT_ready [12] (by kernel_rfl) (by simp) ?_
        refine AllReadyT.cons rfl (fun K hK => ?_) AllReadyT.nil
        have a0 := XA.out.cell 0
        have az0 := XA.out.frozen 0
        have a1 := XA.out.cell 1
        have az1 := XA.out.frozen 1
        have al := XA.out.lt
        simp at a0 a1
        go_simp
        clear al a0 az0 a1 az1
        have hU := ((XA.out.set (j := 0) (.slice a l.at_.length cap)).set (j := 1) (.slice none 0 0))
        simp only [List.setIfInBounds_toArray, List.set_cons_zero, List.set_cons_succ] at hU
        replace XA := Lib.hid hU
        clear hU
        replace XB := Lib.hid ((XB.out.other nXBXA (j := 0) (.slice a l.at_.length cap)).other nXBXA (j := 1) (.slice none 0 0))
        replace XC := Lib.hid ((XC.out.other nXCXA (j := 0) (.slice a l.at_.length cap)).other nXCXA (j := 1) (.slice none 0 0))
        replace BL := Lib.hid ((BL.out.setCell (p := ⟨V15.heap.size, 0, none⟩) zXA (.slice a l.at_.length cap)).setCell (p := ⟨V15.heap.size, 1, none⟩) zXA (.slice none 0 0))
        generalize (V16.setCell ⟨V15.heap.size, 0, none⟩ (.slice a l.at_.length cap)).setCell ⟨V15.heap.size, 1, none⟩ (.slice none 0 0) = V17 at *
        clear y0
        have y0 : V17.cell? ⟨w.heap.size, 0, none⟩ = some (.slice a l.at_.length cap) := cellB u0 BL.out
        clear y1
        have y1 : V17.cell? ⟨w.heap.size, 1, none⟩ = some (.slice a' l.edges.length cap') := cellB u1 BL.out
        refine hK.out _ _ (fun _ => ⟨y0, y1⟩) (fun _ => ?_)
        clear hK K
        try simp only [Act.put]
        refine wpAnyT_ready [13] (by kernel_rfl) (by simp) ?_
        refine AllReadyT.cons rfl (fun K hK => ?_) AllReadyT.nil
        have a0 := XB.out.cell 0
        have az0 := XB.out.frozen 0
        have a1 := XB.out.cell 1
        have az1 := XB.out.frozen 1
        have al := XB.out.lt
        simp at a0 a1
        go_simp
        clear al a0 az0 a1 az1
        have hU := ((XB.out.set (j := 0) (.slice none 0 0)).set (j := 1) (.slice a' l.edges.length cap'))
        simp only [List.setIfInBounds_toArray, List.set_cons_zero, List.set_cons_succ] at hU
        replace XB := Lib.hid hU
        clear hU
        replace XC := Lib.hid ((XC.out.other nXBXC.symm (j := 0) (.slice none 0 0)).other nXBXC.symm (j := 1) (.slice a' l.edges.length cap'))
        replace XA := Lib.hid ((XA.out.other nXBXA.symm (j := 0) (.slice none 0 0)).other nXBXA.symm (j := 1) (.slice a' l.edges.length cap'))
        replace BL := Lib.hid ((BL.out.setCell (p := ⟨V0.heap.size, 0, none⟩) zXB (.slice none 0 0)).setCell (p := ⟨V0.heap.size, 1, none⟩) zXB (.slice a' l.edges.length cap'))
        generalize (V17.setCell ⟨V0.heap.size, 0, none⟩ (.slice none 0 0)).setCell ⟨V0.heap.size, 1, none⟩ (.slice a' l.edges.length cap') = V18 at *
        clear y0
        have y0 : V18.cell? ⟨w.heap.size, 0, none⟩ = some (.slice a l.at_.length cap) := cellB u0 BL.out
        clear y1
        have y1 : V18.cell? ⟨w.heap.size, 1, none⟩ = some (.slice a' l.edges.length cap') := cellB u1 BL.out
        refine hK.out _ _ (fun _ => ⟨y0, y1⟩) (fun _ => ?_)
        clear hK K
        try simp only [Act.put]
        refine wpAnyT_chain (fuel := 1) rfl (by kernel_rfl) ?_
        simp only [List.drop_succ_cons, List.drop_zero]
        have a0 := XC.out.cell 0
        have a1 := XC.out.cell 1
        have az0 := XC.out.frozen 0
        have az1 := XC.out.frozen 1
        have al := XC.out.lt
        simp at a0 a1
        have UC := (XC.out.set (j := 0) (.slice none 0 0)).set (j := 1) (.slice a' l.edges.length cap')
        simp only [List.setIfInBounds_toArray, List.set_cons_zero, List.set_cons_succ] at UC
        have HUC := Lib.hid UC
        have HUA := Lib.hid ((XA.out.other nXCXA.symm (j := 0) (.slice none 0 0)).other nXCXA.symm (j := 1) (.slice a' l.edges.length cap'))
        have HUB := Lib.hid ((XB.out.other nXBXC (j := 0) (.slice none 0 0)).other nXBXC (j := 1) (.slice a' l.edges.length cap'))
        have HBF := Lib.hid ((BL.out.setCell (p := ⟨V10.heap.size, 0, none⟩) zXC (.slice none 0 0)).setCell (p := ⟨V10.heap.size, 1, none⟩) zXC (.slice a' l.edges.length cap'))
        clear hS inv y0 y1 UC
        go_wp2_with fail
        go_meet
        exact ⟨_, _, _, rfl, rfl, rfl, HUA.out, HUB.out, HUC.out, ⟨nXBXA.symm, nXCXA.symm, nXBXC⟩, ⟨zXA, zXB, zXC⟩, HBF.out⟩
      refine AllReadyT.cons rfl (fun K hK => ?_) AllReadyT.nil
      have zXC : w1x.heap.size ≤ V0.heap.size := BL.out.size
      go_simp
      have hb := below1 V0 (.cells #[.slice none 0 0, .slice none 0 0] 25)
      have XC := Lib.hid (Blk.new V0 (.cells #[.slice none 0 0, .slice none 0 0] 25))
      generalize V0.alloc (.cells #[.slice none 0 0, .slice none 0 0] 25) = V19 at *
      replace BL := Lib.hid (bC BL.out hb)
      clear hb
      clear y0
      have y0 : V19.cell? ⟨w.heap.size, 0, none⟩ = some (.slice a l.at_.length cap) := cellB u0 BL.out
      clear y1
      have y1 : V19.cell? ⟨w.heap.size, 1, none⟩ = some (.slice a' l.edges.length cap') := cellB u1 BL.out
      refine hK.out _ _ (fun _ => ⟨y0, y1⟩) (fun _ => ?_)
      clear hK K
      try simp only [Act.put]
      refine wpAnyT_ready [9, 10] (by kernel_rfl) (by simp) ?_
      refine AllReadyT.cons rfl (fun K hK => ?_) ?_
      ·
        have zXA : w1x.heap.size ≤ V19.heap.size := BL.out.size
        go_simp
        have hb := below1 V19 (.cells #[.slice none 0 0, .slice none 0 0] 25)
        have XA := Lib.hid (Blk.new V19 (.cells #[.slice none 0 0, .slice none 0 0] 25))
        generalize V19.alloc (.cells #[.slice none 0 0, .slice none 0 0] 25) = V20 at *
        replace BL := Lib.hid (bC BL.out hb)
        have nXCXA : V0.heap.size ≠ V19.heap.size := by have := XC.out.lt; omega
        replace XC := Lib.hid (XC.out.below hb)
        clear hb
        clear y0
        have y0 : V20.cell? ⟨w.heap.size, 0, none⟩ = some (.slice a l.at_.length cap) := cellB u0 BL.out
        clear y1
        have y1 : V20.cell? ⟨w.heap.size, 1, none⟩ = some (.slice a' l.edges.length cap') := cellB u1 BL.out
        refine hK.out _ _ (fun _ => ⟨y0, y1⟩) (fun _ => ?_)
        clear hK K
        try simp only [Act.put]
        refine wpAnyT_ready [10] (by kernel_rfl) (by simp) ?_
        refine AllReadyT.cons rfl (fun K hK => ?_) AllReadyT.nil
        have zXB : w1x.heap.size ≤ V20.heap.size := BL.out.size
        go_simp
        have hb := below1 V20 (.cells #[.slice none 0 0, .slice none 0 0] 25)
        have XB := Lib.hid (Blk.new V20 (.cells #[.slice none 0 0, .slice none 0 0] 25))
        generalize V20.alloc (.cells #[.slice none 0 0, .slice none 0 0] 25) = V21 at *
        replace BL := Lib.hid (bC BL.out hb)
        have nXCXB : V0.heap.size ≠ V20.heap.size := by have := XC.out.lt; omega
        replace XC := Lib.hid (XC.out.below hb)
        have nXAXB : V19.heap.size ≠ V20.heap.size := by have := XA.out.lt; omega
        replace XA := Lib.hid (XA.out.below hb)
        clear hb
        clear y0
        have y0 : V21.cell? ⟨w.heap.size, 0, none⟩ = some (.slice a l.at_.length cap) := cellB u0 BL.out
        clear y1
        have y1 : V21.cell? ⟨w.heap.size, 1, none⟩ = some (.slice a' l.edges.length cap') := cellB u1 BL.out
        refine hK.out _ _ (fun _ => ⟨y0, y1⟩) (fun _ => ?_)
        clear hK K
        try simp only [Act.put]
        refine wpAnyT_ready [12] (by kernel_rfl) (by simp) ?_
        refine AllReadyT.cons rfl (fun K hK => ?_) AllReadyT.nil
        have a0 := XA.out.cell 0
        have az0 := XA.out.frozen 0
        have a1 := XA.out.cell 1
        have az1 := XA.out.frozen 1
        have al := XA.out.lt
        simp at a0 a1
        go_simp
        clear al a0 az0 a1 az1
        have hU := ((XA.out.set (j := 0) (.slice a l.at_.length cap)).set (j := 1) (.slice none 0 0))
        simp only [List.setIfInBounds_toArray, List.set_cons_zero, List.set_cons_succ] at hU
        replace XA := Lib.hid hU
        clear hU
        replace XC := Lib.hid ((XC.out.other nXCXA (j := 0) (.slice a l.at_.length cap)).other nXCXA (j := 1) (.slice none 0 0))
        replace XB := Lib.hid ((XB.out.other nXAXB.symm (j := 0) (.slice a l.at_.length cap)).other nXAXB.symm (j := 1) (.slice none 0 0))
        replace BL := Lib.hid ((BL.out.setCell (p := ⟨V19.heap.size, 0, none⟩) zXA (.slice a l.at_.length cap)).setCell (p := ⟨V19.heap.size, 1, none⟩) zXA (.slice none 0 0))
        generalize (V21.setCell ⟨V19.heap.size, 0, none⟩ (.slice a l.at_.length cap)).setCell ⟨V19.heap.size, 1, none⟩ (.slice none 0 0) = V22 at *
        clear y0
        have y0 : V22.cell? ⟨w.heap.size, 0, none⟩ = some (.slice a l.at_.length cap) := cellB u0 BL.out
        clear y1
        have y1 : V22.cell? ⟨w.heap.size, 1, none⟩ = some (.slice a' l.edges.length cap') := cellB u1 BL.out
        refine hK.out _ _ (fun _ => ⟨y0, y1⟩) (fun _ => ?_)
        clear hK K
        try simp only [Act.put]
        refine wpAnyT_ready [13] (by kernel_rfl) (by simp) ?_
        refine AllReadyT.cons rfl (fun K hK => ?_) AllReadyT.nil
        have a0 := XB.out.cell 0
        have az0 := XB.out.frozen 0
        have a1 := XB.out.cell 1
        have az1 := XB.out.frozen 1
        have al := XB.out.lt
        simp at a0 a1
        go_simp
        clear al a0 az0 a1 az1
        have hU := ((XB.out.set (j := 0) (.slice none 0 0)).set (j := 1) (.slice a' l.edges.length cap'))
        simp only [List.setIfInBounds_toArray, List.set_cons_zero, List.set_cons_succ] at hU
        replace XB := Lib.hid hU
        clear hU
        replace XC := Lib.hid ((XC.out.other nXCXB (j := 0) (.slice none 0 0)).other nXCXB (j := 1) (.slice a' l.edges.length cap'))
        replace XA := Lib.hid ((XA.out.other nXAXB (j := 0) (.slice none 0 0)).other nXAXB (j := 1) (.slice a' l.edges.length cap'))
        replace BL := Lib.hid ((BL.out.setCell (p := ⟨V20.heap.size, 0, none⟩) zXB (.slice none 0 0)).setCell (p := ⟨V20.heap.size, 1, none⟩) zXB (.slice a' l.edges.length cap'))
        generalize (V22.setCell ⟨V20.heap.size, 0, none⟩ (.slice none 0 0)).setCell ⟨V20.heap.size, 1, none⟩ (.slice a' l.edges.length cap') = V23 at *
        clear y0
        have y0 : V23.cell? ⟨w.heap.size, 0, none⟩ = some (.slice a l.at_.length cap) := cellB u0 BL.out
        clear y1
        have y1 : V23.cell? ⟨w.heap.size, 1, none⟩ = some (.slice a' l.edges.length cap') := cellB u1 BL.out
        refine hK.out _ _ (fun _ => ⟨y0, y1⟩) (fun _ => ?_)
        clear hK K
        try simp only [Act.put]
        refine wpAnyT_chain (fuel := 1) rfl (by kernel_rfl) ?_
        simp only [List.drop_succ_cons, List.drop_zero]
        have a0 := XC.out.cell 0
        have a1 := XC.out.cell 1
        have az0 := XC.out.frozen 0
        have az1 := XC.out.frozen 1
        have al := XC.out.lt
        simp at a0 a1
        have UC := (XC.out.set (j := 0) (.slice none 0 0)).set (j := 1) (.slice a' l.edges.length cap')
        simp only [List.setIfInBounds_toArray, List.set_cons_zero, List.set_cons_succ] at UC
        have HUC := Lib.hid UC
        have HUA := Lib.hid ((XA.out.other nXCXA.symm (j := 0) (.slice none 0 0)).other nXCXA.symm (j := 1) (.slice a' l.edges.length cap'))
        have HUB := Lib.hid ((XB.out.other nXCXB.symm (j := 0) (.slice none 0 0)).other nXCXB.symm (j := 1) (.slice a' l.edges.length cap'))
        have HBF := Lib.hid ((BL.out.setCell (p := ⟨V0.heap.size, 0, none⟩) zXC (.slice none 0 0)).setCell (p := ⟨V0.heap.size, 1, none⟩) zXC (.slice a' l.edges.length cap'))
        clear hS inv y0 y1 UC
        go_wp2_with fail
        go_meet
        exact ⟨_, _, _, rfl, rfl, rfl, HUA.out, HUB.out, HUC.out, ⟨nXAXB, nXCXA.symm, nXCXB.symm⟩, ⟨zXA, zXB, zXC⟩, HBF.out⟩
      refine AllReadyT.cons rfl (fun K hK => ?_) AllReadyT.nil
      have zXB : w1x.heap.size ≤ V19.heap.size := BL.out.size
      go_simp
      have hb := below1 V19 (.cells #[.slice none 0 0, .slice none 0 0] 25)
      have XB := Lib.hid (Blk.new V19 (.cells #[.slice none 0 0, .slice none 0 0] 25))
      generalize V19.alloc (.cells #[.slice none 0 0, .slice none 0 0] 25) = V24 at *
      replace BL := Lib.hid (bC BL.out hb)
      have nXCXB : V0.heap.size ≠ V19.heap.size := by have := XC.out.lt; omega
      replace XC := Lib.hid (XC.out.below hb)
      clear hb
      clear y0
      have y0 : V24.cell? ⟨w.heap.size, 0, none⟩ = some (.slice a l.at_.length cap) := cellB u0 BL.out
      clear y1
      have y1 : V24.cell? ⟨w.heap.size, 1, none⟩ = some (.slice a' l.edges.length cap') := cellB u1 BL.out
      refine hK.out _ _ (fun _ => ⟨y0, y1⟩) (fun _ => ?_)
      clear hK K
      try simp only [Act.put]
      refine wpAnyT_ready [9] (by kernel_rfl) (by simp) ?_
      refine AllReadyT.cons rfl (fun K hK => ?_) AllReadyT.nil
      have zXA : w1x.heap.size ≤ V24.heap.size := BL.out.size
      go_simp
      have hb := below1 V24 (.cells #[.slice none 0 0, .slice none 0 0] 25)
      have XA := Lib.hid (Blk.new V24 (.cells #[.slice none 0 0, .slice none 0 0] 25))
      generalize V24.alloc (.cells #[.slice none 0 0, .slice none 0 0] 25) = V25 at *
      replace BL := Lib.hid (bC BL.out hb)
      have nXCXA : V0.heap.size ≠ V24.heap.size := by have := XC.out.lt; omega
      replace XC := Lib.hid (XC.out.below hb)
      have nXBXA : V19.heap.size ≠ V24.heap.size := by have := XB.out.lt; omega
      replace XB := Lib.hid (XB.out.below hb)
      clear hb
      clear y0
      have y0 : V25.cell? ⟨w.heap.size, 0, none⟩ = some (.slice a l.at_.length cap) := cellB u0 BL.out
      clear y1
      have y1 : V25.cell? ⟨w.heap.size, 1, none⟩ = some (.slice a' l.edges.length cap') := cellB u1 BL.out
      refine hK.out _ _ (fun _ => ⟨y0, y1⟩) (fun _ => ?_)
      clear hK K
      try simp only [Act.put]
      refine wpAnyT_ready [12] (by kernel_rfl) (by simp) ?_
      refine AllReadyT.cons rfl (fun K hK => ?_) AllReadyT.nil
      have a0 := XA.out.cell 0
      have az0 := XA.out.frozen 0
      have a1 := XA.out.cell 1
      have az1 := XA.out.frozen 1
      have al := XA.out.lt
      simp at a0 a1
      go_simp
      clear al a0 az0 a1 az1
      have hU := ((XA.out.set (j := 0) (.slice a l.at_.length cap)).set (j := 1) (.slice none 0 0))
      simp only [List.setIfInBounds_toArray, List.set_cons_zero, List.set_cons_succ] at hU
      replace XA := Lib.hid hU
      clear hU
      replace XC := Lib.hid ((XC.out.other nXCXA (j := 0) (.slice a l.at_.length cap)).other nXCXA (j := 1) (.slice none 0 0))
      replace XB := Lib.hid ((XB.out.other nXBXA (j := 0) (.slice a l.at_.length cap)).other nXBXA (j := 1) (.slice none 0 0))
      replace BL := Lib.hid ((BL.out.setCell (p := ⟨V24.heap.size, 0, none⟩) zXA (.slice a l.at_.length cap)).setCell (p := ⟨V24.heap.size, 1, none⟩) zXA (.slice none 0 0))
      generalize (V25.setCell ⟨V24.heap.size, 0, none⟩ (.slice a l.at_.length cap)).setCell ⟨V24.heap.size, 1, none⟩ (.slice none 0 0) = V26 at *
      clear y0
      have y0 : V26.cell? ⟨w.heap.size, 0, none⟩ = some (.slice a l.at_.length cap) := cellB u0 BL.out
      clear y1
      have y1 : V26.cell? ⟨w.heap.size, 1, none⟩ = some (.slice a' l.edges.length cap') := cellB u1 BL.out
      refine hK.out _ _ (fun _ => ⟨y0, y1⟩) (fun _ => ?_)
      clear hK K
      try simp only [Act.put]
      refine wpAnyT_ready [13] (by kernel_rfl) (by simp) ?_
      refine AllReadyT.cons rfl (fun K hK => ?_) AllReadyT.nil
      have a0 := XB.out.cell 0
      have az0 := XB.out.frozen 0
      have a1 := XB.out.cell 1
      have az1 := XB.out.frozen 1
      have al := XB.out.lt
      simp at a0 a1
      go_simp
      clear al a0 az0 a1 az1
      have hU := ((XB.out.set (j := 0) (.slice none 0 0)).set (j := 1) (.slice a' l.edges.length cap'))
      simp only [List.setIfInBounds_toArray, List.set_cons_zero, List.set_cons_succ] at hU
      replace XB := Lib.hid hU
      clear hU
      replace XC := Lib.hid ((XC.out.other nXCXB (j := 0) (.slice none 0 0)).other nXCXB (j := 1) (.slice a' l.edges.length cap'))
      replace XA := Lib.hid ((XA.out.other nXBXA.symm (j := 0) (.slice none 0 0)).other nXBXA.symm (j := 1) (.slice a' l.edges.length cap'))
      replace BL := Lib.hid ((BL.out.setCell (p := ⟨V19.heap.size, 0, none⟩) zXB (.slice none 0 0)).setCell (p := ⟨V19.heap.size, 1, none⟩) zXB (.slice a' l.edges.length cap'))
      generalize (V26.setCell ⟨V19.heap.size, 0, none⟩ (.slice none 0 0)).setCell ⟨V19.heap.size, 1, none⟩ (.slice a' l.edges.length cap') = V27 at *
      clear y0
      have y0 : V27.cell? ⟨w.heap.size, 0, none⟩ = some (.slice a l.at_.length cap) := cellB u0 BL.out
      clear y1
      have y1 : V27.cell? ⟨w.heap.size, 1, none⟩ = some (.slice a' l.edges.length cap') := cellB u1 BL.out
      refine hK.out _ _ (fun _ => ⟨y0, y1⟩) (fun _ => ?_)
      clear hK K
      try simp only [Act.put]
      refine wpAnyT_chain (fuel := 1) rfl (by kernel_rfl) ?_
      simp only [List.drop_succ_cons, List.drop_zero]
      have a0 := XC.out.cell 0
      have a1 := XC.out.cell 1
      have az0 := XC.out.frozen 0
      have az1 := XC.out.frozen 1
      have al := XC.out.lt
      simp at a0 a1
      have UC := (XC.out.set (j := 0) (.slice none 0 0)).set (j := 1) (.slice a' l.edges.length cap')
      simp only [List.setIfInBounds_toArray, List.set_cons_zero, List.set_cons_succ] at UC
      have HUC := Lib.hid UC
      have HUA := Lib.hid ((XA.out.other nXCXA.symm (j := 0) (.slice none 0 0)).other nXCXA.symm (j := 1) (.slice a' l.edges.length cap'))
      have HUB := Lib.hid ((XB.out.other nXCXB.symm (j := 0) (.slice none 0 0)).other nXCXB.symm (j := 1) (.slice a' l.edges.length cap'))
      have HBF := Lib.hid ((BL.out.setCell (p := ⟨V0.heap.size, 0, none⟩) zXC (.slice none 0 0)).setCell (p := ⟨V0.heap.size, 1, none⟩) zXC (.slice a' l.edges.length cap'))
      clear hS inv y0 y1 UC
      go_wp2_with fail
      go_meet
      exact ⟨_, _, _, rfl, rfl, rfl, HUA.out, HUB.out, HUC.out, ⟨nXBXA.symm, nXCXA.symm, nXCXB.symm⟩, ⟨zXA, zXB, zXC⟩, HBF.out⟩
    obtain ⟨BX, BY, BZ, rfl, rfl, rfl, hX0, hY0, hZ0, ⟨nXY, nXZ, nYZ⟩, ⟨sX, sY, sZ⟩, hW⟩ := hcut
    rename World => w2x
    have hI1 := HI.out.below HB1.out
    have hP1 := HP.out.below HB1.out
    have HIA := Lib.hid (IntsAt.at (w := w1x) (a := a) (n := l.at_.length) (cap := cap) hI1).2
    have HPA := Lib.hid (PairsAt.at (w := w1x) (a := a') (n := l.edges.length) (cap := cap') hP1).2
    have QX := Lib.hid hX0
    have QY := Lib.hid hY0
    have QZ := Lib.hid hZ0
    have QW := Lib.hid hW
    have NE := Lib.hid (And.intro nXY (And.intro nXZ nYZ))
    have SZ := Lib.hid (And.intro sX (And.intro sY sZ))
    clear hI1 hP1 hX0 hY0 hZ0 hW u0 u1 nXY nXZ nYZ sX sY sZ
    go_wp2_with fail
    go_loopw [12] (fun i wr => ∃ (k : Nat) (vx vy vz : Value), i = .int .i64 (k : Int) ∧ k ≤ l.at_.length ∧ wr.ownsRow w1x.heap.size 69 2 vx k (pairCells (upto (timG l t) k)) ∧ wr.ownsRow w1x.heap.size 2 1 vy k ((upto (fun k => atD l k + m) k).map (Value.int .i64)) ∧ wr.ownsRow w1x.heap.size 2 1 vz k ((upto (fun k => t * atD l k) k).map (Value.int .i64)) ∧ Apart vy vz ∧ Blk wr BX (.cells #[.slice a l.at_.length cap, vx] 25) ∧ Blk wr BY (.cells #[vy, .slice a' l.edges.length cap'] 25) ∧ Blk wr BZ (.cells #[vz, .slice a' l.edges.length cap'] 25) ∧ Below w1x.heap.size w1x wr) (fun i _ => l.at_.length - (intOf i).toNat)
    case atStart =>
      exact ⟨0, .slice none 0 0, .slice none 0 0, .slice none 0 0, rfl, Nat.zero_le _, ⟨rfl, .inl ⟨rfl, rfl⟩⟩, ⟨rfl, .inl ⟨rfl, rfl⟩⟩, ⟨rfl, .inl ⟨rfl, rfl⟩⟩, Apart.nil, QX.out, QY.out, QZ.out, QW.out⟩
    case round =>
      rename_i wr
      clear QX QY QZ QW
      obtain ⟨k, vx, vy, vz, rfl, hk, hrx, hry, hrz, hap, hX, hY, hZ, hB⟩ := hrel
      obtain ⟨a2, n2, c2, rfl⟩ := (Row.of_owns hrx).slice
      obtain ⟨a5, n5, c5, rfl⟩ := (Row.of_owns hry).slice
      obtain ⟨a6, n6, c6, rfl⟩ := (Row.of_owns hrz).slice
      have RX := Lib.hid hrx
      have RY := Lib.hid hry
      have RZ := Lib.hid hrz
      have AP_RY_RZ := hap
      have X := Lib.hid hX
      have Y := Lib.hid hY
      have Z := Lib.hid hZ
      have BL := Lib.hid hB
      have hl8 := HL8.out
      have hL := HL1.out.below hB
      have m0 := hL.cell 0
      have m1 := hL.cell 1
      simp at m0 m1
      have ml := hL.lt
      have rk1 : IntKind.i64.wrap ((k : Int) + 1) = (k : Int) + 1 := IntWalk.i64_in _ (by omega)
      clear hrx hry hrz hap hX hY hZ hB hL
      by_cases hlt : k < l.at_.length
      · have hle : k < l.edges.length := by have := HLEN.out; omega
        obtain ⟨b1, o1, rfl, hc1⟩ := HIA.out k hlt
        obtain ⟨b2, o2, rfl, hc2, hc3⟩ := HPA.out k hle
        rw [atD_eq hlt] at hc1
        rw [loD_eq hle] at hc2
        rw [hiD_eq hle] at hc3
        have hpt := log_pt HFIT.out hlt
        obtain ⟨A, hA⟩ : ∃ A, atD l k = A := ⟨_, rfl⟩
        obtain ⟨lo, hlo⟩ : ∃ lo, loD l k = lo := ⟨_, rfl⟩
        obtain ⟨hi, hhi⟩ : ∃ hi, hiD l k = hi := ⟨_, rfl⟩
        rw [hA] at hc1
        rw [hlo] at hc2
        rw [hhi] at hc3
        rw [hA, hlo, hhi] at hpt
        have HG := Lib.hid (show timG l t k = (t * lo, t * hi) by simp only [timG, hlo, hhi])
        have HAA := Lib.hid hA
        obtain ⟨⟨bt1, bt2⟩, bm1, bm2⟩ := BT.out
        have p1 := mul_bd lo t 1000 4 (by omega) (by omega) (by omega) (by omega) (by decide)
        have p2 := mul_bd hi t 1000 4 (by omega) (by omega) (by omega) (by omega) (by decide)
        have p3 := mul_bd A t 100 4 (by omega) (by omega) (by omega) (by omega) (by decide)
        rw [Int.mul_comm lo t] at p1
        rw [Int.mul_comm hi t] at p2
        rw [Int.mul_comm A t] at p3
        have y1 : IntKind.i64.wrap (t * lo) = t * lo := IntWalk.i64_in _ (by omega)
        have y2 : IntKind.i64.wrap (t * hi) = t * hi := IntWalk.i64_in _ (by omega)
        have y3 : IntKind.i64.wrap (t * A) = t * A := IntWalk.i64_in _ (by omega)
        have y4 : IntKind.i64.wrap (A + m) = A + m := IntWalk.i64_in _ (by omega)
        have tk : decide ((k : Int) < (l.at_.length : Int)) = true := by simp; omega
        clear hA hlo hhi hpt p1 p2 p3 bt1 bt2 bm1 bm2
        go_wp2_with fail
        clear m0 m1 ml
        have c0 : wr.cell? ⟨BX, 1, none⟩ = some (.slice a2 n2 c2) := by rw [X.out.cell]; rfl
        have c1x : wr.cell? ⟨w.heap.size, 1, none⟩ = some (.slice (some ⟨b2, o2, none⟩) l.edges.length cap') := by rw [(HL1.out.below BL.out).cell]; rfl
        have c2x : wr.cell? ⟨b2, o2 + k * 2, none⟩ = some (.int .i64 lo) := cellB hc2 BL.out
        have c3x : wr.cell? ⟨b2, o2 + k * 2 + 1, none⟩ = some (.int .i64 hi) := cellB hc3 BL.out
        refine wp_region_T 21 (fun W' => W'.cell? ⟨BX, 1, none⟩ = some (.slice a2 n2 c2) ∧ W'.cell? ⟨w.heap.size, 1, none⟩ = some (.slice (some ⟨b2, o2, none⟩) l.edges.length cap') ∧ W'.cell? ⟨b2, o2 + k * 2, none⟩ = some (.int .i64 lo) ∧ W'.cell? ⟨b2, o2 + k * 2 + 1, none⟩ = some (.int .i64 hi)) (by kernel_rfl) (by kernel_rfl) ⟨c0, c1x, c2x, c3x⟩ ?_
        intro inv hS
        have hbD : Below wr.heap.size wr wr.drew := (Below.refl _ _).drew
        generalize wr.drew = V0 at *
        replace RX := Lib.hid (owns_below RX.out hbD)
        replace RY := Lib.hid (owns_below RY.out hbD)
        replace RZ := Lib.hid (owns_below RZ.out hbD)
        replace X := Lib.hid (X.out.below hbD)
        replace Y := Lib.hid (Y.out.below hbD)
        replace Z := Lib.hid (Z.out.below hbD)
        replace BL := Lib.hid (bC BL.out hbD)
        clear hbD
        clear c0
        have c0 : V0.cell? ⟨BX, 1, none⟩ = some (.slice a2 n2 c2) := by rw [X.out.cell]; rfl
        clear c1x
        have c1x : V0.cell? ⟨w.heap.size, 1, none⟩ = some (.slice (some ⟨b2, o2, none⟩) l.edges.length cap') := by rw [(HL1.out.below BL.out).cell]; rfl
        clear c2x
        have c2x : V0.cell? ⟨b2, o2 + k * 2, none⟩ = some (.int .i64 lo) := cellB hc2 BL.out
        clear c3x
        have c3x : V0.cell? ⟨b2, o2 + k * 2 + 1, none⟩ = some (.int .i64 hi) := cellB hc3 BL.out
        refine wpAnyT_take inv (by kernel_rfl) (by omega) (i := 0) (v := .pointer (some ⟨BX, 1, none⟩)) rfl (by kernel_rfl) (by kernel_rfl) (fun _ _ _ h => h) (Or.inl ⟨by kernel_rfl, ?_⟩) (by assumption) ?_
        · rintro W' ⟨s0, s1, s2, s3⟩
          go_simp
        intro inv2
        clear inv
        have inv := inv2
        clear inv2
        simp only [Act.put, List.setIfInBounds_toArray]
        refine wpAnyT_take inv (by kernel_rfl) (by omega) (i := 1) (v := .slice a2 n2 c2) rfl (by kernel_rfl) (by kernel_rfl) (fun _ _ _ h => h) (Or.inl ⟨by kernel_rfl, ?_⟩) (by assumption) ?_
        · rintro W' ⟨s0, s1, s2, s3⟩
          go_simp
        intro inv2
        clear inv
        have inv := inv2
        clear inv2
        simp only [Act.put]
        refine wpAnyT_take inv (by kernel_rfl) (by omega) (i := 2) (v := .int .i64 (t)) rfl (by kernel_rfl) (by kernel_rfl) (fun _ _ _ h => h) (Or.inl ⟨by kernel_rfl, ?_⟩) (by assumption) ?_
        · rintro W' ⟨s0, s1, s2, s3⟩
          go_simp
        intro inv2
        clear inv
        have inv := inv2
        clear inv2
        simp only [Act.put]
        refine wpAnyT_take inv (by kernel_rfl) (by omega) (i := 3) (v := .pointer (some ⟨w.heap.size, 1, none⟩)) rfl (by kernel_rfl) (by kernel_rfl) (fun _ _ _ h => h) (Or.inl ⟨by kernel_rfl, ?_⟩) (by assumption) ?_
        · rintro W' ⟨s0, s1, s2, s3⟩
          go_simp
        intro inv2
        clear inv
        have inv := inv2
        clear inv2
        simp only [Act.put]
        refine wpAnyT_take inv (by kernel_rfl) (by omega) (i := 4) (v := .slice (some ⟨b2, o2, none⟩) l.edges.length cap') rfl (by kernel_rfl) (by kernel_rfl) (fun _ _ _ h => h) (Or.inl ⟨by kernel_rfl, ?_⟩) (by assumption) ?_
        · rintro W' ⟨s0, s1, s2, s3⟩
          go_simp
        intro inv2
        clear inv
        have inv := inv2
        clear inv2
        simp only [Act.put]
        refine wpAnyT_take inv (by kernel_rfl) (by omega) (i := 5) (v := .int .i64 (k : Int)) rfl (by kernel_rfl) (by kernel_rfl) (fun _ _ _ h => h) (Or.inl ⟨by kernel_rfl, ?_⟩) (by assumption) ?_
        · rintro W' ⟨s0, s1, s2, s3⟩
          go_simp
        intro inv2
        clear inv
        have inv := inv2
        clear inv2
        simp only [Act.put]
        refine wpAnyT_take inv (by kernel_rfl) (by omega) (i := 6) (v := .pointer (some ⟨b2, o2 + k * 2, none⟩)) rfl (by kernel_rfl) (by kernel_rfl) (fun _ _ _ h => h) (Or.inl ⟨by kernel_rfl, ?_⟩) (by assumption) ?_
        · rintro W' ⟨s0, s1, s2, s3⟩
          go_simp
        intro inv2
        clear inv
        have inv := inv2
        clear inv2
        simp only [Act.put]
        refine wpAnyT_take inv (by kernel_rfl) (by omega) (i := 7) (v := .pointer (some ⟨b2, o2 + k * 2, none⟩)) rfl (by kernel_rfl) (by kernel_rfl) (fun _ _ _ h => h) (Or.inl ⟨by kernel_rfl, ?_⟩) (by assumption) ?_
        · rintro W' ⟨s0, s1, s2, s3⟩
          go_simp
        intro inv2
        clear inv
        have inv := inv2
        clear inv2
        simp only [Act.put]
        refine wpAnyT_take inv (by kernel_rfl) (by omega) (i := 8) (v := .int .i64 (lo)) rfl (by kernel_rfl) (by kernel_rfl) (fun _ _ _ h => h) (Or.inl ⟨by kernel_rfl, ?_⟩) (by assumption) ?_
        · rintro W' ⟨s0, s1, s2, s3⟩
          go_simp
        intro inv2
        clear inv
        have inv := inv2
        clear inv2
        simp only [Act.put]
        refine wpAnyT_take inv (by kernel_rfl) (by omega) (i := 9) (v := .int .i64 (t * lo)) rfl (by kernel_rfl) (by kernel_rfl) (fun _ _ _ h => h) (Or.inl ⟨by kernel_rfl, ?_⟩) (by assumption) ?_
        · rintro W' ⟨s0, s1, s2, s3⟩
          go_simp
        intro inv2
        clear inv
        have inv := inv2
        clear inv2
        simp only [Act.put]
        refine wpAnyT_take inv (by kernel_rfl) (by omega) (i := 10) (v := .int .i64 (t)) rfl (by kernel_rfl) (by kernel_rfl) (fun _ _ _ h => h) (Or.inl ⟨by kernel_rfl, ?_⟩) (by assumption) ?_
        · rintro W' ⟨s0, s1, s2, s3⟩
          go_simp
        intro inv2
        clear inv
        have inv := inv2
        clear inv2
        simp only [Act.put]
        refine wpAnyT_take inv (by kernel_rfl) (by omega) (i := 11) (v := .pointer (some ⟨w.heap.size, 1, none⟩)) rfl (by kernel_rfl) (by kernel_rfl) (fun _ _ _ h => h) (Or.inl ⟨by kernel_rfl, ?_⟩) (by assumption) ?_
        · rintro W' ⟨s0, s1, s2, s3⟩
          go_simp
        intro inv2
        clear inv
        have inv := inv2
        clear inv2
        simp only [Act.put]
        refine wpAnyT_take inv (by kernel_rfl) (by omega) (i := 12) (v := .slice (some ⟨b2, o2, none⟩) l.edges.length cap') rfl (by kernel_rfl) (by kernel_rfl) (fun _ _ _ h => h) (Or.inl ⟨by kernel_rfl, ?_⟩) (by assumption) ?_
        · rintro W' ⟨s0, s1, s2, s3⟩
          go_simp
        intro inv2
        clear inv
        have inv := inv2
        clear inv2
        simp only [Act.put]
        refine wpAnyT_take inv (by kernel_rfl) (by omega) (i := 13) (v := .int .i64 (k : Int)) rfl (by kernel_rfl) (by kernel_rfl) (fun _ _ _ h => h) (Or.inl ⟨by kernel_rfl, ?_⟩) (by assumption) ?_
        · rintro W' ⟨s0, s1, s2, s3⟩
          go_simp
        intro inv2
        clear inv
        have inv := inv2
        clear inv2
        simp only [Act.put]
        refine wpAnyT_take inv (by kernel_rfl) (by omega) (i := 14) (v := .pointer (some ⟨b2, o2 + k * 2, none⟩)) rfl (by kernel_rfl) (by kernel_rfl) (fun _ _ _ h => h) (Or.inl ⟨by kernel_rfl, ?_⟩) (by assumption) ?_
        · rintro W' ⟨s0, s1, s2, s3⟩
          go_simp
        intro inv2
        clear inv
        have inv := inv2
        clear inv2
        simp only [Act.put]
        refine wpAnyT_take inv (by kernel_rfl) (by omega) (i := 15) (v := .pointer (some ⟨b2, o2 + k * 2 + 1, none⟩)) rfl (by kernel_rfl) (by kernel_rfl) (fun _ _ _ h => h) (Or.inl ⟨by kernel_rfl, ?_⟩) (by assumption) ?_
        · rintro W' ⟨s0, s1, s2, s3⟩
          go_simp
        intro inv2
        clear inv
        have inv := inv2
        clear inv2
        simp only [Act.put]
        refine wpAnyT_take inv (by kernel_rfl) (by omega) (i := 16) (v := .int .i64 (hi)) rfl (by kernel_rfl) (by kernel_rfl) (fun _ _ _ h => h) (Or.inl ⟨by kernel_rfl, ?_⟩) (by assumption) ?_
        · rintro W' ⟨s0, s1, s2, s3⟩
          go_simp
        intro inv2
        clear inv
        have inv := inv2
        clear inv2
        simp only [Act.put]
        refine wpAnyT_take inv (by kernel_rfl) (by omega) (i := 17) (v := .int .i64 (t * hi)) rfl (by kernel_rfl) (by kernel_rfl) (fun _ _ _ h => h) (Or.inl ⟨by kernel_rfl, ?_⟩) (by assumption) ?_
        · rintro W' ⟨s0, s1, s2, s3⟩
          go_simp
        intro inv2
        clear inv
        have inv := inv2
        clear inv2
        simp only [Act.put]
        refine wpAnyT_ready [18] (by kernel_rfl) (by simp) ?_
        refine AllReadyT.cons rfl (fun K hK => ?_) AllReadyT.nil
        go_simp
        refine (to_any (t * lo) (t * hi) _).mono ?_
        rintro e V1 ⟨rfl, hbC⟩
        replace RX := Lib.hid (owns_below RX.out hbC)
        replace RY := Lib.hid (owns_below RY.out hbC)
        replace RZ := Lib.hid (owns_below RZ.out hbC)
        replace X := Lib.hid (X.out.below hbC)
        replace Y := Lib.hid (Y.out.below hbC)
        replace Z := Lib.hid (Z.out.below hbC)
        replace BL := Lib.hid (bC BL.out hbC)
        clear hbC
        clear c0
        have c0 : V1.cell? ⟨BX, 1, none⟩ = some (.slice a2 n2 c2) := by rw [X.out.cell]; rfl
        clear c1x
        have c1x : V1.cell? ⟨w.heap.size, 1, none⟩ = some (.slice (some ⟨b2, o2, none⟩) l.edges.length cap') := by rw [(HL1.out.below BL.out).cell]; rfl
        clear c2x
        have c2x : V1.cell? ⟨b2, o2 + k * 2, none⟩ = some (.int .i64 lo) := cellB hc2 BL.out
        clear c3x
        have c3x : V1.cell? ⟨b2, o2 + k * 2 + 1, none⟩ = some (.int .i64 hi) := cellB hc3 BL.out
        refine hK.out _ _ (fun _ => ⟨c0, c1x, c2x, c3x⟩) (fun _ => ?_)
        clear hK K
        try simp only [Act.put]
        refine wpAnyT_ready [19] (by kernel_rfl) (by simp) ?_
        refine AllReadyT.cons rfl (fun K hK => ?_) AllReadyT.nil
        go_simp
        have hbA := below1 V1 (.cells #[.int .i64 (t * lo), .int .i64 (t * hi)] 69)
        have BN19 := Lib.hid (Blk.new V1 (.cells #[.int .i64 (t * lo), .int .i64 (t * hi)] 69))
        have AN19RX := fun g (h : Value.ownBlock (.slice a2 n2 c2) = some g) (e : g = V1.heap.size) => show False by have := owns_block RX.out h; omega
        have AN19RY := fun g (h : Value.ownBlock (.slice a5 n5 c5) = some g) (e : g = V1.heap.size) => show False by have := owns_block RY.out h; omega
        have AN19RZ := fun g (h : Value.ownBlock (.slice a6 n6 c6) = some g) (e : g = V1.heap.size) => show False by have := owns_block RZ.out h; omega
        generalize V1.alloc (.cells #[.int .i64 (t * lo), .int .i64 (t * hi)] 69) = V2 at *
        replace RX := Lib.hid (owns_below RX.out hbA)
        replace RY := Lib.hid (owns_below RY.out hbA)
        replace RZ := Lib.hid (owns_below RZ.out hbA)
        replace X := Lib.hid (X.out.below hbA)
        replace Y := Lib.hid (Y.out.below hbA)
        replace Z := Lib.hid (Z.out.below hbA)
        replace BL := Lib.hid (bC BL.out hbA)
        clear hbA
        clear c0
        have c0 : V2.cell? ⟨BX, 1, none⟩ = some (.slice a2 n2 c2) := by rw [X.out.cell]; rfl
        clear c1x
        have c1x : V2.cell? ⟨w.heap.size, 1, none⟩ = some (.slice (some ⟨b2, o2, none⟩) l.edges.length cap') := by rw [(HL1.out.below BL.out).cell]; rfl
        clear c2x
        have c2x : V2.cell? ⟨b2, o2 + k * 2, none⟩ = some (.int .i64 lo) := cellB hc2 BL.out
        clear c3x
        have c3x : V2.cell? ⟨b2, o2 + k * 2 + 1, none⟩ = some (.int .i64 hi) := cellB hc3 BL.out
        refine hK.out _ _ (fun _ => ⟨c0, c1x, c2x, c3x⟩) (fun _ => ?_)
        clear hK K
        try simp only [Act.put]
        refine wpAnyT_ready [20] (by kernel_rfl) (by simp) ?_
        refine AllReadyT.cons rfl (fun K hK => ?_) AllReadyT.nil
        refine Eq.mpr (if_pos ?_) ?_
        · rfl
        have hsz := BL.out.size
        have HNN := Lib.hid (cells_pair (by rw [BN19.out.cell]; rfl) (by rw [BN19.out.cell]; rfl) : ∀ jj uu, ([.int .i64 (t * lo), .int .i64 (t * hi)] : List Value)[jj]? = some uu → V2.cell? (Addr.add ⟨V1.heap.size, 0, none⟩ jj) = some uu)
        refine wp_append_at _ _ _ 23 rfl w1x.heap.size 69 ir (.agg #[.int .i64 0, .int .i64 0]) 2 16 undR IR.out K0.out K1.out K2.out rfl (by decide) _ _ _ rfl RX.out ⟨V1.heap.size, 0, none⟩ 1 1 [.int .i64 (t * lo), .int .i64 (t * hi)] rfl rfl HNN.out (by intro u hu; simp only [List.mem_cons, List.not_mem_nil, or_false] at hu; rcases hu with rfl | rfl <;> rfl) (by unfold maxLen; omega) (by omega) (by omega) ?_
        intro v2 V3 own gr att
        replace X := Lib.hid (X.out.grown RX.out (by decide) gr)
        replace Y := Lib.hid (Y.out.grown RX.out (by decide) gr)
        replace Z := Lib.hid (Z.out.grown RX.out (by decide) gr)
        replace RY := Lib.hid (owns_grown RX.out RY.out (by decide) gr)
        replace RZ := Lib.hid (owns_grown RX.out RZ.out (by decide) gr)
        replace BL := Lib.hid (below_owns RX.out gr BL.out hsz)
        replace RX := Lib.hid own
        clear own gr att HNN hsz BN19
        clear c0
        have c0 : V3.cell? ⟨BX, 1, none⟩ = some (.slice a2 n2 c2) := by rw [X.out.cell]; rfl
        clear c1x
        have c1x : V3.cell? ⟨w.heap.size, 1, none⟩ = some (.slice (some ⟨b2, o2, none⟩) l.edges.length cap') := by rw [(HL1.out.below BL.out).cell]; rfl
        clear c2x
        have c2x : V3.cell? ⟨b2, o2 + k * 2, none⟩ = some (.int .i64 lo) := cellB hc2 BL.out
        clear c3x
        have c3x : V3.cell? ⟨b2, o2 + k * 2 + 1, none⟩ = some (.int .i64 hi) := cellB hc3 BL.out
        refine hK.out _ _ (fun _ => ⟨c0, c1x, c2x, c3x⟩) (fun _ => ?_)
        clear hK K
        try simp only [Act.put]
        refine wpAnyT_chain (fuel := 2) rfl (by kernel_rfl) ?_
        simp only [List.drop_succ_cons, List.drop_zero]
        clear hS inv c0 c1x c2x c3x
        obtain ⟨a4, n4, c4, rfl⟩ := (Row.of_owns RX.out).slice
        have x1 := X.out.cell 1
        have z1 := X.out.frozen 1
        have xl := X.out.lt
        simp at x1
        have U := (X.out.set (j := 1) (.slice a4 n4 c4))
        simp only [List.setIfInBounds_toArray, List.set_cons_zero, List.set_cons_succ] at U
        replace RX := Lib.hid (owns_set RX.out X.out (by decide) 1 (.slice a4 n4 c4))
        replace RY := Lib.hid (owns_set RY.out X.out (by decide) 1 (.slice a4 n4 c4))
        replace RZ := Lib.hid (owns_set RZ.out X.out (by decide) 1 (.slice a4 n4 c4))
        replace Y := Lib.hid (Y.out.other NE.out.1.symm (j := 1) (.slice a4 n4 c4))
        replace Z := Lib.hid (Z.out.other NE.out.2.1.symm (j := 1) (.slice a4 n4 c4))
        replace BL := Lib.hid (BL.out.setCell (p := ⟨BX, 1, none⟩) SZ.out.1 (.slice a4 n4 c4))
        replace X := Lib.hid U
        clear U
        go_wp2_with fail
        clear x1 z1 xl
        generalize hwm : World.setCell _ _ _ = wm at *
        clear hwm
        have c0 : wm.cell? ⟨BY, 0, none⟩ = some (.slice a5 n5 c5) := by rw [Y.out.cell]; rfl
        have c1x : wm.cell? ⟨BZ, 0, none⟩ = some (.slice a6 n6 c6) := by rw [Z.out.cell]; rfl
        have c2x : wm.cell? ⟨w.heap.size, 0, none⟩ = some (.slice (some ⟨b1, o1, none⟩) l.at_.length cap) := by rw [(HL1.out.below BL.out).cell]; rfl
        have c3x : wm.cell? ⟨b1, o1 + k, none⟩ = some (.int .i64 (A)) := cellB hc1 BL.out
        refine wp_region_T 23 (fun W' => W'.cell? ⟨BY, 0, none⟩ = some (.slice a5 n5 c5) ∧ W'.cell? ⟨BZ, 0, none⟩ = some (.slice a6 n6 c6) ∧ W'.cell? ⟨w.heap.size, 0, none⟩ = some (.slice (some ⟨b1, o1, none⟩) l.at_.length cap) ∧ W'.cell? ⟨b1, o1 + k, none⟩ = some (.int .i64 (A))) (by kernel_rfl) (by kernel_rfl) ⟨c0, c1x, c2x, c3x⟩ ?_
        intro inv hS
        have hbD : Below wm.heap.size wm wm.drew := (Below.refl _ _).drew
        generalize wm.drew = V0 at *
        replace RX := Lib.hid (owns_below RX.out hbD)
        replace RY := Lib.hid (owns_below RY.out hbD)
        replace RZ := Lib.hid (owns_below RZ.out hbD)
        replace X := Lib.hid (X.out.below hbD)
        replace Y := Lib.hid (Y.out.below hbD)
        replace Z := Lib.hid (Z.out.below hbD)
        replace BL := Lib.hid (bC BL.out hbD)
        clear hbD
        clear c0
        have c0 : V0.cell? ⟨BY, 0, none⟩ = some (.slice a5 n5 c5) := by rw [Y.out.cell]; rfl
        clear c1x
        have c1x : V0.cell? ⟨BZ, 0, none⟩ = some (.slice a6 n6 c6) := by rw [Z.out.cell]; rfl
        clear c2x
        have c2x : V0.cell? ⟨w.heap.size, 0, none⟩ = some (.slice (some ⟨b1, o1, none⟩) l.at_.length cap) := by rw [(HL1.out.below BL.out).cell]; rfl
        clear c3x
        have c3x : V0.cell? ⟨b1, o1 + k, none⟩ = some (.int .i64 (A)) := cellB hc1 BL.out
        refine wpAnyT_take inv (by kernel_rfl) (by omega) (i := 0) (v := .pointer (some ⟨BY, 0, none⟩)) rfl (by kernel_rfl) (by kernel_rfl) (fun _ _ _ h => h) (Or.inl ⟨by kernel_rfl, ?_⟩) (by assumption) ?_
        · rintro W' ⟨s0, s1, s2, s3⟩
          go_simp
        intro inv2
        clear inv
        have inv := inv2
        clear inv2
        simp only [Act.put, List.setIfInBounds_toArray]
        refine wpAnyT_take inv (by kernel_rfl) (by omega) (i := 1) (v := .slice a5 n5 c5) rfl (by kernel_rfl) (by kernel_rfl) (fun _ _ _ h => h) (Or.inl ⟨by kernel_rfl, ?_⟩) (by assumption) ?_
        · rintro W' ⟨s0, s1, s2, s3⟩
          go_simp
        intro inv2
        clear inv
        have inv := inv2
        clear inv2
        simp only [Act.put]
        refine wpAnyT_take inv (by kernel_rfl) (by omega) (i := 2) (v := .pointer (some ⟨w.heap.size, 0, none⟩)) rfl (by kernel_rfl) (by kernel_rfl) (fun _ _ _ h => h) (Or.inl ⟨by kernel_rfl, ?_⟩) (by assumption) ?_
        · rintro W' ⟨s0, s1, s2, s3⟩
          go_simp
        intro inv2
        clear inv
        have inv := inv2
        clear inv2
        simp only [Act.put]
        refine wpAnyT_take inv (by kernel_rfl) (by omega) (i := 3) (v := .slice (some ⟨b1, o1, none⟩) l.at_.length cap) rfl (by kernel_rfl) (by kernel_rfl) (fun _ _ _ h => h) (Or.inl ⟨by kernel_rfl, ?_⟩) (by assumption) ?_
        · rintro W' ⟨s0, s1, s2, s3⟩
          go_simp
        intro inv2
        clear inv
        have inv := inv2
        clear inv2
        simp only [Act.put]
        refine wpAnyT_take inv (by kernel_rfl) (by omega) (i := 4) (v := .int .i64 (k : Int)) rfl (by kernel_rfl) (by kernel_rfl) (fun _ _ _ h => h) (Or.inl ⟨by kernel_rfl, ?_⟩) (by assumption) ?_
        · rintro W' ⟨s0, s1, s2, s3⟩
          go_simp
        intro inv2
        clear inv
        have inv := inv2
        clear inv2
        simp only [Act.put]
        refine wpAnyT_take inv (by kernel_rfl) (by omega) (i := 5) (v := .pointer (some ⟨b1, o1 + k, none⟩)) rfl (by kernel_rfl) (by kernel_rfl) (fun _ _ _ h => h) (Or.inl ⟨by kernel_rfl, ?_⟩) (by assumption) ?_
        · rintro W' ⟨s0, s1, s2, s3⟩
          go_simp
        intro inv2
        clear inv
        have inv := inv2
        clear inv2
        simp only [Act.put]
        refine wpAnyT_take inv (by kernel_rfl) (by omega) (i := 6) (v := .int .i64 (A)) rfl (by kernel_rfl) (by kernel_rfl) (fun _ _ _ h => h) (Or.inl ⟨by kernel_rfl, ?_⟩) (by assumption) ?_
        · rintro W' ⟨s0, s1, s2, s3⟩
          go_simp
        intro inv2
        clear inv
        have inv := inv2
        clear inv2
        simp only [Act.put]
        refine wpAnyT_take inv (by kernel_rfl) (by omega) (i := 7) (v := .int .i64 (m)) rfl (by kernel_rfl) (by kernel_rfl) (fun _ _ _ h => h) (Or.inl ⟨by kernel_rfl, ?_⟩) (by assumption) ?_
        · rintro W' ⟨s0, s1, s2, s3⟩
          go_simp
        intro inv2
        clear inv
        have inv := inv2
        clear inv2
        simp only [Act.put]
        refine wpAnyT_take inv (by kernel_rfl) (by omega) (i := 8) (v := .int .i64 (A + m)) rfl (by kernel_rfl) (by kernel_rfl) (fun _ _ _ h => h) (Or.inl ⟨by kernel_rfl, ?_⟩) (by assumption) ?_
        · rintro W' ⟨s0, s1, s2, s3⟩
          go_simp
        intro inv2
        clear inv
        have inv := inv2
        clear inv2
        simp only [Act.put]
        refine wpAnyT_take inv (by kernel_rfl) (by omega) (i := 11) (v := .pointer (some ⟨BZ, 0, none⟩)) rfl (by kernel_rfl) (by kernel_rfl) (fun _ _ _ h => h) (Or.inl ⟨by kernel_rfl, ?_⟩) (by assumption) ?_
        · rintro W' ⟨s0, s1, s2, s3⟩
          go_simp
        intro inv2
        clear inv
        have inv := inv2
        clear inv2
        simp only [Act.put]
        refine wpAnyT_take inv (by kernel_rfl) (by omega) (i := 12) (v := .slice a6 n6 c6) rfl (by kernel_rfl) (by kernel_rfl) (fun _ _ _ h => h) (Or.inl ⟨by kernel_rfl, ?_⟩) (by assumption) ?_
        · rintro W' ⟨s0, s1, s2, s3⟩
          go_simp
        intro inv2
        clear inv
        have inv := inv2
        clear inv2
        simp only [Act.put]
        refine wpAnyT_take inv (by kernel_rfl) (by omega) (i := 13) (v := .int .i64 (t)) rfl (by kernel_rfl) (by kernel_rfl) (fun _ _ _ h => h) (Or.inl ⟨by kernel_rfl, ?_⟩) (by assumption) ?_
        · rintro W' ⟨s0, s1, s2, s3⟩
          go_simp
        intro inv2
        clear inv
        have inv := inv2
        clear inv2
        simp only [Act.put]
        refine wpAnyT_take inv (by kernel_rfl) (by omega) (i := 14) (v := .pointer (some ⟨w.heap.size, 0, none⟩)) rfl (by kernel_rfl) (by kernel_rfl) (fun _ _ _ h => h) (Or.inl ⟨by kernel_rfl, ?_⟩) (by assumption) ?_
        · rintro W' ⟨s0, s1, s2, s3⟩
          go_simp
        intro inv2
        clear inv
        have inv := inv2
        clear inv2
        simp only [Act.put]
        refine wpAnyT_take inv (by kernel_rfl) (by omega) (i := 15) (v := .slice (some ⟨b1, o1, none⟩) l.at_.length cap) rfl (by kernel_rfl) (by kernel_rfl) (fun _ _ _ h => h) (Or.inl ⟨by kernel_rfl, ?_⟩) (by assumption) ?_
        · rintro W' ⟨s0, s1, s2, s3⟩
          go_simp
        intro inv2
        clear inv
        have inv := inv2
        clear inv2
        simp only [Act.put]
        refine wpAnyT_take inv (by kernel_rfl) (by omega) (i := 16) (v := .int .i64 (k : Int)) rfl (by kernel_rfl) (by kernel_rfl) (fun _ _ _ h => h) (Or.inl ⟨by kernel_rfl, ?_⟩) (by assumption) ?_
        · rintro W' ⟨s0, s1, s2, s3⟩
          go_simp
        intro inv2
        clear inv
        have inv := inv2
        clear inv2
        simp only [Act.put]
        refine wpAnyT_take inv (by kernel_rfl) (by omega) (i := 17) (v := .pointer (some ⟨b1, o1 + k, none⟩)) rfl (by kernel_rfl) (by kernel_rfl) (fun _ _ _ h => h) (Or.inl ⟨by kernel_rfl, ?_⟩) (by assumption) ?_
        · rintro W' ⟨s0, s1, s2, s3⟩
          go_simp
        intro inv2
        clear inv
        have inv := inv2
        clear inv2
        simp only [Act.put]
        refine wpAnyT_take inv (by kernel_rfl) (by omega) (i := 18) (v := .int .i64 (A)) rfl (by kernel_rfl) (by kernel_rfl) (fun _ _ _ h => h) (Or.inl ⟨by kernel_rfl, ?_⟩) (by assumption) ?_
        · rintro W' ⟨s0, s1, s2, s3⟩
          go_simp
        intro inv2
        clear inv
        have inv := inv2
        clear inv2
        simp only [Act.put]
        refine wpAnyT_take inv (by kernel_rfl) (by omega) (i := 19) (v := .int .i64 (t * A)) rfl (by kernel_rfl) (by kernel_rfl) (fun _ _ _ h => h) (Or.inl ⟨by kernel_rfl, ?_⟩) (by assumption) ?_
        · rintro W' ⟨s0, s1, s2, s3⟩
          go_simp
        intro inv2
        clear inv
        have inv := inv2
        clear inv2
        simp only [Act.put]
        refine wpAnyT_ready [9, 20] (by kernel_rfl) (by simp) ?_
        refine AllReadyT.cons rfl (fun K hK => ?_) ?_
        ·
          go_simp
          have hbA := below1 V0 (.cells #[.int .i64 (A + m)] 2)
          have BN9 := Lib.hid (Blk.new V0 (.cells #[.int .i64 (A + m)] 2))
          have AN9RX := fun g (h : Value.ownBlock (.slice a4 n4 c4) = some g) (e : g = V0.heap.size) => show False by have := owns_block RX.out h; omega
          have AN9RY := fun g (h : Value.ownBlock (.slice a5 n5 c5) = some g) (e : g = V0.heap.size) => show False by have := owns_block RY.out h; omega
          have AN9RZ := fun g (h : Value.ownBlock (.slice a6 n6 c6) = some g) (e : g = V0.heap.size) => show False by have := owns_block RZ.out h; omega
          generalize V0.alloc (.cells #[.int .i64 (A + m)] 2) = V1 at *
          replace RX := Lib.hid (owns_below RX.out hbA)
          replace RY := Lib.hid (owns_below RY.out hbA)
          replace RZ := Lib.hid (owns_below RZ.out hbA)
          replace X := Lib.hid (X.out.below hbA)
          replace Y := Lib.hid (Y.out.below hbA)
          replace Z := Lib.hid (Z.out.below hbA)
          replace BL := Lib.hid (bC BL.out hbA)
          clear hbA
          clear c0
          have c0 : V1.cell? ⟨BY, 0, none⟩ = some (.slice a5 n5 c5) := by rw [Y.out.cell]; rfl
          clear c1x
          have c1x : V1.cell? ⟨BZ, 0, none⟩ = some (.slice a6 n6 c6) := by rw [Z.out.cell]; rfl
          clear c2x
          have c2x : V1.cell? ⟨w.heap.size, 0, none⟩ = some (.slice (some ⟨b1, o1, none⟩) l.at_.length cap) := by rw [(HL1.out.below BL.out).cell]; rfl
          clear c3x
          have c3x : V1.cell? ⟨b1, o1 + k, none⟩ = some (.int .i64 (A)) := cellB hc1 BL.out
          refine hK.out _ _ (fun _ => ⟨c0, c1x, c2x, c3x⟩) (fun _ => ?_)
          clear hK K
          try simp only [Act.put]
          refine wpAnyT_ready [10, 20] (by kernel_rfl) (by simp) ?_
          refine AllReadyT.cons rfl (fun K hK => ?_) ?_
          ·
            refine Eq.mpr (if_pos ?_) ?_
            · rfl
            have hsz := BL.out.size
            have HNN := Lib.hid (cells_one (by rw [BN9.out.cell]; rfl) : ∀ jj uu, ([.int .i64 (A + m)] : List Value)[jj]? = some uu → V1.cell? (Addr.add ⟨V0.heap.size, 0, none⟩ jj) = some uu)
            refine wp_append_at _ _ _ 22 rfl w1x.heap.size 2 ii (.int .i64 0) 1 8 undI II.out J0.out J1.out J2.out rfl (by decide) _ _ _ rfl RY.out ⟨V0.heap.size, 0, none⟩ 1 1 [.int .i64 (A + m)] rfl rfl HNN.out (by intro u hu; simp only [List.mem_cons, List.not_mem_nil, or_false] at hu; subst hu; rfl) (by unfold maxLen; omega) (by omega) (by omega) ?_
            intro v3 V2 own gr att
            replace X := Lib.hid (X.out.grown RY.out (by decide) gr)
            replace Y := Lib.hid (Y.out.grown RY.out (by decide) gr)
            replace Z := Lib.hid (Z.out.grown RY.out (by decide) gr)
            have AORZ := AP_RY_RZ.symm
            replace AP_RY_RZ := (apart_grown RZ.out AP_RY_RZ.symm att).symm
            replace RX := Lib.hid (owns_grown RY.out RX.out (by decide) gr)
            replace RZ := Lib.hid (owns_apart RZ.out AORZ gr)
            replace BL := Lib.hid (below_owns RY.out gr BL.out hsz)
            replace RY := Lib.hid own
            clear own gr att HNN hsz BN9 AORZ
            clear c0
            have c0 : V2.cell? ⟨BY, 0, none⟩ = some (.slice a5 n5 c5) := by rw [Y.out.cell]; rfl
            clear c1x
            have c1x : V2.cell? ⟨BZ, 0, none⟩ = some (.slice a6 n6 c6) := by rw [Z.out.cell]; rfl
            clear c2x
            have c2x : V2.cell? ⟨w.heap.size, 0, none⟩ = some (.slice (some ⟨b1, o1, none⟩) l.at_.length cap) := by rw [(HL1.out.below BL.out).cell]; rfl
            clear c3x
            have c3x : V2.cell? ⟨b1, o1 + k, none⟩ = some (.int .i64 (A)) := cellB hc1 BL.out
            refine hK.out _ _ (fun _ => ⟨c0, c1x, c2x, c3x⟩) (fun _ => ?_)
            clear hK K
            try simp only [Act.put]
            replace inv := HeadM.step inv 9 (by kernel_rfl) (by omega)
            replace inv := HeadM.step inv 10 (by kernel_rfl) (by omega)
            clear hS
            have hS : V2.cell? ⟨BY, 0, none⟩ = some (.slice a5 n5 c5) ∧ V2.cell? ⟨BZ, 0, none⟩ = some (.slice a6 n6 c6) ∧ V2.cell? ⟨w.heap.size, 0, none⟩ = some (.slice (some ⟨b1, o1, none⟩) l.at_.length cap) ∧ V2.cell? ⟨b1, o1 + k, none⟩ = some (.int .i64 (A)) := ⟨c0, c1x, c2x, c3x⟩
            refine wpAnyT_take inv (by kernel_rfl) (by omega) (i := 22) (v := .pointer (some ⟨BY, 0, none⟩)) rfl (by kernel_rfl) (by kernel_rfl) (fun _ _ _ h => h) (Or.inl ⟨by kernel_rfl, ?_⟩) (by assumption) ?_
            · rintro W' ⟨s0, s1, s2, s3⟩
              go_simp
            intro inv2
            clear inv
            have inv := inv2
            clear inv2
            simp only [Act.put, List.setIfInBounds_toArray]
            refine wpAnyT_ready [20] (by kernel_rfl) (by simp) ?_
            refine AllReadyT.cons rfl (fun K hK => ?_) AllReadyT.nil
            go_simp
            have hbA := below1 V2 (.cells #[.int .i64 (t * A)] 2)
            have BN20 := Lib.hid (Blk.new V2 (.cells #[.int .i64 (t * A)] 2))
            have AN20RX := fun g (h : Value.ownBlock (.slice a4 n4 c4) = some g) (e : g = V2.heap.size) => show False by have := owns_block RX.out h; omega
            have AN20RY := fun g (h : Value.ownBlock (v3) = some g) (e : g = V2.heap.size) => show False by have := owns_block RY.out h; omega
            have AN20RZ := fun g (h : Value.ownBlock (.slice a6 n6 c6) = some g) (e : g = V2.heap.size) => show False by have := owns_block RZ.out h; omega
            generalize V2.alloc (.cells #[.int .i64 (t * A)] 2) = V3 at *
            replace RX := Lib.hid (owns_below RX.out hbA)
            replace RY := Lib.hid (owns_below RY.out hbA)
            replace RZ := Lib.hid (owns_below RZ.out hbA)
            replace X := Lib.hid (X.out.below hbA)
            replace Y := Lib.hid (Y.out.below hbA)
            replace Z := Lib.hid (Z.out.below hbA)
            replace BL := Lib.hid (bC BL.out hbA)
            clear hbA
            clear c0
            have c0 : V3.cell? ⟨BY, 0, none⟩ = some (.slice a5 n5 c5) := by rw [Y.out.cell]; rfl
            clear c1x
            have c1x : V3.cell? ⟨BZ, 0, none⟩ = some (.slice a6 n6 c6) := by rw [Z.out.cell]; rfl
            clear c2x
            have c2x : V3.cell? ⟨w.heap.size, 0, none⟩ = some (.slice (some ⟨b1, o1, none⟩) l.at_.length cap) := by rw [(HL1.out.below BL.out).cell]; rfl
            clear c3x
            have c3x : V3.cell? ⟨b1, o1 + k, none⟩ = some (.int .i64 (A)) := cellB hc1 BL.out
            refine hK.out _ _ (fun _ => ⟨c0, c1x, c2x, c3x⟩) (fun _ => ?_)
            clear hK K
            try simp only [Act.put]
            refine wpAnyT_ready [21] (by kernel_rfl) (by simp) ?_
            refine AllReadyT.cons rfl (fun K hK => ?_) AllReadyT.nil
            refine Eq.mpr (if_pos ?_) ?_
            · rfl
            have hsz := BL.out.size
            have HNN := Lib.hid (cells_one (by rw [BN20.out.cell]; rfl) : ∀ jj uu, ([.int .i64 (t * A)] : List Value)[jj]? = some uu → V3.cell? (Addr.add ⟨V2.heap.size, 0, none⟩ jj) = some uu)
            refine wp_append_at _ _ _ 22 rfl w1x.heap.size 2 ii (.int .i64 0) 1 8 undI II.out J0.out J1.out J2.out rfl (by decide) _ _ _ rfl RZ.out ⟨V2.heap.size, 0, none⟩ 1 1 [.int .i64 (t * A)] rfl rfl HNN.out (by intro u hu; simp only [List.mem_cons, List.not_mem_nil, or_false] at hu; subst hu; rfl) (by unfold maxLen; omega) (by omega) (by omega) ?_
            intro v4 V4 own gr att
            replace X := Lib.hid (X.out.grown RZ.out (by decide) gr)
            replace Y := Lib.hid (Y.out.grown RZ.out (by decide) gr)
            replace Z := Lib.hid (Z.out.grown RZ.out (by decide) gr)
            have AORY := AP_RY_RZ
            replace AP_RY_RZ := apart_grown RY.out AP_RY_RZ att
            replace RX := Lib.hid (owns_grown RZ.out RX.out (by decide) gr)
            replace RY := Lib.hid (owns_apart RY.out AORY gr)
            replace BL := Lib.hid (below_owns RZ.out gr BL.out hsz)
            replace RZ := Lib.hid own
            clear own gr att HNN hsz BN20 AORY
            clear c0
            have c0 : V4.cell? ⟨BY, 0, none⟩ = some (.slice a5 n5 c5) := by rw [Y.out.cell]; rfl
            clear c1x
            have c1x : V4.cell? ⟨BZ, 0, none⟩ = some (.slice a6 n6 c6) := by rw [Z.out.cell]; rfl
            clear c2x
            have c2x : V4.cell? ⟨w.heap.size, 0, none⟩ = some (.slice (some ⟨b1, o1, none⟩) l.at_.length cap) := by rw [(HL1.out.below BL.out).cell]; rfl
            clear c3x
            have c3x : V4.cell? ⟨b1, o1 + k, none⟩ = some (.int .i64 (A)) := cellB hc1 BL.out
            refine hK.out _ _ (fun _ => ⟨c0, c1x, c2x, c3x⟩) (fun _ => ?_)
            clear hK K
            try simp only [Act.put]
            refine wpAnyT_chain (fuel := 3) rfl (by kernel_rfl) ?_
            simp only [List.drop_succ_cons, List.drop_zero]
            clear hS inv c0 c1x c2x c3x
            obtain ⟨a7, n7, c7, rfl⟩ := (Row.of_owns RY.out).slice
            obtain ⟨a8, n8, c8, rfl⟩ := (Row.of_owns RZ.out).slice
            have x0 := Y.out.cell 0
            have z0 := Y.out.frozen 0
            have xl := Y.out.lt
            have x1 := Z.out.cell 0
            have z1 := Z.out.frozen 0
            have xl1 := Z.out.lt
            simp at x0 x1
            have nyz := NE.out.2.2
            have nyz1 : (BY = BZ) = False := by simp; exact nyz
            have nyz2 : (BZ = BY) = False := by simp; exact fun h => nyz h.symm
            have Y1 := Y.out.set (j := 0) (.slice a7 n7 c7)
            have Z1 := Z.out.other nyz.symm (j := 0) (.slice a7 n7 c7)
            have UY := (Y.out.set (j := 0) (.slice a7 n7 c7)).other nyz (j := 0) (.slice a8 n8 c8)
            have UZ := Z1.set (j := 0) (.slice a8 n8 c8)
            simp only [List.setIfInBounds_toArray, List.set_cons_zero] at UY UZ
            replace RX := Lib.hid (owns_set (owns_set RX.out Y.out (by decide) 0 (.slice a7 n7 c7)) Z1 (by decide) 0 (.slice a8 n8 c8))
            replace RY := Lib.hid (owns_set (owns_set RY.out Y.out (by decide) 0 (.slice a7 n7 c7)) Z1 (by decide) 0 (.slice a8 n8 c8))
            replace RZ := Lib.hid (owns_set (owns_set RZ.out Y.out (by decide) 0 (.slice a7 n7 c7)) Z1 (by decide) 0 (.slice a8 n8 c8))
            replace X := Lib.hid ((X.out.other NE.out.1 (j := 0) (.slice a7 n7 c7)).other NE.out.2.1 (j := 0) (.slice a8 n8 c8))
            replace BL := Lib.hid ((BL.out.setCell (p := ⟨BY, 0, none⟩) SZ.out.2.1 (.slice a7 n7 c7)).setCell (p := ⟨BZ, 0, none⟩) SZ.out.2.2 (.slice a8 n8 c8))
            replace Y := Lib.hid UY
            replace Z := Lib.hid UZ
            clear UY UZ Y1 Z1 nyz
            go_wp2
            go_roundw
            case rel =>
              refine ⟨k + 1, .slice a4 n4 c4, .slice a7 n7 c7, .slice a8 n8 c8, by go_num, by omega, ?_, ?_, ?_, AP_RY_RZ, X.out, Y.out, Z.out, BL.out⟩
              · rw [upto_snoc, pairCells_snoc, HG.out]
                exact RX.out
              · rw [upto_snoc, List.map_append, HAA.out]
                exact RY.out
              · rw [upto_snoc, List.map_append, HAA.out]
                exact RZ.out
            case measure => first | (simp [intOf]; done) | (simp [intOf]; omega)
          refine AllReadyT.cons rfl (fun K hK => ?_) AllReadyT.nil
          go_simp
          have hbA := below1 V1 (.cells #[.int .i64 (t * A)] 2)
          have BN20 := Lib.hid (Blk.new V1 (.cells #[.int .i64 (t * A)] 2))
          have AN20RX := fun g (h : Value.ownBlock (.slice a4 n4 c4) = some g) (e : g = V1.heap.size) => show False by have := owns_block RX.out h; omega
          have AN20RY := fun g (h : Value.ownBlock (.slice a5 n5 c5) = some g) (e : g = V1.heap.size) => show False by have := owns_block RY.out h; omega
          have AN20RZ := fun g (h : Value.ownBlock (.slice a6 n6 c6) = some g) (e : g = V1.heap.size) => show False by have := owns_block RZ.out h; omega
          generalize V1.alloc (.cells #[.int .i64 (t * A)] 2) = V5 at *
          replace RX := Lib.hid (owns_below RX.out hbA)
          replace RY := Lib.hid (owns_below RY.out hbA)
          replace RZ := Lib.hid (owns_below RZ.out hbA)
          replace X := Lib.hid (X.out.below hbA)
          replace Y := Lib.hid (Y.out.below hbA)
          replace Z := Lib.hid (Z.out.below hbA)
          replace BN9 := Lib.hid (BN9.out.below hbA)
          replace BL := Lib.hid (bC BL.out hbA)
          clear hbA
          clear c0
          have c0 : V5.cell? ⟨BY, 0, none⟩ = some (.slice a5 n5 c5) := by rw [Y.out.cell]; rfl
          clear c1x
          have c1x : V5.cell? ⟨BZ, 0, none⟩ = some (.slice a6 n6 c6) := by rw [Z.out.cell]; rfl
          clear c2x
          have c2x : V5.cell? ⟨w.heap.size, 0, none⟩ = some (.slice (some ⟨b1, o1, none⟩) l.at_.length cap) := by rw [(HL1.out.below BL.out).cell]; rfl
          clear c3x
          have c3x : V5.cell? ⟨b1, o1 + k, none⟩ = some (.int .i64 (A)) := cellB hc1 BL.out
          refine hK.out _ _ (fun _ => ⟨c0, c1x, c2x, c3x⟩) (fun _ => ?_)
          clear hK K
          try simp only [Act.put]
          refine wpAnyT_ready [10] (by kernel_rfl) (by simp) ?_
          refine AllReadyT.cons rfl (fun K hK => ?_) AllReadyT.nil
          refine Eq.mpr (if_pos ?_) ?_
          · rfl
          have hsz := BL.out.size
          have HNN := Lib.hid (cells_one (by rw [BN9.out.cell]; rfl) : ∀ jj uu, ([.int .i64 (A + m)] : List Value)[jj]? = some uu → V5.cell? (Addr.add ⟨V0.heap.size, 0, none⟩ jj) = some uu)
          refine wp_append_at _ _ _ 22 rfl w1x.heap.size 2 ii (.int .i64 0) 1 8 undI II.out J0.out J1.out J2.out rfl (by decide) _ _ _ rfl RY.out ⟨V0.heap.size, 0, none⟩ 1 1 [.int .i64 (A + m)] rfl rfl HNN.out (by intro u hu; simp only [List.mem_cons, List.not_mem_nil, or_false] at hu; subst hu; rfl) (by unfold maxLen; omega) (by omega) (by omega) ?_
          intro v3 V6 own gr att
          replace X := Lib.hid (X.out.grown RY.out (by decide) gr)
          replace Y := Lib.hid (Y.out.grown RY.out (by decide) gr)
          replace Z := Lib.hid (Z.out.grown RY.out (by decide) gr)
          replace BN20 : Hid (Blk V6 (V1.heap.size) (.cells #[.int .i64 (t * A)] 2)) := Lib.hid ((gr.block _ BN20.out.lt (fun h => AN20RY _ h.symm rfl)).trans BN20.out)
          have AORZ := AP_RY_RZ.symm
          replace AP_RY_RZ := (apart_grown RZ.out AP_RY_RZ.symm att).symm
          replace RX := Lib.hid (owns_grown RY.out RX.out (by decide) gr)
          replace RZ := Lib.hid (owns_apart RZ.out AORZ gr)
          replace BL := Lib.hid (below_owns RY.out gr BL.out hsz)
          replace RY := Lib.hid own
          clear own gr att HNN hsz BN9 AORZ
          clear c0
          have c0 : V6.cell? ⟨BY, 0, none⟩ = some (.slice a5 n5 c5) := by rw [Y.out.cell]; rfl
          clear c1x
          have c1x : V6.cell? ⟨BZ, 0, none⟩ = some (.slice a6 n6 c6) := by rw [Z.out.cell]; rfl
          clear c2x
          have c2x : V6.cell? ⟨w.heap.size, 0, none⟩ = some (.slice (some ⟨b1, o1, none⟩) l.at_.length cap) := by rw [(HL1.out.below BL.out).cell]; rfl
          clear c3x
          have c3x : V6.cell? ⟨b1, o1 + k, none⟩ = some (.int .i64 (A)) := cellB hc1 BL.out
          refine hK.out _ _ (fun _ => ⟨c0, c1x, c2x, c3x⟩) (fun _ => ?_)
          clear hK K
          try simp only [Act.put]
          replace inv := HeadM.step inv 9 (by kernel_rfl) (by omega)
          replace inv := HeadM.step inv 20 (by kernel_rfl) (by omega)
          replace inv := HeadM.step inv 10 (by kernel_rfl) (by omega)
          clear hS
          have hS : V6.cell? ⟨BY, 0, none⟩ = some (.slice a5 n5 c5) ∧ V6.cell? ⟨BZ, 0, none⟩ = some (.slice a6 n6 c6) ∧ V6.cell? ⟨w.heap.size, 0, none⟩ = some (.slice (some ⟨b1, o1, none⟩) l.at_.length cap) ∧ V6.cell? ⟨b1, o1 + k, none⟩ = some (.int .i64 (A)) := ⟨c0, c1x, c2x, c3x⟩
          refine wpAnyT_take inv (by kernel_rfl) (by omega) (i := 22) (v := .pointer (some ⟨BY, 0, none⟩)) rfl (by kernel_rfl) (by kernel_rfl) (fun _ _ _ h => h) (Or.inl ⟨by kernel_rfl, ?_⟩) (by assumption) ?_
          · rintro W' ⟨s0, s1, s2, s3⟩
            go_simp
          intro inv2
          clear inv
          have inv := inv2
          clear inv2
          simp only [Act.put, List.setIfInBounds_toArray]
          refine wpAnyT_ready [21] (by kernel_rfl) (by simp) ?_
          refine AllReadyT.cons rfl (fun K hK => ?_) AllReadyT.nil
          refine Eq.mpr (if_pos ?_) ?_
          · rfl
          have hsz := BL.out.size
          have HNN := Lib.hid (cells_one (by rw [BN20.out.cell]; rfl) : ∀ jj uu, ([.int .i64 (t * A)] : List Value)[jj]? = some uu → V6.cell? (Addr.add ⟨V1.heap.size, 0, none⟩ jj) = some uu)
          refine wp_append_at _ _ _ 22 rfl w1x.heap.size 2 ii (.int .i64 0) 1 8 undI II.out J0.out J1.out J2.out rfl (by decide) _ _ _ rfl RZ.out ⟨V1.heap.size, 0, none⟩ 1 1 [.int .i64 (t * A)] rfl rfl HNN.out (by intro u hu; simp only [List.mem_cons, List.not_mem_nil, or_false] at hu; subst hu; rfl) (by unfold maxLen; omega) (by omega) (by omega) ?_
          intro v4 V7 own gr att
          replace X := Lib.hid (X.out.grown RZ.out (by decide) gr)
          replace Y := Lib.hid (Y.out.grown RZ.out (by decide) gr)
          replace Z := Lib.hid (Z.out.grown RZ.out (by decide) gr)
          have AORY := AP_RY_RZ
          replace AP_RY_RZ := apart_grown RY.out AP_RY_RZ att
          replace RX := Lib.hid (owns_grown RZ.out RX.out (by decide) gr)
          replace RY := Lib.hid (owns_apart RY.out AORY gr)
          replace BL := Lib.hid (below_owns RZ.out gr BL.out hsz)
          replace RZ := Lib.hid own
          clear own gr att HNN hsz BN20 AORY
          clear c0
          have c0 : V7.cell? ⟨BY, 0, none⟩ = some (.slice a5 n5 c5) := by rw [Y.out.cell]; rfl
          clear c1x
          have c1x : V7.cell? ⟨BZ, 0, none⟩ = some (.slice a6 n6 c6) := by rw [Z.out.cell]; rfl
          clear c2x
          have c2x : V7.cell? ⟨w.heap.size, 0, none⟩ = some (.slice (some ⟨b1, o1, none⟩) l.at_.length cap) := by rw [(HL1.out.below BL.out).cell]; rfl
          clear c3x
          have c3x : V7.cell? ⟨b1, o1 + k, none⟩ = some (.int .i64 (A)) := cellB hc1 BL.out
          refine hK.out _ _ (fun _ => ⟨c0, c1x, c2x, c3x⟩) (fun _ => ?_)
          clear hK K
          try simp only [Act.put]
          refine wpAnyT_chain (fuel := 3) rfl (by kernel_rfl) ?_
          simp only [List.drop_succ_cons, List.drop_zero]
          clear hS inv c0 c1x c2x c3x
          obtain ⟨a7, n7, c7, rfl⟩ := (Row.of_owns RY.out).slice
          obtain ⟨a8, n8, c8, rfl⟩ := (Row.of_owns RZ.out).slice
          have x0 := Y.out.cell 0
          have z0 := Y.out.frozen 0
          have xl := Y.out.lt
          have x1 := Z.out.cell 0
          have z1 := Z.out.frozen 0
          have xl1 := Z.out.lt
          simp at x0 x1
          have nyz := NE.out.2.2
          have nyz1 : (BY = BZ) = False := by simp; exact nyz
          have nyz2 : (BZ = BY) = False := by simp; exact fun h => nyz h.symm
          have Y1 := Y.out.set (j := 0) (.slice a7 n7 c7)
          have Z1 := Z.out.other nyz.symm (j := 0) (.slice a7 n7 c7)
          have UY := (Y.out.set (j := 0) (.slice a7 n7 c7)).other nyz (j := 0) (.slice a8 n8 c8)
          have UZ := Z1.set (j := 0) (.slice a8 n8 c8)
          simp only [List.setIfInBounds_toArray, List.set_cons_zero] at UY UZ
          replace RX := Lib.hid (owns_set (owns_set RX.out Y.out (by decide) 0 (.slice a7 n7 c7)) Z1 (by decide) 0 (.slice a8 n8 c8))
          replace RY := Lib.hid (owns_set (owns_set RY.out Y.out (by decide) 0 (.slice a7 n7 c7)) Z1 (by decide) 0 (.slice a8 n8 c8))
          replace RZ := Lib.hid (owns_set (owns_set RZ.out Y.out (by decide) 0 (.slice a7 n7 c7)) Z1 (by decide) 0 (.slice a8 n8 c8))
          replace X := Lib.hid ((X.out.other NE.out.1 (j := 0) (.slice a7 n7 c7)).other NE.out.2.1 (j := 0) (.slice a8 n8 c8))
          replace BL := Lib.hid ((BL.out.setCell (p := ⟨BY, 0, none⟩) SZ.out.2.1 (.slice a7 n7 c7)).setCell (p := ⟨BZ, 0, none⟩) SZ.out.2.2 (.slice a8 n8 c8))
          replace Y := Lib.hid UY
          replace Z := Lib.hid UZ
          clear UY UZ Y1 Z1 nyz
          go_wp2
          go_roundw
          case rel =>
            refine ⟨k + 1, .slice a4 n4 c4, .slice a7 n7 c7, .slice a8 n8 c8, by go_num, by omega, ?_, ?_, ?_, AP_RY_RZ, X.out, Y.out, Z.out, BL.out⟩
            · rw [upto_snoc, pairCells_snoc, HG.out]
              exact RX.out
            · rw [upto_snoc, List.map_append, HAA.out]
              exact RY.out
            · rw [upto_snoc, List.map_append, HAA.out]
              exact RZ.out
          case measure => first | (simp [intOf]; done) | (simp [intOf]; omega)
        refine AllReadyT.cons rfl (fun K hK => ?_) AllReadyT.nil
        go_simp
        have hbA := below1 V0 (.cells #[.int .i64 (t * A)] 2)
        have BN20 := Lib.hid (Blk.new V0 (.cells #[.int .i64 (t * A)] 2))
        have AN20RX := fun g (h : Value.ownBlock (.slice a4 n4 c4) = some g) (e : g = V0.heap.size) => show False by have := owns_block RX.out h; omega
        have AN20RY := fun g (h : Value.ownBlock (.slice a5 n5 c5) = some g) (e : g = V0.heap.size) => show False by have := owns_block RY.out h; omega
        have AN20RZ := fun g (h : Value.ownBlock (.slice a6 n6 c6) = some g) (e : g = V0.heap.size) => show False by have := owns_block RZ.out h; omega
        generalize V0.alloc (.cells #[.int .i64 (t * A)] 2) = V8 at *
        replace RX := Lib.hid (owns_below RX.out hbA)
        replace RY := Lib.hid (owns_below RY.out hbA)
        replace RZ := Lib.hid (owns_below RZ.out hbA)
        replace X := Lib.hid (X.out.below hbA)
        replace Y := Lib.hid (Y.out.below hbA)
        replace Z := Lib.hid (Z.out.below hbA)
        replace BL := Lib.hid (bC BL.out hbA)
        clear hbA
        clear c0
        have c0 : V8.cell? ⟨BY, 0, none⟩ = some (.slice a5 n5 c5) := by rw [Y.out.cell]; rfl
        clear c1x
        have c1x : V8.cell? ⟨BZ, 0, none⟩ = some (.slice a6 n6 c6) := by rw [Z.out.cell]; rfl
        clear c2x
        have c2x : V8.cell? ⟨w.heap.size, 0, none⟩ = some (.slice (some ⟨b1, o1, none⟩) l.at_.length cap) := by rw [(HL1.out.below BL.out).cell]; rfl
        clear c3x
        have c3x : V8.cell? ⟨b1, o1 + k, none⟩ = some (.int .i64 (A)) := cellB hc1 BL.out
        refine hK.out _ _ (fun _ => ⟨c0, c1x, c2x, c3x⟩) (fun _ => ?_)
        clear hK K
        try simp only [Act.put]
        refine wpAnyT_ready [9] (by kernel_rfl) (by simp) ?_
        refine AllReadyT.cons rfl (fun K hK => ?_) AllReadyT.nil
        go_simp
        have hbA := below1 V8 (.cells #[.int .i64 (A + m)] 2)
        have BN9 := Lib.hid (Blk.new V8 (.cells #[.int .i64 (A + m)] 2))
        have AN9RX := fun g (h : Value.ownBlock (.slice a4 n4 c4) = some g) (e : g = V8.heap.size) => show False by have := owns_block RX.out h; omega
        have AN9RY := fun g (h : Value.ownBlock (.slice a5 n5 c5) = some g) (e : g = V8.heap.size) => show False by have := owns_block RY.out h; omega
        have AN9RZ := fun g (h : Value.ownBlock (.slice a6 n6 c6) = some g) (e : g = V8.heap.size) => show False by have := owns_block RZ.out h; omega
        generalize V8.alloc (.cells #[.int .i64 (A + m)] 2) = V9 at *
        replace RX := Lib.hid (owns_below RX.out hbA)
        replace RY := Lib.hid (owns_below RY.out hbA)
        replace RZ := Lib.hid (owns_below RZ.out hbA)
        replace X := Lib.hid (X.out.below hbA)
        replace Y := Lib.hid (Y.out.below hbA)
        replace Z := Lib.hid (Z.out.below hbA)
        replace BN20 := Lib.hid (BN20.out.below hbA)
        replace BL := Lib.hid (bC BL.out hbA)
        clear hbA
        clear c0
        have c0 : V9.cell? ⟨BY, 0, none⟩ = some (.slice a5 n5 c5) := by rw [Y.out.cell]; rfl
        clear c1x
        have c1x : V9.cell? ⟨BZ, 0, none⟩ = some (.slice a6 n6 c6) := by rw [Z.out.cell]; rfl
        clear c2x
        have c2x : V9.cell? ⟨w.heap.size, 0, none⟩ = some (.slice (some ⟨b1, o1, none⟩) l.at_.length cap) := by rw [(HL1.out.below BL.out).cell]; rfl
        clear c3x
        have c3x : V9.cell? ⟨b1, o1 + k, none⟩ = some (.int .i64 (A)) := cellB hc1 BL.out
        refine hK.out _ _ (fun _ => ⟨c0, c1x, c2x, c3x⟩) (fun _ => ?_)
        clear hK K
        try simp only [Act.put]
        refine wpAnyT_ready [10] (by kernel_rfl) (by simp) ?_
        refine AllReadyT.cons rfl (fun K hK => ?_) AllReadyT.nil
        refine Eq.mpr (if_pos ?_) ?_
        · rfl
        have hsz := BL.out.size
        have HNN := Lib.hid (cells_one (by rw [BN9.out.cell]; rfl) : ∀ jj uu, ([.int .i64 (A + m)] : List Value)[jj]? = some uu → V9.cell? (Addr.add ⟨V8.heap.size, 0, none⟩ jj) = some uu)
        refine wp_append_at _ _ _ 22 rfl w1x.heap.size 2 ii (.int .i64 0) 1 8 undI II.out J0.out J1.out J2.out rfl (by decide) _ _ _ rfl RY.out ⟨V8.heap.size, 0, none⟩ 1 1 [.int .i64 (A + m)] rfl rfl HNN.out (by intro u hu; simp only [List.mem_cons, List.not_mem_nil, or_false] at hu; subst hu; rfl) (by unfold maxLen; omega) (by omega) (by omega) ?_
        intro v3 V10 own gr att
        replace X := Lib.hid (X.out.grown RY.out (by decide) gr)
        replace Y := Lib.hid (Y.out.grown RY.out (by decide) gr)
        replace Z := Lib.hid (Z.out.grown RY.out (by decide) gr)
        replace BN20 : Hid (Blk V10 (V0.heap.size) (.cells #[.int .i64 (t * A)] 2)) := Lib.hid ((gr.block _ BN20.out.lt (fun h => AN20RY _ h.symm rfl)).trans BN20.out)
        have AORZ := AP_RY_RZ.symm
        replace AP_RY_RZ := (apart_grown RZ.out AP_RY_RZ.symm att).symm
        replace RX := Lib.hid (owns_grown RY.out RX.out (by decide) gr)
        replace RZ := Lib.hid (owns_apart RZ.out AORZ gr)
        replace BL := Lib.hid (below_owns RY.out gr BL.out hsz)
        replace RY := Lib.hid own
        clear own gr att HNN hsz BN9 AORZ
        clear c0
        have c0 : V10.cell? ⟨BY, 0, none⟩ = some (.slice a5 n5 c5) := by rw [Y.out.cell]; rfl
        clear c1x
        have c1x : V10.cell? ⟨BZ, 0, none⟩ = some (.slice a6 n6 c6) := by rw [Z.out.cell]; rfl
        clear c2x
        have c2x : V10.cell? ⟨w.heap.size, 0, none⟩ = some (.slice (some ⟨b1, o1, none⟩) l.at_.length cap) := by rw [(HL1.out.below BL.out).cell]; rfl
        clear c3x
        have c3x : V10.cell? ⟨b1, o1 + k, none⟩ = some (.int .i64 (A)) := cellB hc1 BL.out
        refine hK.out _ _ (fun _ => ⟨c0, c1x, c2x, c3x⟩) (fun _ => ?_)
        clear hK K
        try simp only [Act.put]
        replace inv := HeadM.step inv 20 (by kernel_rfl) (by omega)
        replace inv := HeadM.step inv 9 (by kernel_rfl) (by omega)
        replace inv := HeadM.step inv 10 (by kernel_rfl) (by omega)
        clear hS
        have hS : V10.cell? ⟨BY, 0, none⟩ = some (.slice a5 n5 c5) ∧ V10.cell? ⟨BZ, 0, none⟩ = some (.slice a6 n6 c6) ∧ V10.cell? ⟨w.heap.size, 0, none⟩ = some (.slice (some ⟨b1, o1, none⟩) l.at_.length cap) ∧ V10.cell? ⟨b1, o1 + k, none⟩ = some (.int .i64 (A)) := ⟨c0, c1x, c2x, c3x⟩
        refine wpAnyT_take inv (by kernel_rfl) (by omega) (i := 22) (v := .pointer (some ⟨BY, 0, none⟩)) rfl (by kernel_rfl) (by kernel_rfl) (fun _ _ _ h => h) (Or.inl ⟨by kernel_rfl, ?_⟩) (by assumption) ?_
        · rintro W' ⟨s0, s1, s2, s3⟩
          go_simp
        intro inv2
        clear inv
        have inv := inv2
        clear inv2
        simp only [Act.put, List.setIfInBounds_toArray]
        refine wpAnyT_ready [21] (by kernel_rfl) (by simp) ?_
        refine AllReadyT.cons rfl (fun K hK => ?_) AllReadyT.nil
        refine Eq.mpr (if_pos ?_) ?_
        · rfl
        have hsz := BL.out.size
        have HNN := Lib.hid (cells_one (by rw [BN20.out.cell]; rfl) : ∀ jj uu, ([.int .i64 (t * A)] : List Value)[jj]? = some uu → V10.cell? (Addr.add ⟨V0.heap.size, 0, none⟩ jj) = some uu)
        refine wp_append_at _ _ _ 22 rfl w1x.heap.size 2 ii (.int .i64 0) 1 8 undI II.out J0.out J1.out J2.out rfl (by decide) _ _ _ rfl RZ.out ⟨V0.heap.size, 0, none⟩ 1 1 [.int .i64 (t * A)] rfl rfl HNN.out (by intro u hu; simp only [List.mem_cons, List.not_mem_nil, or_false] at hu; subst hu; rfl) (by unfold maxLen; omega) (by omega) (by omega) ?_
        intro v4 V11 own gr att
        replace X := Lib.hid (X.out.grown RZ.out (by decide) gr)
        replace Y := Lib.hid (Y.out.grown RZ.out (by decide) gr)
        replace Z := Lib.hid (Z.out.grown RZ.out (by decide) gr)
        have AORY := AP_RY_RZ
        replace AP_RY_RZ := apart_grown RY.out AP_RY_RZ att
        replace RX := Lib.hid (owns_grown RZ.out RX.out (by decide) gr)
        replace RY := Lib.hid (owns_apart RY.out AORY gr)
        replace BL := Lib.hid (below_owns RZ.out gr BL.out hsz)
        replace RZ := Lib.hid own
        clear own gr att HNN hsz BN20 AORY
        clear c0
        have c0 : V11.cell? ⟨BY, 0, none⟩ = some (.slice a5 n5 c5) := by rw [Y.out.cell]; rfl
        clear c1x
        have c1x : V11.cell? ⟨BZ, 0, none⟩ = some (.slice a6 n6 c6) := by rw [Z.out.cell]; rfl
        clear c2x
        have c2x : V11.cell? ⟨w.heap.size, 0, none⟩ = some (.slice (some ⟨b1, o1, none⟩) l.at_.length cap) := by rw [(HL1.out.below BL.out).cell]; rfl
        clear c3x
        have c3x : V11.cell? ⟨b1, o1 + k, none⟩ = some (.int .i64 (A)) := cellB hc1 BL.out
        refine hK.out _ _ (fun _ => ⟨c0, c1x, c2x, c3x⟩) (fun _ => ?_)
        clear hK K
        try simp only [Act.put]
        refine wpAnyT_chain (fuel := 3) rfl (by kernel_rfl) ?_
        simp only [List.drop_succ_cons, List.drop_zero]
        clear hS inv c0 c1x c2x c3x
        obtain ⟨a7, n7, c7, rfl⟩ := (Row.of_owns RY.out).slice
        obtain ⟨a8, n8, c8, rfl⟩ := (Row.of_owns RZ.out).slice
        have x0 := Y.out.cell 0
        have z0 := Y.out.frozen 0
        have xl := Y.out.lt
        have x1 := Z.out.cell 0
        have z1 := Z.out.frozen 0
        have xl1 := Z.out.lt
        simp at x0 x1
        have nyz := NE.out.2.2
        have nyz1 : (BY = BZ) = False := by simp; exact nyz
        have nyz2 : (BZ = BY) = False := by simp; exact fun h => nyz h.symm
        have Y1 := Y.out.set (j := 0) (.slice a7 n7 c7)
        have Z1 := Z.out.other nyz.symm (j := 0) (.slice a7 n7 c7)
        have UY := (Y.out.set (j := 0) (.slice a7 n7 c7)).other nyz (j := 0) (.slice a8 n8 c8)
        have UZ := Z1.set (j := 0) (.slice a8 n8 c8)
        simp only [List.setIfInBounds_toArray, List.set_cons_zero] at UY UZ
        replace RX := Lib.hid (owns_set (owns_set RX.out Y.out (by decide) 0 (.slice a7 n7 c7)) Z1 (by decide) 0 (.slice a8 n8 c8))
        replace RY := Lib.hid (owns_set (owns_set RY.out Y.out (by decide) 0 (.slice a7 n7 c7)) Z1 (by decide) 0 (.slice a8 n8 c8))
        replace RZ := Lib.hid (owns_set (owns_set RZ.out Y.out (by decide) 0 (.slice a7 n7 c7)) Z1 (by decide) 0 (.slice a8 n8 c8))
        replace X := Lib.hid ((X.out.other NE.out.1 (j := 0) (.slice a7 n7 c7)).other NE.out.2.1 (j := 0) (.slice a8 n8 c8))
        replace BL := Lib.hid ((BL.out.setCell (p := ⟨BY, 0, none⟩) SZ.out.2.1 (.slice a7 n7 c7)).setCell (p := ⟨BZ, 0, none⟩) SZ.out.2.2 (.slice a8 n8 c8))
        replace Y := Lib.hid UY
        replace Z := Lib.hid UZ
        clear UY UZ Y1 Z1 nyz
        go_wp2
        go_roundw
        case rel =>
          refine ⟨k + 1, .slice a4 n4 c4, .slice a7 n7 c7, .slice a8 n8 c8, by go_num, by omega, ?_, ?_, ?_, AP_RY_RZ, X.out, Y.out, Z.out, BL.out⟩
          · rw [upto_snoc, pairCells_snoc, HG.out]
            exact RX.out
          · rw [upto_snoc, List.map_append, HAA.out]
            exact RY.out
          · rw [upto_snoc, List.map_append, HAA.out]
            exact RZ.out
        case measure => first | (simp [intOf]; done) | (simp [intOf]; omega)
      · obtain rfl : k = l.at_.length := by omega
        have HVX : Hid (LogAt wr (.agg #[.slice a l.at_.length cap, .slice a2 n2 c2]) (timD l t)) := Lib.hid ⟨_, _, rfl, (HI.out.below HB1.out).below BL.out, by
            have := Row.pairs (l := upto (timG l t) l.at_.length) (by rw [upto_len]; exact Row.of_owns RX.out)
            exact this⟩
        have HVY : Hid (LogAt wr (.agg #[.slice a5 n5 c5, .slice a' l.edges.length cap']) (farD l m)) := Lib.hid ⟨_, _, rfl, by
            have := Row.ints (l := upto (fun k => atD l k + m) l.at_.length) (by rw [upto_len]; exact Row.of_owns RY.out)
            exact this, (HP.out.below HB1.out).below BL.out⟩
        have HVZ : Hid (LogAt wr (.agg #[.slice a6 n6 c6, .slice a' l.edges.length cap']) (mulD l t)) := Lib.hid ⟨_, _, rfl, by
            have := Row.ints (l := upto (fun k => t * atD l k) l.at_.length) (by rw [upto_len]; exact Row.of_owns RZ.out)
            exact this, (HP.out.below HB1.out).below BL.out⟩
        have HV0 := Lib.hid ((HV.out.below HB1.out).below BL.out)
        have HNW := Lib.hid ((HN.out.below HB1.out).below BL.out)
        have HW := Lib.hid (bC HB1.out BL.out)
        have HX0 := X
        have HY0 := Y
        have HZ0 := Z
        have HB0 := Lib.hid (Below.refl wr.heap.size wr)
        have htt : decide ((l.at_.length : Int) < (l.at_.length : Int)) = false := by simp
        clear X Y Z RX RY RZ BL HL1 HB1 AP_RY_RZ
        have hf := HFIT.out
        have h0 := HE0.out
        obtain ⟨⟨bt1, bt2⟩, bm1, bm2⟩ := BT.out
        obtain ⟨n, hn⟩ : ∃ n, (bestV l).num = n := ⟨_, rfl⟩
        obtain ⟨d, hd⟩ : ∃ d, ((bestV l).den : Int) = d := ⟨_, rfl⟩
        have sv := small_best hf
        have bd1 : 1 ≤ d ∧ d ≤ 200 := by have := (bestV l).den_pos; have := sv.den; omega
        have bn1 : -600000 ≤ n ∧ n ≤ 600000 := by obtain ⟨z1, z2, z3⟩ := sv; omega
        have p1 := mul_bd n t 600000 4 (by omega) (by omega) (by omega) (by omega) (by decide)
        rw [Int.mul_comm n t] at p1
        have x1 : IntKind.i64.wrap (t * n) = t * n := IntWalk.i64_in _ (by omega)
        have es : mkRat (t * n) d.toNat = (t : Rat) * bestV l := by rw [← hn, ← hd]; exact mkRat_times t (bestV l)
        obtain ⟨sn, hsn⟩ : ∃ sn, ((t : Rat) * bestV l).num = sn := ⟨_, rfl⟩
        obtain ⟨sd, hsd⟩ : ∃ sd, (((t : Rat) * bestV l).den : Int) = sd := ⟨_, rfl⟩
        have HBG : Hid (∀ W, NoneAt W → LogAt W (.agg #[.slice a l.at_.length cap, .slice a' l.edges.length cap']) l → Calls Tryd.prog 42 #[(.agg #[.slice a l.at_.length cap, .slice a' l.edges.length cap'])] W (Gets (.tuple #[.agg #[.int .i64 n, .int .i64 d], .bool true]) W)) := Lib.hid (fun W hN h => by have := best_good _ l W hN h h0; rw [qv, hn, hd] at this; exact this)
        have HBS : Hid (∀ W, Calls Tryd.prog 51 #[.int .i64 (t * n), .int .i64 d] W (Gets (.agg #[.int .i64 sn, .int .i64 sd]) W)) := Lib.hid (fun W => by have := rby_any (t * n) d W (by omega) (by omega) (by omega) (by omega); rw [es, qv, hsn, hsd] at this; exact this)
        have HBX : Hid (logErr (timD l t) = 0 → ∀ W, NoneAt W → LogAt W (.agg #[.slice a l.at_.length cap, .slice a2 n2 c2]) (timD l t) → Calls Tryd.prog 42 #[(.agg #[.slice a l.at_.length cap, .slice a2 n2 c2])] W (Gets (.tuple #[.agg #[.int .i64 sn, .int .i64 sd], .bool true]) W)) := Lib.hid (fun h1 W hN h => by have := best_good _ _ W hN h h1; rw [tim_best (by omega) hf (logErr_fit' h1), qv, hsn, hsd] at this; exact this)
        have HBYY : Hid (logErr (farD l m) = 0 → ∀ W, NoneAt W → LogAt W (.agg #[.slice a5 n5 c5, .slice a' l.edges.length cap']) (farD l m) → Calls Tryd.prog 42 #[(.agg #[.slice a5 n5 c5, .slice a' l.edges.length cap'])] W (Gets (.tuple #[.agg #[.int .i64 n, .int .i64 d], .bool true]) W)) := Lib.hid (fun h1 W hN h => by have := best_good _ _ W hN h h1; rw [← far_best hf (logErr_fit' h1), qv, hn, hd] at this; exact this)
        have HBZZ : Hid (logErr (mulD l t) = 0 → ∀ W, NoneAt W → LogAt W (.agg #[.slice a6 n6 c6, .slice a' l.edges.length cap']) (mulD l t) → Calls Tryd.prog 42 #[(.agg #[.slice a6 n6 c6, .slice a' l.edges.length cap'])] W (Gets (.tuple #[.agg #[.int .i64 n, .int .i64 d], .bool true]) W)) := Lib.hid (fun h1 W hN h => by have := best_good _ _ W hN h h1; rw [← mul_best (by omega) hf (logErr_fit' h1), qv, hn, hd] at this; exact this)
        have hq1 := fun w => pair_eq n d w
        have hq2 := fun w => pair_eq sn sd w
        clear hf h0 sv bt1 bt2 bm1 bm2 hn hd bd1 bn1 p1 es hsn hsd
        go_wp2_with fail
        clear m0 m1 ml
        refine (HBG.out _ (HNW.out.below HB0.out) (HV0.out.below HB0.out)).mono ?_
        rintro e v1x ⟨rfl, hb⟩
        have HB1 := Lib.hid (bC HB0.out hb)
        have HX1 := Lib.hid (HX0.out.below hb)
        have HY1 := Lib.hid (HY0.out.below hb)
        have HZ1 := Lib.hid (HZ0.out.below hb)
        clear hb HB0 HX0 HY0 HZ0
        have Xc0 := HX1.out.cell 0
        have Xc1 := HX1.out.cell 1
        simp at Xc0 Xc1
        have Xl := HX1.out.lt
        go_wp2_with fail
        clear Xc0 Xc1 Xl
        have hP := Blk.new v1x (.cells #[.int .i64 n, .int .i64 d] 31)
        have hA := below1 v1x (.cells #[.int .i64 n, .int .i64 d] 31)
        generalize v1x.alloc (.cells #[.int .i64 n, .int .i64 d] 31) = W1x at *
        have HP2 := Lib.hid hP
        clear hP
        have HB2 := Lib.hid (bC HB1.out hA)
        have HX2 := Lib.hid (HX1.out.below hA)
        have HY2 := Lib.hid (HY1.out.below hA)
        have HZ2 := Lib.hid (HZ1.out.below hA)
        clear hA HB1 HX1 HY1 HZ1
        by_cases hx : logErr (timD l t) = 0
        · have HF1 : Hid (∀ W, LogAt W (.agg #[.slice a l.at_.length cap, .slice a2 n2 c2]) (timD l t) → Calls Tryd.prog 41 #[(.agg #[.slice a l.at_.length cap, .slice a2 n2 c2])] W (Gets (.bool true) W)) := Lib.hid (fun W h => by have := fine_any _ _ W h; rw [decide_eq_true hx] at this; exact this)
          refine (HF1.out _ (HVX.out.below HB2.out)).mono ?_
          rintro e v3x ⟨rfl, hb⟩
          have HB3 := Lib.hid (bC HB2.out hb)
          have HX3 := Lib.hid (HX2.out.below hb)
          have HY3 := Lib.hid (HY2.out.below hb)
          have HZ3 := Lib.hid (HZ2.out.below hb)
          have HP3 := Lib.hid (HP2.out.below hb)
          clear hb HB2 HX2 HY2 HZ2 HP2
          have Xc0 := HX3.out.cell 0
          have Xc1 := HX3.out.cell 1
          simp at Xc0 Xc1
          have Xl := HX3.out.lt
          go_wp2_with fail
          clear Xc0 Xc1 Xl
          refine (HBX.out hx _ (HNW.out.below HB3.out) (HVX.out.below HB3.out)).mono ?_
          rintro e v4x ⟨rfl, hb⟩
          have HB4 := Lib.hid (bC HB3.out hb)
          have HX4 := Lib.hid (HX3.out.below hb)
          have HY4 := Lib.hid (HY3.out.below hb)
          have HZ4 := Lib.hid (HZ3.out.below hb)
          have HP4 := Lib.hid (HP3.out.below hb)
          clear hb HB3 HX3 HY3 HZ3 HP3
          go_wp2_with fail
          have hQ := Blk.new v4x (.cells #[.int .i64 sn, .int .i64 sd] 31)
          have hA := below1 v4x (.cells #[.int .i64 sn, .int .i64 sd] 31)
          generalize v4x.alloc (.cells #[.int .i64 sn, .int .i64 sd] 31) = W4x at *
          have HQ5 := Lib.hid hQ
          clear hQ
          have HB5 := Lib.hid (bC HB4.out hA)
          have HX5 := Lib.hid (HX4.out.below hA)
          have HY5 := Lib.hid (HY4.out.below hA)
          have HZ5 := Lib.hid (HZ4.out.below hA)
          have HP5 := Lib.hid (HP4.out.below hA)
          clear hA HB4 HX4 HY4 HZ4 HP4
          have e0 := HP5.out.cell 0
          have e1 := HP5.out.cell 1
          have e2 := HQ5.out.cell 0
          have e3 := HQ5.out.cell 1
          simp at e0 e1 e2 e3
          have g0 := fun d os => cell_regrown e0 d os
          have g1 := fun d os => cell_regrown e1 d os
          have g2 := fun d os => cell_regrown e2 d os
          have g3 := fun d os => cell_regrown e3 d os
          have hkB := fun (dr : Nat) (os : Array Obj) => Calls.regrown_of (HBS.out (grow (redrawn W4x dr) os))
          clear e0 e1 e2 e3
          refine wp_region_quiet_below (by kernel_rfl) (by kernel_rfl) ?_
          repeat (quiet_step ((go_at_call 51; (with_reducible exact hkB _ _))))
          refine wpQuiet_nil ?_
          intro _ hw'
          obtain ⟨⟨dq, osq⟩, hw''⟩ := hw'
          subst hw''
          have hb := below_regrown W4x dq osq
          clear g0 g1 g2 g3 hkB
          generalize grow (redrawn W4x dq) osq = vq at *
          have HB6 := Lib.hid (bC HB5.out hb)
          have HX6 := Lib.hid (HX5.out.below hb)
          have HY6 := Lib.hid (HY5.out.below hb)
          have HZ6 := Lib.hid (HZ5.out.below hb)
          have HP6 := Lib.hid (HP5.out.below hb)
          have HQ6 := Lib.hid (HQ5.out.below hb)
          clear hb HB5 HX5 HY5 HZ5 HP5 HQ5
          have Yc0 := HY6.out.cell 0
          have Yc1 := HY6.out.cell 1
          simp at Yc0 Yc1
          have Yl := HY6.out.lt
          go_wp2_with fail
          clear Yc0 Yc1 Yl
          by_cases hy : logErr (farD l m) = 0
          · have HF2 : Hid (∀ W, LogAt W (.agg #[.slice a5 n5 c5, .slice a' l.edges.length cap']) (farD l m) → Calls Tryd.prog 41 #[(.agg #[.slice a5 n5 c5, .slice a' l.edges.length cap'])] W (Gets (.bool true) W)) := Lib.hid (fun W h => by have := fine_any _ _ W h; rw [decide_eq_true hy] at this; exact this)
            refine (HF2.out _ (HVY.out.below HB6.out)).mono ?_
            rintro e v7x ⟨rfl, hb⟩
            have HB7 := Lib.hid (bC HB6.out hb)
            have HX7 := Lib.hid (HX6.out.below hb)
            have HY7 := Lib.hid (HY6.out.below hb)
            have HZ7 := Lib.hid (HZ6.out.below hb)
            have HP7 := Lib.hid (HP6.out.below hb)
            have HQ7 := Lib.hid (HQ6.out.below hb)
            clear hb HB6 HX6 HY6 HZ6 HP6 HQ6
            have Yc0 := HY7.out.cell 0
            have Yc1 := HY7.out.cell 1
            simp at Yc0 Yc1
            have Yl := HY7.out.lt
            go_wp2_with fail
            clear Yc0 Yc1 Yl
            refine (HBYY.out hy _ (HNW.out.below HB7.out) (HVY.out.below HB7.out)).mono ?_
            rintro e v8x ⟨rfl, hb⟩
            have HB8 := Lib.hid (bC HB7.out hb)
            have HX8 := Lib.hid (HX7.out.below hb)
            have HY8 := Lib.hid (HY7.out.below hb)
            have HZ8 := Lib.hid (HZ7.out.below hb)
            have HP8 := Lib.hid (HP7.out.below hb)
            have HQ8 := Lib.hid (HQ7.out.below hb)
            clear hb HB7 HX7 HY7 HZ7 HP7 HQ7
            have Pc0 := HP8.out.cell 0
            have Pc1 := HP8.out.cell 1
            have Zc0 := HZ8.out.cell 0
            have Zc1 := HZ8.out.cell 1
            simp at Pc0 Pc1 Zc0 Zc1
            have Pl := HP8.out.lt
            have Zl := HZ8.out.lt
            go_wp2_with fail
            clear Pc0 Pc1 Zc0 Zc1 Pl Zl
            have hU := Blk.new v8x (.cells #[.int .i64 n, .int .i64 d] 31)
            have hA := below1 v8x (.cells #[.int .i64 n, .int .i64 d] 31)
            generalize v8x.alloc (.cells #[.int .i64 n, .int .i64 d] 31) = W8x at *
            have HU9 := Lib.hid hU
            clear hU
            have HB9 := Lib.hid (bC HB8.out hA)
            have HX9 := Lib.hid (HX8.out.below hA)
            have HY9 := Lib.hid (HY8.out.below hA)
            have HZ9 := Lib.hid (HZ8.out.below hA)
            have HP9 := Lib.hid (HP8.out.below hA)
            have HQ9 := Lib.hid (HQ8.out.below hA)
            clear hA HB8 HX8 HY8 HZ8 HP8 HQ8
            by_cases hz : logErr (mulD l t) = 0
            · have HF3 : Hid (∀ W, LogAt W (.agg #[.slice a6 n6 c6, .slice a' l.edges.length cap']) (mulD l t) → Calls Tryd.prog 41 #[(.agg #[.slice a6 n6 c6, .slice a' l.edges.length cap'])] W (Gets (.bool true) W)) := Lib.hid (fun W h => by have := fine_any _ _ W h; rw [decide_eq_true hz] at this; exact this)
              refine (HF3.out _ (HVZ.out.below HB9.out)).mono ?_
              rintro e v10x ⟨rfl, hb⟩
              have HB10 := Lib.hid (bC HB9.out hb)
              have HX10 := Lib.hid (HX9.out.below hb)
              have HY10 := Lib.hid (HY9.out.below hb)
              have HZ10 := Lib.hid (HZ9.out.below hb)
              have HP10 := Lib.hid (HP9.out.below hb)
              have HQ10 := Lib.hid (HQ9.out.below hb)
              have HU10 := Lib.hid (HU9.out.below hb)
              clear hb HB9 HX9 HY9 HZ9 HP9 HQ9 HU9
              have Zc0 := HZ10.out.cell 0
              have Zc1 := HZ10.out.cell 1
              simp at Zc0 Zc1
              have Zl := HZ10.out.lt
              go_wp2_with fail
              clear Zc0 Zc1 Zl
              refine (HBZZ.out hz _ (HNW.out.below HB10.out) (HVZ.out.below HB10.out)).mono ?_
              rintro e v11x ⟨rfl, hb⟩
              have HB11 := Lib.hid (bC HB10.out hb)
              have HX11 := Lib.hid (HX10.out.below hb)
              have HY11 := Lib.hid (HY10.out.below hb)
              have HZ11 := Lib.hid (HZ10.out.below hb)
              have HP11 := Lib.hid (HP10.out.below hb)
              have HQ11 := Lib.hid (HQ10.out.below hb)
              have HU11 := Lib.hid (HU10.out.below hb)
              clear hb HB10 HX10 HY10 HZ10 HP10 HQ10 HU10
              have Pc0 := HP11.out.cell 0
              have Pc1 := HP11.out.cell 1
              simp at Pc0 Pc1
              have Pl := HP11.out.lt
              go_wp2_with fail
              clear Pc0 Pc1 Pl
              have hT := Blk.new v11x (.cells #[.int .i64 n, .int .i64 d] 31)
              have hA := below1 v11x (.cells #[.int .i64 n, .int .i64 d] 31)
              generalize v11x.alloc (.cells #[.int .i64 n, .int .i64 d] 31) = W11x at *
              have HT12 := Lib.hid hT
              clear hT
              have HB12 := Lib.hid (bC HB11.out hA)
              have HX12 := Lib.hid (HX11.out.below hA)
              have HY12 := Lib.hid (HY11.out.below hA)
              have HZ12 := Lib.hid (HZ11.out.below hA)
              have HP12 := Lib.hid (HP11.out.below hA)
              have HQ12 := Lib.hid (HQ11.out.below hA)
              have HU12 := Lib.hid (HU11.out.below hA)
              clear hA HB11 HX11 HY11 HZ11 HP11 HQ11 HU11
              refine (Works_any _ (HNW.out.below HB12.out)).mono ?_
              rintro e v13x ⟨rfl, hb⟩
              have HB13 := Lib.hid (bC HB12.out hb)
              have HX13 := Lib.hid (HX12.out.below hb)
              have HY13 := Lib.hid (HY12.out.below hb)
              have HZ13 := Lib.hid (HZ12.out.below hb)
              have HP13 := Lib.hid (HP12.out.below hb)
              have HQ13 := Lib.hid (HQ12.out.below hb)
              have HU13 := Lib.hid (HU12.out.below hb)
              have HT13 := Lib.hid (HT12.out.below hb)
              clear hb HB12 HX12 HY12 HZ12 HP12 HQ12 HU12 HT12
              go_wp2_with fail
              go_ret
              exact ⟨rfl, bC HW.out HB13.out⟩
            · have HF3 : Hid (∀ W, LogAt W (.agg #[.slice a6 n6 c6, .slice a' l.edges.length cap']) (mulD l t) → Calls Tryd.prog 41 #[(.agg #[.slice a6 n6 c6, .slice a' l.edges.length cap'])] W (Gets (.bool false) W)) := Lib.hid (fun W h => by have := fine_any _ _ W h; rw [decide_eq_false hz] at this; exact this)
              refine (HF3.out _ (HVZ.out.below HB9.out)).mono ?_
              rintro e v10x ⟨rfl, hb⟩
              have HB10 := Lib.hid (bC HB9.out hb)
              have HX10 := Lib.hid (HX9.out.below hb)
              have HY10 := Lib.hid (HY9.out.below hb)
              have HZ10 := Lib.hid (HZ9.out.below hb)
              have HP10 := Lib.hid (HP9.out.below hb)
              have HQ10 := Lib.hid (HQ9.out.below hb)
              have HU10 := Lib.hid (HU9.out.below hb)
              clear hb HB9 HX9 HY9 HZ9 HP9 HQ9 HU9
              go_wp2_with fail
              refine (Works_any _ (HNW.out.below HB10.out)).mono ?_
              rintro e v11x ⟨rfl, hb⟩
              have HB11 := Lib.hid (bC HB10.out hb)
              have HX11 := Lib.hid (HX10.out.below hb)
              have HY11 := Lib.hid (HY10.out.below hb)
              have HZ11 := Lib.hid (HZ10.out.below hb)
              have HP11 := Lib.hid (HP10.out.below hb)
              have HQ11 := Lib.hid (HQ10.out.below hb)
              have HU11 := Lib.hid (HU10.out.below hb)
              clear hb HB10 HX10 HY10 HZ10 HP10 HQ10 HU10
              go_wp2_with fail
              go_ret
              exact ⟨rfl, bC HW.out HB11.out⟩
          · have HF2 : Hid (∀ W, LogAt W (.agg #[.slice a5 n5 c5, .slice a' l.edges.length cap']) (farD l m) → Calls Tryd.prog 41 #[(.agg #[.slice a5 n5 c5, .slice a' l.edges.length cap'])] W (Gets (.bool false) W)) := Lib.hid (fun W h => by have := fine_any _ _ W h; rw [decide_eq_false hy] at this; exact this)
            refine (HF2.out _ (HVY.out.below HB6.out)).mono ?_
            rintro e v7x ⟨rfl, hb⟩
            have HB7 := Lib.hid (bC HB6.out hb)
            have HX7 := Lib.hid (HX6.out.below hb)
            have HY7 := Lib.hid (HY6.out.below hb)
            have HZ7 := Lib.hid (HZ6.out.below hb)
            have HP7 := Lib.hid (HP6.out.below hb)
            have HQ7 := Lib.hid (HQ6.out.below hb)
            clear hb HB6 HX6 HY6 HZ6 HP6 HQ6
            have Zc0 := HZ7.out.cell 0
            have Zc1 := HZ7.out.cell 1
            simp at Zc0 Zc1
            have Zl := HZ7.out.lt
            go_wp2_with fail
            clear Zc0 Zc1 Zl
            by_cases hz : logErr (mulD l t) = 0
            · have HF3 : Hid (∀ W, LogAt W (.agg #[.slice a6 n6 c6, .slice a' l.edges.length cap']) (mulD l t) → Calls Tryd.prog 41 #[(.agg #[.slice a6 n6 c6, .slice a' l.edges.length cap'])] W (Gets (.bool true) W)) := Lib.hid (fun W h => by have := fine_any _ _ W h; rw [decide_eq_true hz] at this; exact this)
              refine (HF3.out _ (HVZ.out.below HB7.out)).mono ?_
              rintro e v8x ⟨rfl, hb⟩
              have HB8 := Lib.hid (bC HB7.out hb)
              have HX8 := Lib.hid (HX7.out.below hb)
              have HY8 := Lib.hid (HY7.out.below hb)
              have HZ8 := Lib.hid (HZ7.out.below hb)
              have HP8 := Lib.hid (HP7.out.below hb)
              have HQ8 := Lib.hid (HQ7.out.below hb)
              clear hb HB7 HX7 HY7 HZ7 HP7 HQ7
              have Zc0 := HZ8.out.cell 0
              have Zc1 := HZ8.out.cell 1
              simp at Zc0 Zc1
              have Zl := HZ8.out.lt
              go_wp2_with fail
              clear Zc0 Zc1 Zl
              refine (HBZZ.out hz _ (HNW.out.below HB8.out) (HVZ.out.below HB8.out)).mono ?_
              rintro e v9x ⟨rfl, hb⟩
              have HB9 := Lib.hid (bC HB8.out hb)
              have HX9 := Lib.hid (HX8.out.below hb)
              have HY9 := Lib.hid (HY8.out.below hb)
              have HZ9 := Lib.hid (HZ8.out.below hb)
              have HP9 := Lib.hid (HP8.out.below hb)
              have HQ9 := Lib.hid (HQ8.out.below hb)
              clear hb HB8 HX8 HY8 HZ8 HP8 HQ8
              have Pc0 := HP9.out.cell 0
              have Pc1 := HP9.out.cell 1
              simp at Pc0 Pc1
              have Pl := HP9.out.lt
              go_wp2_with fail
              clear Pc0 Pc1 Pl
              have hT := Blk.new v9x (.cells #[.int .i64 n, .int .i64 d] 31)
              have hA := below1 v9x (.cells #[.int .i64 n, .int .i64 d] 31)
              generalize v9x.alloc (.cells #[.int .i64 n, .int .i64 d] 31) = W9x at *
              have HT10 := Lib.hid hT
              clear hT
              have HB10 := Lib.hid (bC HB9.out hA)
              have HX10 := Lib.hid (HX9.out.below hA)
              have HY10 := Lib.hid (HY9.out.below hA)
              have HZ10 := Lib.hid (HZ9.out.below hA)
              have HP10 := Lib.hid (HP9.out.below hA)
              have HQ10 := Lib.hid (HQ9.out.below hA)
              clear hA HB9 HX9 HY9 HZ9 HP9 HQ9
              refine (Works_any _ (HNW.out.below HB10.out)).mono ?_
              rintro e v11x ⟨rfl, hb⟩
              have HB11 := Lib.hid (bC HB10.out hb)
              have HX11 := Lib.hid (HX10.out.below hb)
              have HY11 := Lib.hid (HY10.out.below hb)
              have HZ11 := Lib.hid (HZ10.out.below hb)
              have HP11 := Lib.hid (HP10.out.below hb)
              have HQ11 := Lib.hid (HQ10.out.below hb)
              have HT11 := Lib.hid (HT10.out.below hb)
              clear hb HB10 HX10 HY10 HZ10 HP10 HQ10 HT10
              go_wp2_with fail
              go_ret
              exact ⟨rfl, bC HW.out HB11.out⟩
            · have HF3 : Hid (∀ W, LogAt W (.agg #[.slice a6 n6 c6, .slice a' l.edges.length cap']) (mulD l t) → Calls Tryd.prog 41 #[(.agg #[.slice a6 n6 c6, .slice a' l.edges.length cap'])] W (Gets (.bool false) W)) := Lib.hid (fun W h => by have := fine_any _ _ W h; rw [decide_eq_false hz] at this; exact this)
              refine (HF3.out _ (HVZ.out.below HB7.out)).mono ?_
              rintro e v8x ⟨rfl, hb⟩
              have HB8 := Lib.hid (bC HB7.out hb)
              have HX8 := Lib.hid (HX7.out.below hb)
              have HY8 := Lib.hid (HY7.out.below hb)
              have HZ8 := Lib.hid (HZ7.out.below hb)
              have HP8 := Lib.hid (HP7.out.below hb)
              have HQ8 := Lib.hid (HQ7.out.below hb)
              clear hb HB7 HX7 HY7 HZ7 HP7 HQ7
              go_wp2_with fail
              refine (Works_any _ (HNW.out.below HB8.out)).mono ?_
              rintro e v9x ⟨rfl, hb⟩
              have HB9 := Lib.hid (bC HB8.out hb)
              have HX9 := Lib.hid (HX8.out.below hb)
              have HY9 := Lib.hid (HY8.out.below hb)
              have HZ9 := Lib.hid (HZ8.out.below hb)
              have HP9 := Lib.hid (HP8.out.below hb)
              have HQ9 := Lib.hid (HQ8.out.below hb)
              clear hb HB8 HX8 HY8 HZ8 HP8 HQ8
              go_wp2_with fail
              go_ret
              exact ⟨rfl, bC HW.out HB9.out⟩
        · have HF1 : Hid (∀ W, LogAt W (.agg #[.slice a l.at_.length cap, .slice a2 n2 c2]) (timD l t) → Calls Tryd.prog 41 #[(.agg #[.slice a l.at_.length cap, .slice a2 n2 c2])] W (Gets (.bool false) W)) := Lib.hid (fun W h => by have := fine_any _ _ W h; rw [decide_eq_false hx] at this; exact this)
          refine (HF1.out _ (HVX.out.below HB2.out)).mono ?_
          rintro e v3x ⟨rfl, hb⟩
          have HB3 := Lib.hid (bC HB2.out hb)
          have HX3 := Lib.hid (HX2.out.below hb)
          have HY3 := Lib.hid (HY2.out.below hb)
          have HZ3 := Lib.hid (HZ2.out.below hb)
          have HP3 := Lib.hid (HP2.out.below hb)
          clear hb HB2 HX2 HY2 HZ2 HP2
          have Yc0 := HY3.out.cell 0
          have Yc1 := HY3.out.cell 1
          simp at Yc0 Yc1
          have Yl := HY3.out.lt
          go_wp2_with fail
          clear Yc0 Yc1 Yl
          by_cases hy : logErr (farD l m) = 0
          · have HF2 : Hid (∀ W, LogAt W (.agg #[.slice a5 n5 c5, .slice a' l.edges.length cap']) (farD l m) → Calls Tryd.prog 41 #[(.agg #[.slice a5 n5 c5, .slice a' l.edges.length cap'])] W (Gets (.bool true) W)) := Lib.hid (fun W h => by have := fine_any _ _ W h; rw [decide_eq_true hy] at this; exact this)
            refine (HF2.out _ (HVY.out.below HB3.out)).mono ?_
            rintro e v4x ⟨rfl, hb⟩
            have HB4 := Lib.hid (bC HB3.out hb)
            have HX4 := Lib.hid (HX3.out.below hb)
            have HY4 := Lib.hid (HY3.out.below hb)
            have HZ4 := Lib.hid (HZ3.out.below hb)
            have HP4 := Lib.hid (HP3.out.below hb)
            clear hb HB3 HX3 HY3 HZ3 HP3
            have Yc0 := HY4.out.cell 0
            have Yc1 := HY4.out.cell 1
            simp at Yc0 Yc1
            have Yl := HY4.out.lt
            go_wp2_with fail
            clear Yc0 Yc1 Yl
            refine (HBYY.out hy _ (HNW.out.below HB4.out) (HVY.out.below HB4.out)).mono ?_
            rintro e v5x ⟨rfl, hb⟩
            have HB5 := Lib.hid (bC HB4.out hb)
            have HX5 := Lib.hid (HX4.out.below hb)
            have HY5 := Lib.hid (HY4.out.below hb)
            have HZ5 := Lib.hid (HZ4.out.below hb)
            have HP5 := Lib.hid (HP4.out.below hb)
            clear hb HB4 HX4 HY4 HZ4 HP4
            have Pc0 := HP5.out.cell 0
            have Pc1 := HP5.out.cell 1
            have Zc0 := HZ5.out.cell 0
            have Zc1 := HZ5.out.cell 1
            simp at Pc0 Pc1 Zc0 Zc1
            have Pl := HP5.out.lt
            have Zl := HZ5.out.lt
            go_wp2_with fail
            clear Pc0 Pc1 Zc0 Zc1 Pl Zl
            have hU := Blk.new v5x (.cells #[.int .i64 n, .int .i64 d] 31)
            have hA := below1 v5x (.cells #[.int .i64 n, .int .i64 d] 31)
            generalize v5x.alloc (.cells #[.int .i64 n, .int .i64 d] 31) = W5x at *
            have HU6 := Lib.hid hU
            clear hU
            have HB6 := Lib.hid (bC HB5.out hA)
            have HX6 := Lib.hid (HX5.out.below hA)
            have HY6 := Lib.hid (HY5.out.below hA)
            have HZ6 := Lib.hid (HZ5.out.below hA)
            have HP6 := Lib.hid (HP5.out.below hA)
            clear hA HB5 HX5 HY5 HZ5 HP5
            by_cases hz : logErr (mulD l t) = 0
            · have HF3 : Hid (∀ W, LogAt W (.agg #[.slice a6 n6 c6, .slice a' l.edges.length cap']) (mulD l t) → Calls Tryd.prog 41 #[(.agg #[.slice a6 n6 c6, .slice a' l.edges.length cap'])] W (Gets (.bool true) W)) := Lib.hid (fun W h => by have := fine_any _ _ W h; rw [decide_eq_true hz] at this; exact this)
              refine (HF3.out _ (HVZ.out.below HB6.out)).mono ?_
              rintro e v7x ⟨rfl, hb⟩
              have HB7 := Lib.hid (bC HB6.out hb)
              have HX7 := Lib.hid (HX6.out.below hb)
              have HY7 := Lib.hid (HY6.out.below hb)
              have HZ7 := Lib.hid (HZ6.out.below hb)
              have HP7 := Lib.hid (HP6.out.below hb)
              have HU7 := Lib.hid (HU6.out.below hb)
              clear hb HB6 HX6 HY6 HZ6 HP6 HU6
              have Zc0 := HZ7.out.cell 0
              have Zc1 := HZ7.out.cell 1
              simp at Zc0 Zc1
              have Zl := HZ7.out.lt
              go_wp2_with fail
              clear Zc0 Zc1 Zl
              refine (HBZZ.out hz _ (HNW.out.below HB7.out) (HVZ.out.below HB7.out)).mono ?_
              rintro e v8x ⟨rfl, hb⟩
              have HB8 := Lib.hid (bC HB7.out hb)
              have HX8 := Lib.hid (HX7.out.below hb)
              have HY8 := Lib.hid (HY7.out.below hb)
              have HZ8 := Lib.hid (HZ7.out.below hb)
              have HP8 := Lib.hid (HP7.out.below hb)
              have HU8 := Lib.hid (HU7.out.below hb)
              clear hb HB7 HX7 HY7 HZ7 HP7 HU7
              have Pc0 := HP8.out.cell 0
              have Pc1 := HP8.out.cell 1
              simp at Pc0 Pc1
              have Pl := HP8.out.lt
              go_wp2_with fail
              clear Pc0 Pc1 Pl
              have hT := Blk.new v8x (.cells #[.int .i64 n, .int .i64 d] 31)
              have hA := below1 v8x (.cells #[.int .i64 n, .int .i64 d] 31)
              generalize v8x.alloc (.cells #[.int .i64 n, .int .i64 d] 31) = W8x at *
              have HT9 := Lib.hid hT
              clear hT
              have HB9 := Lib.hid (bC HB8.out hA)
              have HX9 := Lib.hid (HX8.out.below hA)
              have HY9 := Lib.hid (HY8.out.below hA)
              have HZ9 := Lib.hid (HZ8.out.below hA)
              have HP9 := Lib.hid (HP8.out.below hA)
              have HU9 := Lib.hid (HU8.out.below hA)
              clear hA HB8 HX8 HY8 HZ8 HP8 HU8
              refine (Works_any _ (HNW.out.below HB9.out)).mono ?_
              rintro e v10x ⟨rfl, hb⟩
              have HB10 := Lib.hid (bC HB9.out hb)
              have HX10 := Lib.hid (HX9.out.below hb)
              have HY10 := Lib.hid (HY9.out.below hb)
              have HZ10 := Lib.hid (HZ9.out.below hb)
              have HP10 := Lib.hid (HP9.out.below hb)
              have HU10 := Lib.hid (HU9.out.below hb)
              have HT10 := Lib.hid (HT9.out.below hb)
              clear hb HB9 HX9 HY9 HZ9 HP9 HU9 HT9
              go_wp2_with fail
              go_ret
              exact ⟨rfl, bC HW.out HB10.out⟩
            · have HF3 : Hid (∀ W, LogAt W (.agg #[.slice a6 n6 c6, .slice a' l.edges.length cap']) (mulD l t) → Calls Tryd.prog 41 #[(.agg #[.slice a6 n6 c6, .slice a' l.edges.length cap'])] W (Gets (.bool false) W)) := Lib.hid (fun W h => by have := fine_any _ _ W h; rw [decide_eq_false hz] at this; exact this)
              refine (HF3.out _ (HVZ.out.below HB6.out)).mono ?_
              rintro e v7x ⟨rfl, hb⟩
              have HB7 := Lib.hid (bC HB6.out hb)
              have HX7 := Lib.hid (HX6.out.below hb)
              have HY7 := Lib.hid (HY6.out.below hb)
              have HZ7 := Lib.hid (HZ6.out.below hb)
              have HP7 := Lib.hid (HP6.out.below hb)
              have HU7 := Lib.hid (HU6.out.below hb)
              clear hb HB6 HX6 HY6 HZ6 HP6 HU6
              go_wp2_with fail
              refine (Works_any _ (HNW.out.below HB7.out)).mono ?_
              rintro e v8x ⟨rfl, hb⟩
              have HB8 := Lib.hid (bC HB7.out hb)
              have HX8 := Lib.hid (HX7.out.below hb)
              have HY8 := Lib.hid (HY7.out.below hb)
              have HZ8 := Lib.hid (HZ7.out.below hb)
              have HP8 := Lib.hid (HP7.out.below hb)
              have HU8 := Lib.hid (HU7.out.below hb)
              clear hb HB7 HX7 HY7 HZ7 HP7 HU7
              go_wp2_with fail
              go_ret
              exact ⟨rfl, bC HW.out HB8.out⟩
          · have HF2 : Hid (∀ W, LogAt W (.agg #[.slice a5 n5 c5, .slice a' l.edges.length cap']) (farD l m) → Calls Tryd.prog 41 #[(.agg #[.slice a5 n5 c5, .slice a' l.edges.length cap'])] W (Gets (.bool false) W)) := Lib.hid (fun W h => by have := fine_any _ _ W h; rw [decide_eq_false hy] at this; exact this)
            refine (HF2.out _ (HVY.out.below HB3.out)).mono ?_
            rintro e v4x ⟨rfl, hb⟩
            have HB4 := Lib.hid (bC HB3.out hb)
            have HX4 := Lib.hid (HX3.out.below hb)
            have HY4 := Lib.hid (HY3.out.below hb)
            have HZ4 := Lib.hid (HZ3.out.below hb)
            have HP4 := Lib.hid (HP3.out.below hb)
            clear hb HB3 HX3 HY3 HZ3 HP3
            have Zc0 := HZ4.out.cell 0
            have Zc1 := HZ4.out.cell 1
            simp at Zc0 Zc1
            have Zl := HZ4.out.lt
            go_wp2_with fail
            clear Zc0 Zc1 Zl
            by_cases hz : logErr (mulD l t) = 0
            · have HF3 : Hid (∀ W, LogAt W (.agg #[.slice a6 n6 c6, .slice a' l.edges.length cap']) (mulD l t) → Calls Tryd.prog 41 #[(.agg #[.slice a6 n6 c6, .slice a' l.edges.length cap'])] W (Gets (.bool true) W)) := Lib.hid (fun W h => by have := fine_any _ _ W h; rw [decide_eq_true hz] at this; exact this)
              refine (HF3.out _ (HVZ.out.below HB4.out)).mono ?_
              rintro e v5x ⟨rfl, hb⟩
              have HB5 := Lib.hid (bC HB4.out hb)
              have HX5 := Lib.hid (HX4.out.below hb)
              have HY5 := Lib.hid (HY4.out.below hb)
              have HZ5 := Lib.hid (HZ4.out.below hb)
              have HP5 := Lib.hid (HP4.out.below hb)
              clear hb HB4 HX4 HY4 HZ4 HP4
              have Zc0 := HZ5.out.cell 0
              have Zc1 := HZ5.out.cell 1
              simp at Zc0 Zc1
              have Zl := HZ5.out.lt
              go_wp2_with fail
              clear Zc0 Zc1 Zl
              refine (HBZZ.out hz _ (HNW.out.below HB5.out) (HVZ.out.below HB5.out)).mono ?_
              rintro e v6x ⟨rfl, hb⟩
              have HB6 := Lib.hid (bC HB5.out hb)
              have HX6 := Lib.hid (HX5.out.below hb)
              have HY6 := Lib.hid (HY5.out.below hb)
              have HZ6 := Lib.hid (HZ5.out.below hb)
              have HP6 := Lib.hid (HP5.out.below hb)
              clear hb HB5 HX5 HY5 HZ5 HP5
              have Pc0 := HP6.out.cell 0
              have Pc1 := HP6.out.cell 1
              simp at Pc0 Pc1
              have Pl := HP6.out.lt
              go_wp2_with fail
              clear Pc0 Pc1 Pl
              have hT := Blk.new v6x (.cells #[.int .i64 n, .int .i64 d] 31)
              have hA := below1 v6x (.cells #[.int .i64 n, .int .i64 d] 31)
              generalize v6x.alloc (.cells #[.int .i64 n, .int .i64 d] 31) = W6x at *
              have HT7 := Lib.hid hT
              clear hT
              have HB7 := Lib.hid (bC HB6.out hA)
              have HX7 := Lib.hid (HX6.out.below hA)
              have HY7 := Lib.hid (HY6.out.below hA)
              have HZ7 := Lib.hid (HZ6.out.below hA)
              have HP7 := Lib.hid (HP6.out.below hA)
              clear hA HB6 HX6 HY6 HZ6 HP6
              refine (Works_any _ (HNW.out.below HB7.out)).mono ?_
              rintro e v8x ⟨rfl, hb⟩
              have HB8 := Lib.hid (bC HB7.out hb)
              have HX8 := Lib.hid (HX7.out.below hb)
              have HY8 := Lib.hid (HY7.out.below hb)
              have HZ8 := Lib.hid (HZ7.out.below hb)
              have HP8 := Lib.hid (HP7.out.below hb)
              have HT8 := Lib.hid (HT7.out.below hb)
              clear hb HB7 HX7 HY7 HZ7 HP7 HT7
              go_wp2_with fail
              go_ret
              exact ⟨rfl, bC HW.out HB8.out⟩
            · have HF3 : Hid (∀ W, LogAt W (.agg #[.slice a6 n6 c6, .slice a' l.edges.length cap']) (mulD l t) → Calls Tryd.prog 41 #[(.agg #[.slice a6 n6 c6, .slice a' l.edges.length cap'])] W (Gets (.bool false) W)) := Lib.hid (fun W h => by have := fine_any _ _ W h; rw [decide_eq_false hz] at this; exact this)
              refine (HF3.out _ (HVZ.out.below HB4.out)).mono ?_
              rintro e v5x ⟨rfl, hb⟩
              have HB5 := Lib.hid (bC HB4.out hb)
              have HX5 := Lib.hid (HX4.out.below hb)
              have HY5 := Lib.hid (HY4.out.below hb)
              have HZ5 := Lib.hid (HZ4.out.below hb)
              have HP5 := Lib.hid (HP4.out.below hb)
              clear hb HB4 HX4 HY4 HZ4 HP4
              go_wp2_with fail
              refine (Works_any _ (HNW.out.below HB5.out)).mono ?_
              rintro e v6x ⟨rfl, hb⟩
              have HB6 := Lib.hid (bC HB5.out hb)
              have HX6 := Lib.hid (HX5.out.below hb)
              have HY6 := Lib.hid (HY5.out.below hb)
              have HZ6 := Lib.hid (HZ5.out.below hb)
              have HP6 := Lib.hid (HP5.out.below hb)
              clear hb HB5 HX5 HY5 HZ5 HP5
              go_wp2_with fail
              go_ret
              exact ⟨rfl, bC HW.out HB6.out⟩
  · have HF : Hid (∀ W, LogAt W (.agg #[.slice a l.at_.length cap, .slice a' l.edges.length cap']) l → Calls Tryd.prog 41 #[(.agg #[.slice a l.at_.length cap, .slice a' l.edges.length cap'])] W (Gets (.bool false) W)) := Lib.hid (fun W h => by have := fine_any _ l W h; rw [decide_eq_false h0] at this; exact this)
    clear h0 g1 g2
    go_enter Tryd.func13, Tryd.ntmps13
    go_wp2_with fail
    refine (HF.out _ (HV.out.below HB0.out)).mono ?_
    rintro e w1x ⟨rfl, hb⟩
    have HB1 := Lib.hid (bC HB0.out hb)
    have HL1 := Lib.hid (HL0.out.below hb)
    clear hb HB0 HL0
    go_wp2_with fail
    refine (Works_any _ (HN.out.below HB1.out)).mono ?_
    rintro e w2x ⟨rfl, hb⟩
    have HB2 := Lib.hid (bC HB1.out hb)
    have HL2 := Lib.hid (HL1.out.below hb)
    clear hb HB1 HL1
    go_wp2_with fail
    go_ret
    exact ⟨rfl, HB2.out⟩
end Go.Proofs.YtkggjpdjjnnhaaaDoor
