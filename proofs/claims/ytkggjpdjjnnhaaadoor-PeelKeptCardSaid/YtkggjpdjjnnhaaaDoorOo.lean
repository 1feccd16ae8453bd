import Derived.Test.YtkggjpdjjnnhaaaDoorOn
namespace Go.Proofs.YtkggjpdjjnnhaaaDoor
open Go.RowKit Go.Shelf Go.Sort
attribute [local go_sem] Oper.semAt_some

/-! ## The law PeelKept -/
theorem keptBd {l : LogD} (hf : Fit l.at_ [l.edges]) {p q D y2 y3 : Int} (h1 : -2000 ≤ p) (h2 : p ≤ 2000) (h3 : -2000 ≤ q) (h4 : q ≤ 2000) (h : linedD l p q = (D, y2, y3)) :
    (0 < D ∧ D ≤ 100) ∧ (-400000 ≤ y2 ∧ y2 ≤ 400000) ∧ (-4000 ≤ y3 ∧ y3 ≤ 4000) := by
  obtain ⟨b1, b2, b3⟩ := lined_bd hf
  simp only [linedD, Prod.mk.injEq] at h
  obtain ⟨rfl, rfl, rfl⟩ := h
  have m1 := mulL_bd h1 h2 (show 0 ≤ atD l (l.at_.length - 1) by omega)
  have m2 := mulL_bd h3 h4 b1
  omega
set_option maxRecDepth 1000000 in
set_option maxHeartbeats 40000000 in
theorem PeelKept_any (v : Value) (l : LogD) (one two three four x0 : Int) (w : World) (hN : NoneAt w) (hv : LogAt w v l)
    (g1 : -32768 ≤ one ∧ one ≤ 32767) (g2 : -32768 ≤ two ∧ two ≤ 32767) (g3 : -32768 ≤ three ∧ three ≤ 32767) (g4 : -32768 ≤ four ∧ four ≤ 32767) (g5 : 0 ≤ x0 ∧ x0 ≤ 255) :
    Calls Tryd.prog 9 #[v, .int .i16 one, .int .i16 two, .int .i16 three, .int .i16 four, .int .u8 x0] w fun e w' => e = .returned (.bool true) ∧ Below w.heap.size w w' := by
  obtain ⟨va, ve, rfl, h1, h2⟩ := hv
  obtain ⟨a, cap, rfl⟩ := h1.slice
  obtain ⟨a', cap', rfl⟩ := h2.slice
  have HV : Hid (LogAt w (.agg #[.slice a l.at_.length cap, .slice a' l.edges.length cap']) l) := Lib.hid ⟨_, _, rfl, h1, h2⟩
  have HN := Lib.hid hN
  clear h1 h2 hN
  have hL := Blk.new w (.cells #[.slice a l.at_.length cap, .slice a' l.edges.length cap'] 25)
  have hB0 := below1 w (.cells #[.slice a l.at_.length cap, .slice a' l.edges.length cap'] 25)
  have HL0 := Lib.hid hL
  have HB0 := Lib.hid hB0
  clear hB0 hL
  by_cases h0 : logErr l = 0
  · have HF : Hid (∀ W, LogAt W (.agg #[.slice a l.at_.length cap, .slice a' l.edges.length cap']) l → Calls Tryd.prog 41 #[(.agg #[.slice a l.at_.length cap, .slice a' l.edges.length cap'])] W (Gets (.bool true) W)) := Lib.hid (fun W h => by have := fine_any _ l W h; rw [decide_eq_true h0] at this; exact this)
    have hf := logErr_fit' h0
    have hS : l.small := by unfold LogD.small; have := hf.eight; have := hf.lens _ (List.mem_singleton.2 rfl); omega
    obtain ⟨t1, t2⟩ := tm_bd one
    obtain ⟨t3, t4⟩ := tm_bd two
    obtain ⟨t5, t6⟩ := tm_bd three
    obtain ⟨t7, t8⟩ := tm_bd four
    obtain ⟨x, hx⟩ : ∃ x, x0.tmod 101 = x := ⟨_, rfl⟩
    have bx := tmodN x0 101 g5.1 (by decide)
    rw [hx] at bx
    have rx0 : IntKind.i64.wrap x0 = x0 := IntWalk.i64_in _ (by omega)
    have rx : IntKind.i64.wrap x = x := IntWalk.i64_in _ (by omega)
    obtain ⟨⟨D, y2, y3⟩, hy⟩ : ∃ y, linedD l (one.tmod 2001) (two.tmod 2001) = y := ⟨_, rfl⟩
    obtain ⟨⟨D', z2, z3⟩, hz⟩ : ∃ y, linedD l (three.tmod 2001) (four.tmod 2001) = y := ⟨_, rfl⟩
    obtain rfl : D = D' := by have e1 := congrArg Prod.fst hy; have e2 := congrArg Prod.fst hz; exact e1.symm.trans e2
    obtain ⟨bD, by2, by3⟩ := keptBd hf t1 t2 t3 t4 hy
    obtain ⟨_, bz2, bz3⟩ := keptBd hf t5 t6 t7 t8 hz
    have str1 := fun k hk => lined_str hf t1 t2 t3 t4 (k := k) hk
    have str2 := fun k hk => lined_str hf t5 t6 t7 t8 (k := k) hk
    rw [hy] at str1
    rw [hz] at str2
    simp only at str1 str2
    have cs1 := core_small hf bD.1 str1
    have cs2 := core_small hf bD.1 str2
    have cs3 := core_small hf (show 0 < 2 * D by omega) (start := y2 + z2) (step := y3 + z3) (fun k hk => by have u1 := str1 k hk; have u2 := str2 k hk; rw [str_mid bD.1]; constructor <;> grind)
    have hmid := core_mid hf bD.1 (s1 := y2) (t1 := y3) (s2 := z2) (t2 := z3)
    have le1 : lineErr D y2 y3 = 0 := by unfold lineErr; rw [if_neg (by omega)]
    have le2 : lineErr D z2 z3 = 0 := by unfold lineErr; rw [if_neg (by omega)]
    have le3 : lineErr (2 * D) (y2 + z2) (y3 + z3) = 0 := by unfold lineErr; rw [if_neg (by omega)]
    have wr1 : IntKind.i64.wrap (2 * D) = 2 * D := IntWalk.i64_in _ (by omega)
    have wr2 : IntKind.i64.wrap (y2 + z2) = y2 + z2 := IntWalk.i64_in _ (by omega)
    have wr3 : IntKind.i64.wrap (y3 + z3) = y3 + z3 := IntWalk.i64_in _ (by omega)
    obtain ⟨c, hc⟩ : ∃ c, coreOf l D y2 y3 = c := ⟨_, rfl⟩
    rw [hc] at cs1
    obtain ⟨cn, hcn⟩ : ∃ cn, c.num = cn := ⟨_, rfl⟩
    obtain ⟨cd, hcd⟩ : ∃ cd, (c.den : Int) = cd := ⟨_, rfl⟩
    have cb := bd_num cs1.2.1 cs1.2.2
    have cdd := cs1.1
    rw [hcd] at cb cdd
    rw [hcn] at cb
    have ce : coreE l D y2 y3 = 0 := by rw [coreE, if_pos h0]; exact le1
    have cv : coreV l D y2 y3 = .agg #[.int .i64 cn, .int .i64 cd] := by rw [coreV, if_pos ce, hc, qv, hcn, hcd]
    have HCc : Hid (∀ W, LogAt W (.agg #[.slice a l.at_.length cap, .slice a' l.edges.length cap']) l → Calls Tryd.prog 20 #[(.agg #[.slice a l.at_.length cap, .slice a' l.edges.length cap']), .agg #[.int .i64 D, .int .i64 y2, .int .i64 y3]] W (Gets (.tuple #[.agg #[.int .i64 cn, .int .i64 cd], .int .i64 0]) W)) := Lib.hid (fun W h => by have := Core_any _ l D y2 y3 W h hS; rw [cv, ce] at this; exact this)
    obtain ⟨d, hd⟩ : ∃ d, coreOf l D z2 z3 = d := ⟨_, rfl⟩
    rw [hd] at cs2
    obtain ⟨dn, hdn⟩ : ∃ dn, d.num = dn := ⟨_, rfl⟩
    obtain ⟨dd, hdd⟩ : ∃ dd, (d.den : Int) = dd := ⟨_, rfl⟩
    have db := bd_num cs2.2.1 cs2.2.2
    have ddd := cs2.1
    rw [hdd] at db ddd
    rw [hdn] at db
    have de : coreE l D z2 z3 = 0 := by rw [coreE, if_pos h0]; exact le2
    have dv : coreV l D z2 z3 = .agg #[.int .i64 dn, .int .i64 dd] := by rw [coreV, if_pos de, hd, qv, hdn, hdd]
    have HCd : Hid (∀ W, LogAt W (.agg #[.slice a l.at_.length cap, .slice a' l.edges.length cap']) l → Calls Tryd.prog 20 #[(.agg #[.slice a l.at_.length cap, .slice a' l.edges.length cap']), .agg #[.int .i64 D, .int .i64 z2, .int .i64 z3]] W (Gets (.tuple #[.agg #[.int .i64 dn, .int .i64 dd], .int .i64 0]) W)) := Lib.hid (fun W h => by have := Core_any _ l D z2 z3 W h hS; rw [dv, de] at this; exact this)
    obtain ⟨m, hm⟩ : ∃ m, coreOf l (2 * D) (y2 + z2) (y3 + z3) = m := ⟨_, rfl⟩
    rw [hm] at cs3
    obtain ⟨mn, hmn⟩ : ∃ mn, m.num = mn := ⟨_, rfl⟩
    obtain ⟨md, hmd⟩ : ∃ md, (m.den : Int) = md := ⟨_, rfl⟩
    have mb := bd_num cs3.2.1 cs3.2.2
    have mdd := cs3.1
    rw [hmd] at mb mdd
    rw [hmn] at mb
    have me : coreE l (2 * D) (y2 + z2) (y3 + z3) = 0 := by rw [coreE, if_pos h0]; exact le3
    have mv : coreV l (2 * D) (y2 + z2) (y3 + z3) = .agg #[.int .i64 mn, .int .i64 md] := by rw [coreV, if_pos me, hm, qv, hmn, hmd]
    have HCm : Hid (∀ W, LogAt W (.agg #[.slice a l.at_.length cap, .slice a' l.edges.length cap']) l → Calls Tryd.prog 20 #[(.agg #[.slice a l.at_.length cap, .slice a' l.edges.length cap']), .agg #[.int .i64 (2 * D), .int .i64 (y2 + z2), .int .i64 (y3 + z3)]] W (Gets (.tuple #[.agg #[.int .i64 mn, .int .i64 md], .int .i64 0]) W)) := Lib.hid (fun W h => by have := Core_any _ l (2 * D) (y2 + z2) (y3 + z3) W h hS; rw [mv, me] at this; exact this)
    rw [hc, hd, hm] at hmid
    have HLA : Hid (∀ W, LogAt W (.agg #[.slice a l.at_.length cap, .slice a' l.edges.length cap']) l → Calls Tryd.prog 43 #[(.agg #[.slice a l.at_.length cap, .slice a' l.edges.length cap']), .int .i16 one, .int .i16 two] W (Gets (.agg #[.int .i64 D, .int .i64 y2, .int .i64 y3]) W)) := Lib.hid (fun W h => by have := Lined_any _ l one two W h hf g1 g2; rw [hy] at this; exact this)
    have HLB : Hid (∀ W, LogAt W (.agg #[.slice a l.at_.length cap, .slice a' l.edges.length cap']) l → Calls Tryd.prog 43 #[(.agg #[.slice a l.at_.length cap, .slice a' l.edges.length cap']), .int .i16 three, .int .i16 four] W (Gets (.agg #[.int .i64 D, .int .i64 z2, .int .i64 z3]) W)) := Lib.hid (fun W h => by have := Lined_any _ l three four W h hf g3 g4; rw [hz] at this; exact this)
    have FACTS := Lib.hid (And.intro h0 (And.intro bD (And.intro by2 (And.intro by3 (And.intro bx (And.intro hc (And.intro (And.intro hcn hcd) (And.intro cb (And.intro cdd (And.intro (And.intro hdn hdd) (And.intro db (And.intro ddd (And.intro (And.intro hmn hmd) (And.intro mb (And.intro mdd hmid)))))))))))))))
    clear h0 hf hS t1 t2 t3 t4 t5 t6 t7 t8 bx hy hz bD by2 by3 bz2 bz3 str1 str2 cs1 cs2 cs3 hmid le1 le2 le3 hc hcn hcd cb cdd ce cv hd hdn hdd db ddd de dv hm hmn hmd mb mdd me mv g1 g2 g3 g4 g5
    go_enter Tryd.func9, Tryd.ntmps9
    go_wp2_with fail
    refine (HF.out _ (HV.out.below HB0.out)).mono ?_
    rintro e w1x ⟨rfl, hb⟩
    have HB1 := Lib.hid (bC HB0.out hb)
    have HL1 := Lib.hid (HL0.out.below hb)
    clear hb HB0 HL0
    go_wp2_with fail
    have u0 := HL1.out.cell 0
    have u1 := HL1.out.cell 1
    simp at u0 u1
    have HVB := Lib.hid (HV.out.below HB1.out)
    go_cut [13, 14, 15] (fun s13 s14 s15 wx => ∃ BA BB : Nat, s13 = .pointer (some ⟨BA, 0, none⟩) ∧ s14 = .pointer (some ⟨BB, 0, none⟩) ∧ s15 = .int .i64 x ∧ Blk wx BA (.cells #[.int .i64 D, .int .i64 y2, .int .i64 y3] 27) ∧ Blk wx BB (.cells #[.int .i64 D, .int .i64 z2, .int .i64 z3] 27) ∧ Below w1x.heap.size w1x wx)
    case first =>
      have BL := Lib.hid (Below.refl w1x.heap.size w1x)
      have y0 : w1x.cell? ⟨w.heap.size, 0, none⟩ = some (.slice a l.at_.length cap) := cellB u0 BL.out
      have y1 : w1x.cell? ⟨w.heap.size, 1, none⟩ = some (.slice a' l.edges.length cap') := cellB u1 BL.out
      refine wp_region_T 15 (fun W' => W'.cell? ⟨w.heap.size, 0, none⟩ = some (.slice a l.at_.length cap) ∧ W'.cell? ⟨w.heap.size, 1, none⟩ = some (.slice a' l.edges.length cap')) (by kernel_rfl) (by kernel_rfl) ⟨y0, y1⟩ ?_
      intro inv hS
      have hbD : Below w1x.heap.size w1x w1x.drew := (Below.refl _ _).drew
      generalize w1x.drew = V0 at *
      replace BL := Lib.hid (bC BL.out hbD)
      clear hbD
      clear y0
      have y0 : V0.cell? ⟨w.heap.size, 0, none⟩ = some (.slice a l.at_.length cap) := cellB u0 BL.out
      clear y1
      have y1 : V0.cell? ⟨w.heap.size, 1, none⟩ = some (.slice a' l.edges.length cap') := cellB u1 BL.out
      refine wpAnyT_take inv (by kernel_rfl) (by omega) (i := 0) (v := (.agg #[.slice a l.at_.length cap, .slice a' l.edges.length cap'])) rfl (by kernel_rfl) (by kernel_rfl) (fun _ _ _ h => h) (Or.inl ⟨by kernel_rfl, ?_⟩) (by assumption) ?_
      · rintro W' ⟨s0, s1⟩
        go_simp
      intro inv2
      clear inv
      have inv := inv2
      clear inv2
      simp only [Act.put, List.setIfInBounds_toArray]
      refine wpAnyT_take inv (by kernel_rfl) (by omega) (i := 1) (v := .int .i16 one) rfl (by kernel_rfl) (by kernel_rfl) (fun _ _ _ h => h) (Or.inl ⟨by kernel_rfl, ?_⟩) (by assumption) ?_
      · rintro W' ⟨s0, s1⟩
        go_simp
      intro inv2
      clear inv
      have inv := inv2
      clear inv2
      simp only [Act.put]
      refine wpAnyT_take inv (by kernel_rfl) (by omega) (i := 2) (v := .int .i16 two) rfl (by kernel_rfl) (by kernel_rfl) (fun _ _ _ h => h) (Or.inl ⟨by kernel_rfl, ?_⟩) (by assumption) ?_
      · rintro W' ⟨s0, s1⟩
        go_simp
      intro inv2
      clear inv
      have inv := inv2
      clear inv2
      simp only [Act.put]
      refine wpAnyT_take inv (by kernel_rfl) (by omega) (i := 4) (v := (.agg #[.slice a l.at_.length cap, .slice a' l.edges.length cap'])) rfl (by kernel_rfl) (by kernel_rfl) (fun _ _ _ h => h) (Or.inl ⟨by kernel_rfl, ?_⟩) (by assumption) ?_
      · rintro W' ⟨s0, s1⟩
        go_simp
      intro inv2
      clear inv
      have inv := inv2
      clear inv2
      simp only [Act.put]
      refine wpAnyT_take inv (by kernel_rfl) (by omega) (i := 5) (v := .int .i16 three) rfl (by kernel_rfl) (by kernel_rfl) (fun _ _ _ h => h) (Or.inl ⟨by kernel_rfl, ?_⟩) (by assumption) ?_
      · rintro W' ⟨s0, s1⟩
        go_simp
      intro inv2
      clear inv
      have inv := inv2
      clear inv2
      simp only [Act.put]
      refine wpAnyT_take inv (by kernel_rfl) (by omega) (i := 6) (v := .int .i16 four) rfl (by kernel_rfl) (by kernel_rfl) (fun _ _ _ h => h) (Or.inl ⟨by kernel_rfl, ?_⟩) (by assumption) ?_
      · rintro W' ⟨s0, s1⟩
        go_simp
      intro inv2
      clear inv
      have inv := inv2
      clear inv2
      simp only [Act.put]
      refine wpAnyT_take inv (by kernel_rfl) (by omega) (i := 8) (v := .int .u8 x0) rfl (by kernel_rfl) (by kernel_rfl) (fun _ _ _ h => h) (Or.inl ⟨by kernel_rfl, ?_⟩) (by assumption) ?_
      · rintro W' ⟨s0, s1⟩
        go_simp
      intro inv2
      clear inv
      have inv := inv2
      clear inv2
      simp only [Act.put]
      refine wpAnyT_take inv (by kernel_rfl) (by omega) (i := 9) (v := .int .i64 x0) rfl (by kernel_rfl) (by kernel_rfl) (fun _ _ _ h => h) (Or.inl ⟨by kernel_rfl, ?_⟩) (by assumption) ?_
      · rintro W' ⟨s0, s1⟩
        go_simp
      intro inv2
      clear inv
      have inv := inv2
      clear inv2
      simp only [Act.put]
      refine wpAnyT_take inv (by kernel_rfl) (by omega) (i := 10) (v := .int .i64 x) rfl (by kernel_rfl) (by kernel_rfl) (fun _ _ _ h => h) (Or.inl ⟨by kernel_rfl, ?_⟩) (by assumption) ?_
      · rintro W' ⟨s0, s1⟩
        go_simp
      intro inv2
      clear inv
      have inv := inv2
      clear inv2
      simp only [Act.put]
      refine wpAnyT_ready [3, 11, 12] (by kernel_rfl) (by simp) ?_
      refine AllReadyT.cons rfl (fun K hK => ?_) ?_
      ·
        go_simp
        refine (HLA.out _ (HVB.out.below BL.out)).mono ?_
        rintro e V1 ⟨rfl, hb⟩
        replace BL := Lib.hid (bC BL.out hb)
        clear hb
        clear y0
        have y0 : V1.cell? ⟨w.heap.size, 0, none⟩ = some (.slice a l.at_.length cap) := cellB u0 BL.out
        clear y1
        have y1 : V1.cell? ⟨w.heap.size, 1, none⟩ = some (.slice a' l.edges.length cap') := cellB u1 BL.out
        refine hK.out _ _ (fun _ => ⟨y0, y1⟩) (fun _ => ?_)
        clear hK K
        try simp only [Act.put]
        refine wpAnyT_ready [7, 11, 12] (by kernel_rfl) (by simp) ?_
        refine AllReadyT.cons rfl (fun K hK => ?_) ?_
        ·
          go_simp
          refine (HLB.out _ (HVB.out.below BL.out)).mono ?_
          rintro e V2 ⟨rfl, hb⟩
          replace BL := Lib.hid (bC BL.out hb)
          clear hb
          clear y0
          have y0 : V2.cell? ⟨w.heap.size, 0, none⟩ = some (.slice a l.at_.length cap) := cellB u0 BL.out
          clear y1
          have y1 : V2.cell? ⟨w.heap.size, 1, none⟩ = some (.slice a' l.edges.length cap') := cellB u1 BL.out
          refine hK.out _ _ (fun _ => ⟨y0, y1⟩) (fun _ => ?_)
          clear hK K
          try simp only [Act.put]
          refine wpAnyT_ready [11, 12] (by kernel_rfl) (by simp) ?_
          refine AllReadyT.cons rfl (fun K hK => ?_) ?_
          ·
            have zXA : w1x.heap.size ≤ V2.heap.size := BL.out.size
            go_simp
            have hb := below1 V2 (.cells #[.int .i64 0, .int .i64 0, .int .i64 0] 27)
            have XA := Lib.hid (Blk.new V2 (.cells #[.int .i64 0, .int .i64 0, .int .i64 0] 27))
            generalize V2.alloc (.cells #[.int .i64 0, .int .i64 0, .int .i64 0] 27) = V3 at *
            replace BL := Lib.hid (bC BL.out hb)
            clear hb
            clear y0
            have y0 : V3.cell? ⟨w.heap.size, 0, none⟩ = some (.slice a l.at_.length cap) := cellB u0 BL.out
            clear y1
            have y1 : V3.cell? ⟨w.heap.size, 1, none⟩ = some (.slice a' l.edges.length cap') := cellB u1 BL.out
            refine hK.out _ _ (fun _ => ⟨y0, y1⟩) (fun _ => ?_)
            clear hK K
            try simp only [Act.put]
            refine wpAnyT_ready [12] (by kernel_rfl) (by simp) ?_
            refine AllReadyT.cons rfl (fun K hK => ?_) AllReadyT.nil
            have zXB : w1x.heap.size ≤ V3.heap.size := BL.out.size
            go_simp
            have hb := below1 V3 (.cells #[.int .i64 0, .int .i64 0, .int .i64 0] 27)
            have XB := Lib.hid (Blk.new V3 (.cells #[.int .i64 0, .int .i64 0, .int .i64 0] 27))
            generalize V3.alloc (.cells #[.int .i64 0, .int .i64 0, .int .i64 0] 27) = V4 at *
            replace BL := Lib.hid (bC BL.out hb)
            have nXA : V2.heap.size ≠ V3.heap.size := by have := XA.out.lt; omega
            replace XA := Lib.hid (XA.out.below hb)
            clear hb
            clear y0
            have y0 : V4.cell? ⟨w.heap.size, 0, none⟩ = some (.slice a l.at_.length cap) := cellB u0 BL.out
            clear y1
            have y1 : V4.cell? ⟨w.heap.size, 1, none⟩ = some (.slice a' l.edges.length cap') := cellB u1 BL.out
            refine hK.out _ _ (fun _ => ⟨y0, y1⟩) (fun _ => ?_)
            clear hK K
            try simp only [Act.put]
            refine wpAnyT_ready [13] (by kernel_rfl) (by simp) ?_
            refine AllReadyT.cons rfl (fun K hK => ?_) AllReadyT.nil
            have a0 := XA.out.cell 0
            have az0 := XA.out.frozen 0
            have a1 := XA.out.cell 1
            have az1 := XA.out.frozen 1
            have a2 := XA.out.cell 2
            have az2 := XA.out.frozen 2
            have al := XA.out.lt
            simp at a0 a1 a2
            go_simp
            clear al a0 az0 a1 az1 a2 az2
            have hU := (((XA.out.set (j := 0) (.int .i64 D)).set (j := 1) (.int .i64 y2)).set (j := 2) (.int .i64 y3))
            simp only [List.setIfInBounds_toArray, List.set_cons_zero, List.set_cons_succ] at hU
            replace XA := Lib.hid hU
            clear hU
            replace XB := Lib.hid (((XB.out.other nXA.symm (j := 0) (.int .i64 D)).other nXA.symm (j := 1) (.int .i64 y2)).other nXA.symm (j := 2) (.int .i64 y3))
            replace BL := Lib.hid (((BL.out.setCell (p := ⟨V2.heap.size, 0, none⟩) zXA (.int .i64 D)).setCell (p := ⟨V2.heap.size, 1, none⟩) zXA (.int .i64 y2)).setCell (p := ⟨V2.heap.size, 2, none⟩) zXA (.int .i64 y3))
            generalize ((V4.setCell ⟨V2.heap.size, 0, none⟩ (.int .i64 D)).setCell ⟨V2.heap.size, 1, none⟩ (.int .i64 y2)).setCell ⟨V2.heap.size, 2, none⟩ (.int .i64 y3) = V5 at *
            clear y0
            have y0 : V5.cell? ⟨w.heap.size, 0, none⟩ = some (.slice a l.at_.length cap) := cellB u0 BL.out
            clear y1
            have y1 : V5.cell? ⟨w.heap.size, 1, none⟩ = some (.slice a' l.edges.length cap') := cellB u1 BL.out
            refine hK.out _ _ (fun _ => ⟨y0, y1⟩) (fun _ => ?_)
            clear hK K
            try simp only [Act.put]
            refine wpAnyT_ready [14] (by kernel_rfl) (by simp) ?_
            refine AllReadyT.cons rfl (fun K hK => ?_) AllReadyT.nil
            have a0 := XB.out.cell 0
            have az0 := XB.out.frozen 0
            have a1 := XB.out.cell 1
            have az1 := XB.out.frozen 1
            have a2 := XB.out.cell 2
            have az2 := XB.out.frozen 2
            have al := XB.out.lt
            simp at a0 a1 a2
            go_simp
            clear al a0 az0 a1 az1 a2 az2
            have hU := (((XB.out.set (j := 0) (.int .i64 D)).set (j := 1) (.int .i64 z2)).set (j := 2) (.int .i64 z3))
            simp only [List.setIfInBounds_toArray, List.set_cons_zero, List.set_cons_succ] at hU
            replace XB := Lib.hid hU
            clear hU
            replace XA := Lib.hid (((XA.out.other nXA (j := 0) (.int .i64 D)).other nXA (j := 1) (.int .i64 z2)).other nXA (j := 2) (.int .i64 z3))
            replace BL := Lib.hid (((BL.out.setCell (p := ⟨V3.heap.size, 0, none⟩) zXB (.int .i64 D)).setCell (p := ⟨V3.heap.size, 1, none⟩) zXB (.int .i64 z2)).setCell (p := ⟨V3.heap.size, 2, none⟩) zXB (.int .i64 z3))
            generalize ((V5.setCell ⟨V3.heap.size, 0, none⟩ (.int .i64 D)).setCell ⟨V3.heap.size, 1, none⟩ (.int .i64 z2)).setCell ⟨V3.heap.size, 2, none⟩ (.int .i64 z3) = V6 at *
            clear y0
            have y0 : V6.cell? ⟨w.heap.size, 0, none⟩ = some (.slice a l.at_.length cap) := cellB u0 BL.out
            clear y1
            have y1 : V6.cell? ⟨w.heap.size, 1, none⟩ = some (.slice a' l.edges.length cap') := cellB u1 BL.out
            refine hK.out _ _ (fun _ => ⟨y0, y1⟩) (fun _ => ?_)
            clear hK K
            try simp only [Act.put]
            refine wpAnyT_chain (fuel := 1) rfl (by kernel_rfl) ?_
            simp only [List.drop_succ_cons, List.drop_zero]
            clear hS inv y0 y1
            go_wp2_with fail
            go_meet
            exact ⟨_, _, rfl, rfl, rfl, XA.out, XB.out, BL.out⟩
          refine AllReadyT.cons rfl (fun K hK => ?_) AllReadyT.nil
          have zXB : w1x.heap.size ≤ V2.heap.size := BL.out.size
          go_simp
          have hb := below1 V2 (.cells #[.int .i64 0, .int .i64 0, .int .i64 0] 27)
          have XB := Lib.hid (Blk.new V2 (.cells #[.int .i64 0, .int .i64 0, .int .i64 0] 27))
          generalize V2.alloc (.cells #[.int .i64 0, .int .i64 0, .int .i64 0] 27) = V7 at *
          replace BL := Lib.hid (bC BL.out hb)
          clear hb
          clear y0
          have y0 : V7.cell? ⟨w.heap.size, 0, none⟩ = some (.slice a l.at_.length cap) := cellB u0 BL.out
          clear y1
          have y1 : V7.cell? ⟨w.heap.size, 1, none⟩ = some (.slice a' l.edges.length cap') := cellB u1 BL.out
          refine hK.out _ _ (fun _ => ⟨y0, y1⟩) (fun _ => ?_)
          clear hK K
          try simp only [Act.put]
          refine wpAnyT_ready [11] (by kernel_rfl) (by simp) ?_
          refine AllReadyT.cons rfl (fun K hK => ?_) AllReadyT.nil
          have zXA : w1x.heap.size ≤ V7.heap.size := BL.out.size
          go_simp
          have hb := below1 V7 (.cells #[.int .i64 0, .int .i64 0, .int .i64 0] 27)
          have XA := Lib.hid (Blk.new V7 (.cells #[.int .i64 0, .int .i64 0, .int .i64 0] 27))
          generalize V7.alloc (.cells #[.int .i64 0, .int .i64 0, .int .i64 0] 27) = V8 at *
          replace BL := Lib.hid (bC BL.out hb)
          have nXB : V2.heap.size ≠ V7.heap.size := by have := XB.out.lt; omega
          replace XB := Lib.hid (XB.out.below hb)
          clear hb
          clear y0
          have y0 : V8.cell? ⟨w.heap.size, 0, none⟩ = some (.slice a l.at_.length cap) := cellB u0 BL.out
          clear y1
          have y1 : V8.cell? ⟨w.heap.size, 1, none⟩ = some (.slice a' l.edges.length cap') := cellB u1 BL.out
          refine hK.out _ _ (fun _ => ⟨y0, y1⟩) (fun _ => ?_)
          clear hK K
          try simp only [Act.put]
          refine wpAnyT_ready [13] (by kernel_rfl) (by simp) ?_
          refine AllReadyT.cons rfl (fun K hK => ?_) AllReadyT.nil
          have a0 := XA.out.cell 0
          have az0 := XA.out.frozen 0
          have a1 := XA.out.cell 1
          have az1 := XA.out.frozen 1
          have a2 := XA.out.cell 2
          have az2 := XA.out.frozen 2
          have al := XA.out.lt
          simp at a0 a1 a2
          go_simp
          clear al a0 az0 a1 az1 a2 az2
          have hU := (((XA.out.set (j := 0) (.int .i64 D)).set (j := 1) (.int .i64 y2)).set (j := 2) (.int .i64 y3))
          simp only [List.setIfInBounds_toArray, List.set_cons_zero, List.set_cons_succ] at hU
          replace XA := Lib.hid hU
          clear hU
          replace XB := Lib.hid (((XB.out.other nXB (j := 0) (.int .i64 D)).other nXB (j := 1) (.int .i64 y2)).other nXB (j := 2) (.int .i64 y3))
          replace BL := Lib.hid (((BL.out.setCell (p := ⟨V7.heap.size, 0, none⟩) zXA (.int .i64 D)).setCell (p := ⟨V7.heap.size, 1, none⟩) zXA (.int .i64 y2)).setCell (p := ⟨V7.heap.size, 2, none⟩) zXA (.int .i64 y3))
          generalize ((V8.setCell ⟨V7.heap.size, 0, none⟩ (.int .i64 D)).setCell ⟨V7.heap.size, 1, none⟩ (.int .i64 y2)).setCell ⟨V7.heap.size, 2, none⟩ (.int .i64 y3) = V9 at *
          clear y0
          have y0 : V9.cell? ⟨w.heap.size, 0, none⟩ = some (.slice a l.at_.length cap) := cellB u0 BL.out
          clear y1
          have y1 : V9.cell? ⟨w.heap.size, 1, none⟩ = some (.slice a' l.edges.length cap') := cellB u1 BL.out
          refine hK.out _ _ (fun _ => ⟨y0, y1⟩) (fun _ => ?_)
          clear hK K
          try simp only [Act.put]
          refine wpAnyT_ready [14] (by kernel_rfl) (by simp) ?_
          refine AllReadyT.cons rfl (fun K hK => ?_) AllReadyT.nil
          have a0 := XB.out.cell 0
          have az0 := XB.out.frozen 0
          have a1 := XB.out.cell 1
          have az1 := XB.out.frozen 1
          have a2 := XB.out.cell 2
          have az2 := XB.out.frozen 2
          have al := XB.out.lt
          simp at a0 a1 a2
          go_simp
          clear al a0 az0 a1 az1 a2 az2
          have hU := (((XB.out.set (j := 0) (.int .i64 D)).set (j := 1) (.int .i64 z2)).set (j := 2) (.int .i64 z3))
          simp only [List.setIfInBounds_toArray, List.set_cons_zero, List.set_cons_succ] at hU
          replace XB := Lib.hid hU
          clear hU
          replace XA := Lib.hid (((XA.out.other nXB.symm (j := 0) (.int .i64 D)).other nXB.symm (j := 1) (.int .i64 z2)).other nXB.symm (j := 2) (.int .i64 z3))
          replace BL := Lib.hid (((BL.out.setCell (p := ⟨V2.heap.size, 0, none⟩) zXB (.int .i64 D)).setCell (p := ⟨V2.heap.size, 1, none⟩) zXB (.int .i64 z2)).setCell (p := ⟨V2.heap.size, 2, none⟩) zXB (.int .i64 z3))
          generalize ((V9.setCell ⟨V2.heap.size, 0, none⟩ (.int .i64 D)).setCell ⟨V2.heap.size, 1, none⟩ (.int .i64 z2)).setCell ⟨V2.heap.size, 2, none⟩ (.int .i64 z3) = V10 at *
          clear y0
          have y0 : V10.cell? ⟨w.heap.size, 0, none⟩ = some (.slice a l.at_.length cap) := cellB u0 BL.out
          clear y1
          have y1 : V10.cell? ⟨w.heap.size, 1, none⟩ = some (.slice a' l.edges.length cap') := cellB u1 BL.out
          refine hK.out _ _ (fun _ => ⟨y0, y1⟩) (fun _ => ?_)
          clear hK K
          try simp only [Act.put]
          refine wpAnyT_chain (fuel := 1) rfl (by kernel_rfl) ?_
          simp only [List.drop_succ_cons, List.drop_zero]
          clear hS inv y0 y1
          go_wp2_with fail
          go_meet
          exact ⟨_, _, rfl, rfl, rfl, XA.out, XB.out, BL.out⟩
        refine AllReadyT.cons rfl (fun K hK => ?_) ?_
        ·
          have zXA : w1x.heap.size ≤ V1.heap.size := BL.out.size
          go_simp
          have hb := below1 V1 (.cells #[.int .i64 0, .int .i64 0, .int .i64 0] 27)
          have XA := Lib.hid (Blk.new V1 (.cells #[.int .i64 0, .int .i64 0, .int .i64 0] 27))
          generalize V1.alloc (.cells #[.int .i64 0, .int .i64 0, .int .i64 0] 27) = V11 at *
          replace BL := Lib.hid (bC BL.out hb)
          clear hb
          clear y0
          have y0 : V11.cell? ⟨w.heap.size, 0, none⟩ = some (.slice a l.at_.length cap) := cellB u0 BL.out
          clear y1
          have y1 : V11.cell? ⟨w.heap.size, 1, none⟩ = some (.slice a' l.edges.length cap') := cellB u1 BL.out
          refine hK.out _ _ (fun _ => ⟨y0, y1⟩) (fun _ => ?_)
          clear hK K
          try simp only [Act.put]
          refine wpAnyT_ready [7, 12] (by kernel_rfl) (by simp) ?_
          refine AllReadyT.cons rfl (fun K hK => ?_) ?_
          ·
            go_simp
            refine (HLB.out _ (HVB.out.below BL.out)).mono ?_
            rintro e V12 ⟨rfl, hb⟩
            replace BL := Lib.hid (bC BL.out hb)
            replace XA := Lib.hid (XA.out.below hb)
            clear hb
            clear y0
            have y0 : V12.cell? ⟨w.heap.size, 0, none⟩ = some (.slice a l.at_.length cap) := cellB u0 BL.out
            clear y1
            have y1 : V12.cell? ⟨w.heap.size, 1, none⟩ = some (.slice a' l.edges.length cap') := cellB u1 BL.out
            refine hK.out _ _ (fun _ => ⟨y0, y1⟩) (fun _ => ?_)
            clear hK K
            try simp only [Act.put]
            refine wpAnyT_ready [12] (by kernel_rfl) (by simp) ?_
            refine AllReadyT.cons rfl (fun K hK => ?_) AllReadyT.nil
            have zXB : w1x.heap.size ≤ V12.heap.size := BL.out.size
            go_simp
            have hb := below1 V12 (.cells #[.int .i64 0, .int .i64 0, .int .i64 0] 27)
            have XB := Lib.hid (Blk.new V12 (.cells #[.int .i64 0, .int .i64 0, .int .i64 0] 27))
            generalize V12.alloc (.cells #[.int .i64 0, .int .i64 0, .int .i64 0] 27) = V13 at *
            replace BL := Lib.hid (bC BL.out hb)
            have nXA : V1.heap.size ≠ V12.heap.size := by have := XA.out.lt; omega
            replace XA := Lib.hid (XA.out.below hb)
            clear hb
            clear y0
            have y0 : V13.cell? ⟨w.heap.size, 0, none⟩ = some (.slice a l.at_.length cap) := cellB u0 BL.out
            clear y1
            have y1 : V13.cell? ⟨w.heap.size, 1, none⟩ = some (.slice a' l.edges.length cap') := cellB u1 BL.out
            refine hK.out _ _ (fun _ => ⟨y0, y1⟩) (fun _ => ?_)
            clear hK K
            try simp only [Act.put]
            refine wpAnyT_ready [13] (by kernel_rfl) (by simp) ?_
            refine AllReadyT.cons rfl (fun K hK => ?_) AllReadyT.nil
            have a0 := XA.out.cell 0
            have az0 := XA.out.frozen 0
            have a1 := XA.out.cell 1
            have az1 := XA.out.frozen 1
            have a2 := XA.out.cell 2
            have az2 := XA.out.frozen 2
            have al := XA.out.lt
            simp at a0 a1 a2
            go_simp
            clear al a0 az0 a1 az1 a2 az2
            have hU := (((XA.out.set (j := 0) (.int .i64 D)).set (j := 1) (.int .i64 y2)).set (j := 2) (.int .i64 y3))
            simp only [List.setIfInBounds_toArray, List.set_cons_zero, List.set_cons_succ] at hU
            replace XA := Lib.hid hU
            clear hU
            replace XB := Lib.hid (((XB.out.other nXA.symm (j := 0) (.int .i64 D)).other nXA.symm (j := 1) (.int .i64 y2)).other nXA.symm (j := 2) (.int .i64 y3))
            replace BL := Lib.hid (((BL.out.setCell (p := ⟨V1.heap.size, 0, none⟩) zXA (.int .i64 D)).setCell (p := ⟨V1.heap.size, 1, none⟩) zXA (.int .i64 y2)).setCell (p := ⟨V1.heap.size, 2, none⟩) zXA (.int .i64 y3))
            generalize ((V13.setCell ⟨V1.heap.size, 0, none⟩ (.int .i64 D)).setCell ⟨V1.heap.size, 1, none⟩ (.int .i64 y2)).setCell ⟨V1.heap.size, 2, none⟩ (.int .i64 y3) = V14 at *
            clear y0
            have y0 : V14.cell? ⟨w.heap.size, 0, none⟩ = some (.slice a l.at_.length cap) := cellB u0 BL.out
            clear y1
            have y1 : V14.cell? ⟨w.heap.size, 1, none⟩ = some (.slice a' l.edges.length cap') := cellB u1 BL.out
            refine hK.out _ _ (fun _ => ⟨y0, y1⟩) (fun _ => ?_)
            clear hK K
            try simp only [Act.put]
            refine wpAnyT_ready [14] (by kernel_rfl) (by simp) ?_
            refine AllReadyT.cons rfl (fun K hK => ?_) AllReadyT.nil
            have a0 := XB.out.cell 0
            have az0 := XB.out.frozen 0
            have a1 := XB.out.cell 1
            have az1 := XB.out.frozen 1
            have a2 := XB.out.cell 2
            have az2 := XB.out.frozen 2
            have al := XB.out.lt
            simp at a0 a1 a2
            go_simp
            clear al a0 az0 a1 az1 a2 az2
            have hU := (((XB.out.set (j := 0) (.int .i64 D)).set (j := 1) (.int .i64 z2)).set (j := 2) (.int .i64 z3))
            simp only [List.setIfInBounds_toArray, List.set_cons_zero, List.set_cons_succ] at hU
            replace XB := Lib.hid hU
            clear hU
            replace XA := Lib.hid (((XA.out.other nXA (j := 0) (.int .i64 D)).other nXA (j := 1) (.int .i64 z2)).other nXA (j := 2) (.int .i64 z3))
            replace BL := Lib.hid (((BL.out.setCell (p := ⟨V12.heap.size, 0, none⟩) zXB (.int .i64 D)).setCell (p := ⟨V12.heap.size, 1, none⟩) zXB (.int .i64 z2)).setCell (p := ⟨V12.heap.size, 2, none⟩) zXB (.int .i64 z3))
            generalize ((V14.setCell ⟨V12.heap.size, 0, none⟩ (.int .i64 D)).setCell ⟨V12.heap.size, 1, none⟩ (.int .i64 z2)).setCell ⟨V12.heap.size, 2, none⟩ (.int .i64 z3) = V15 at *
            clear y0
            have y0 : V15.cell? ⟨w.heap.size, 0, none⟩ = some (.slice a l.at_.length cap) := cellB u0 BL.out
            clear y1
            have y1 : V15.cell? ⟨w.heap.size, 1, none⟩ = some (.slice a' l.edges.length cap') := cellB u1 BL.out
            refine hK.out _ _ (fun _ => ⟨y0, y1⟩) (fun _ => ?_)
            clear hK K
            try simp only [Act.put]
            refine wpAnyT_chain (fuel := 1) rfl (by kernel_rfl) ?_
            simp only [List.drop_succ_cons, List.drop_zero]
            clear hS inv y0 y1
            go_wp2_with fail
            go_meet
            exact ⟨_, _, rfl, rfl, rfl, XA.out, XB.out, BL.out⟩
          refine AllReadyT.cons rfl (fun K hK => ?_) AllReadyT.nil
          have zXB : w1x.heap.size ≤ V11.heap.size := BL.out.size
          go_simp
          have hb := below1 V11 (.cells #[.int .i64 0, .int .i64 0, .int .i64 0] 27)
          have XB := Lib.hid (Blk.new V11 (.cells #[.int .i64 0, .int .i64 0, .int .i64 0] 27))
          generalize V11.alloc (.cells #[.int .i64 0, .int .i64 0, .int .i64 0] 27) = V16 at *
          replace BL := Lib.hid (bC BL.out hb)
          have nXA : V1.heap.size ≠ V11.heap.size := by have := XA.out.lt; omega
          replace XA := Lib.hid (XA.out.below hb)
          clear hb
          clear y0
          have y0 : V16.cell? ⟨w.heap.size, 0, none⟩ = some (.slice a l.at_.length cap) := cellB u0 BL.out
          clear y1
          have y1 : V16.cell? ⟨w.heap.size, 1, none⟩ = some (.slice a' l.edges.length cap') := cellB u1 BL.out
          refine hK.out _ _ (fun _ => ⟨y0, y1⟩) (fun _ => ?_)
          clear hK K
          try simp only [Act.put]
          refine wpAnyT_ready [7] (by kernel_rfl) (by simp) ?_
          refine AllReadyT.cons rfl (fun K hK => ?_) AllReadyT.nil
          go_simp
          refine (HLB.out _ (HVB.out.below BL.out)).mono ?_
          rintro e V17 ⟨rfl, hb⟩
          replace BL := Lib.hid (bC BL.out hb)
          replace XA := Lib.hid (XA.out.below hb)
          replace XB := Lib.hid (XB.out.below hb)
          clear hb
          clear y0
          have y0 : V17.cell? ⟨w.heap.size, 0, none⟩ = some (.slice a l.at_.length cap) := cellB u0 BL.out
          clear y1
          have y1 : V17.cell? ⟨w.heap.size, 1, none⟩ = some (.slice a' l.edges.length cap') := cellB u1 BL.out
          refine hK.out _ _ (fun _ => ⟨y0, y1⟩) (fun _ => ?_)
          clear hK K
          try simp only [Act.put]
          refine wpAnyT_ready [13] (by kernel_rfl) (by simp) ?_
          refine AllReadyT.cons rfl (fun K hK => ?_) AllReadyT.nil
          have a0 := XA.out.cell 0
          have az0 := XA.out.frozen 0
          have a1 := XA.out.cell 1
          have az1 := XA.out.frozen 1
          have a2 := XA.out.cell 2
          have az2 := XA.out.frozen 2
          have al := XA.out.lt
          simp at a0 a1 a2
          go_simp
          clear al a0 az0 a1 az1 a2 az2
          have hU := (((XA.out.set (j := 0) (.int .i64 D)).set (j := 1) (.int .i64 y2)).set (j := 2) (.int .i64 y3))
          simp only [List.setIfInBounds_toArray, List.set_cons_zero, List.set_cons_succ] at hU
          replace XA := Lib.hid hU
          clear hU
          replace XB := Lib.hid (((XB.out.other nXA.symm (j := 0) (.int .i64 D)).other nXA.symm (j := 1) (.int .i64 y2)).other nXA.symm (j := 2) (.int .i64 y3))
          replace BL := Lib.hid (((BL.out.setCell (p := ⟨V1.heap.size, 0, none⟩) zXA (.int .i64 D)).setCell (p := ⟨V1.heap.size, 1, none⟩) zXA (.int .i64 y2)).setCell (p := ⟨V1.heap.size, 2, none⟩) zXA (.int .i64 y3))
          generalize ((V17.setCell ⟨V1.heap.size, 0, none⟩ (.int .i64 D)).setCell ⟨V1.heap.size, 1, none⟩ (.int .i64 y2)).setCell ⟨V1.heap.size, 2, none⟩ (.int .i64 y3) = V18 at *
          clear y0
          have y0 : V18.cell? ⟨w.heap.size, 0, none⟩ = some (.slice a l.at_.length cap) := cellB u0 BL.out
          clear y1
          have y1 : V18.cell? ⟨w.heap.size, 1, none⟩ = some (.slice a' l.edges.length cap') := cellB u1 BL.out
          refine hK.out _ _ (fun _ => ⟨y0, y1⟩) (fun _ => ?_)
          clear hK K
          try simp only [Act.put]
          refine wpAnyT_ready [14] (by kernel_rfl) (by simp) ?_
          refine AllReadyT.cons rfl (fun K hK => ?_) AllReadyT.nil
          have a0 := XB.out.cell 0
          have az0 := XB.out.frozen 0
          have a1 := XB.out.cell 1
          have az1 := XB.out.frozen 1
          have a2 := XB.out.cell 2
          have az2 := XB.out.frozen 2
          have al := XB.out.lt
          simp at a0 a1 a2
          go_simp
          clear al a0 az0 a1 az1 a2 az2
          have hU := (((XB.out.set (j := 0) (.int .i64 D)).set (j := 1) (.int .i64 z2)).set (j := 2) (.int .i64 z3))
          simp only [List.setIfInBounds_toArray, List.set_cons_zero, List.set_cons_succ] at hU
          replace XB := Lib.hid hU
          clear hU
          replace XA := Lib.hid (((XA.out.other nXA (j := 0) (.int .i64 D)).other nXA (j := 1) (.int .i64 z2)).other nXA (j := 2) (.int .i64 z3))
          replace BL := Lib.hid (((BL.out.setCell (p := ⟨V11.heap.size, 0, none⟩) zXB (.int .i64 D)).setCell (p := ⟨V11.heap.size, 1, none⟩) zXB (.int .i64 z2)).setCell (p := ⟨V11.heap.size, 2, none⟩) zXB (.int .i64 z3))
          generalize ((V18.setCell ⟨V11.heap.size, 0, none⟩ (.int .i64 D)).setCell ⟨V11.heap.size, 1, none⟩ (.int .i64 z2)).setCell ⟨V11.heap.size, 2, none⟩ (.int .i64 z3) = V19 at *
          clear y0
          have y0 : V19.cell? ⟨w.heap.size, 0, none⟩ = some (.slice a l.at_.length cap) := cellB u0 BL.out
          clear y1
          have y1 : V19.cell? ⟨w.heap.size, 1, none⟩ = some (.slice a' l.edges.length cap') := cellB u1 BL.out
          refine hK.out _ _ (fun _ => ⟨y0, y1⟩) (fun _ => ?_)
          clear hK K
          try simp only [Act.put]
          refine wpAnyT_chain (fuel := 1) rfl (by kernel_rfl) ?_
          simp only [List.drop_succ_cons, List.drop_zero]
          clear hS inv y0 y1
          go_wp2_with fail
          go_meet
          exact ⟨_, _, rfl, rfl, rfl, XA.out, XB.out, BL.out⟩
        refine AllReadyT.cons rfl (fun K hK => ?_) AllReadyT.nil
        have zXB : w1x.heap.size ≤ V1.heap.size := BL.out.size
        go_simp
        have hb := below1 V1 (.cells #[.int .i64 0, .int .i64 0, .int .i64 0] 27)
        have XB := Lib.hid (Blk.new V1 (.cells #[.int .i64 0, .int .i64 0, .int .i64 0] 27))
        generalize V1.alloc (.cells #[.int .i64 0, .int .i64 0, .int .i64 0] 27) = V20 at *
        replace BL := Lib.hid (bC BL.out hb)
        clear hb
        clear y0
        have y0 : V20.cell? ⟨w.heap.size, 0, none⟩ = some (.slice a l.at_.length cap) := cellB u0 BL.out
        clear y1
        have y1 : V20.cell? ⟨w.heap.size, 1, none⟩ = some (.slice a' l.edges.length cap') := cellB u1 BL.out
        refine hK.out _ _ (fun _ => ⟨y0, y1⟩) (fun _ => ?_)
        clear hK K
        try simp only [Act.put]
        refine wpAnyT_ready [7, 11] (by kernel_rfl) (by simp) ?_
        refine AllReadyT.cons rfl (fun K hK => ?_) ?_
        ·
          go_simp
          refine (HLB.out _ (HVB.out.below BL.out)).mono ?_
          rintro e V21 ⟨rfl, hb⟩
          replace BL := Lib.hid (bC BL.out hb)
          replace XB := Lib.hid (XB.out.below hb)
          clear hb
          clear y0
          have y0 : V21.cell? ⟨w.heap.size, 0, none⟩ = some (.slice a l.at_.length cap) := cellB u0 BL.out
          clear y1
          have y1 : V21.cell? ⟨w.heap.size, 1, none⟩ = some (.slice a' l.edges.length cap') := cellB u1 BL.out
          refine hK.out _ _ (fun _ => ⟨y0, y1⟩) (fun _ => ?_)
          clear hK K
          try simp only [Act.put]
          refine wpAnyT_ready [11] (by kernel_rfl) (by simp) ?_
          refine AllReadyT.cons rfl (fun K hK => ?_) AllReadyT.nil
          have zXA : w1x.heap.size ≤ V21.heap.size := BL.out.size
          go_simp
          have hb := below1 V21 (.cells #[.int .i64 0, .int .i64 0, .int .i64 0] 27)
          have XA := Lib.hid (Blk.new V21 (.cells #[.int .i64 0, .int .i64 0, .int .i64 0] 27))
          generalize V21.alloc (.cells #[.int .i64 0, .int .i64 0, .int .i64 0] 27) = V22 at *
          replace BL := Lib.hid (bC BL.out hb)
          have nXB : V1.heap.size ≠ V21.heap.size := by have := XB.out.lt; omega
          replace XB := Lib.hid (XB.out.below hb)
          clear hb
          clear y0
          have y0 : V22.cell? ⟨w.heap.size, 0, none⟩ = some (.slice a l.at_.length cap) := cellB u0 BL.out
          clear y1
          have y1 : V22.cell? ⟨w.heap.size, 1, none⟩ = some (.slice a' l.edges.length cap') := cellB u1 BL.out
          refine hK.out _ _ (fun _ => ⟨y0, y1⟩) (fun _ => ?_)
          clear hK K
          try simp only [Act.put]
          refine wpAnyT_ready [13] (by kernel_rfl) (by simp) ?_
          refine AllReadyT.cons rfl (fun K hK => ?_) AllReadyT.nil
          have a0 := XA.out.cell 0
          have az0 := XA.out.frozen 0
          have a1 := XA.out.cell 1
          have az1 := XA.out.frozen 1
          have a2 := XA.out.cell 2
          have az2 := XA.out.frozen 2
          have al := XA.out.lt
          simp at a0 a1 a2
          go_simp
          clear al a0 az0 a1 az1 a2 az2
          have hU := (((XA.out.set (j := 0) (.int .i64 D)).set (j := 1) (.int .i64 y2)).set (j := 2) (.int .i64 y3))
          simp only [List.setIfInBounds_toArray, List.set_cons_zero, List.set_cons_succ] at hU
          replace XA := Lib.hid hU
          clear hU
          replace XB := Lib.hid (((XB.out.other nXB (j := 0) (.int .i64 D)).other nXB (j := 1) (.int .i64 y2)).other nXB (j := 2) (.int .i64 y3))
          replace BL := Lib.hid (((BL.out.setCell (p := ⟨V21.heap.size, 0, none⟩) zXA (.int .i64 D)).setCell (p := ⟨V21.heap.size, 1, none⟩) zXA (.int .i64 y2)).setCell (p := ⟨V21.heap.size, 2, none⟩) zXA (.int .i64 y3))
          generalize ((V22.setCell ⟨V21.heap.size, 0, none⟩ (.int .i64 D)).setCell ⟨V21.heap.size, 1, none⟩ (.int .i64 y2)).setCell ⟨V21.heap.size, 2, none⟩ (.int .i64 y3) = V23 at *
          clear y0
          have y0 : V23.cell? ⟨w.heap.size, 0, none⟩ = some (.slice a l.at_.length cap) := cellB u0 BL.out
          clear y1
          have y1 : V23.cell? ⟨w.heap.size, 1, none⟩ = some (.slice a' l.edges.length cap') := cellB u1 BL.out
          refine hK.out _ _ (fun _ => ⟨y0, y1⟩) (fun _ => ?_)
          clear hK K
          try simp only [Act.put]
          refine wpAnyT_ready [14] (by kernel_rfl) (by simp) ?_
          refine AllReadyT.cons rfl (fun K hK => ?_) AllReadyT.nil
          have a0 := XB.out.cell 0
          have az0 := XB.out.frozen 0
          have a1 := XB.out.cell 1
          have az1 := XB.out.frozen 1
          have a2 := XB.out.cell 2
          have az2 := XB.out.frozen 2
          have al := XB.out.lt
          simp at a0 a1 a2
          go_simp
          clear al a0 az0 a1 az1 a2 az2
          have hU := (((XB.out.set (j := 0) (.int .i64 D)).set (j := 1) (.int .i64 z2)).set (j := 2) (.int .i64 z3))
          simp only [List.setIfInBounds_toArray, List.set_cons_zero, List.set_cons_succ] at hU
          replace XB := Lib.hid hU
          clear hU
          replace XA := Lib.hid (((XA.out.other nXB.symm (j := 0) (.int .i64 D)).other nXB.symm (j := 1) (.int .i64 z2)).other nXB.symm (j := 2) (.int .i64 z3))
          replace BL := Lib.hid (((BL.out.setCell (p := ⟨V1.heap.size, 0, none⟩) zXB (.int .i64 D)).setCell (p := ⟨V1.heap.size, 1, none⟩) zXB (.int .i64 z2)).setCell (p := ⟨V1.heap.size, 2, none⟩) zXB (.int .i64 z3))
          generalize ((V23.setCell ⟨V1.heap.size, 0, none⟩ (.int .i64 D)).setCell ⟨V1.heap.size, 1, none⟩ (.int .i64 z2)).setCell ⟨V1.heap.size, 2, none⟩ (.int .i64 z3) = V24 at *
          clear y0
          have y0 : V24.cell? ⟨w.heap.size, 0, none⟩ = some (.slice a l.at_.length cap) := cellB u0 BL.out
          clear y1
          have y1 : V24.cell? ⟨w.heap.size, 1, none⟩ = some (.slice a' l.edges.length cap') := cellB u1 BL.out
          refine hK.out _ _ (fun _ => ⟨y0, y1⟩) (fun _ => ?_)
          clear hK K
          try simp only [Act.put]
          refine wpAnyT_chain (fuel := 1) rfl (by kernel_rfl) ?_
          simp only [List.drop_succ_cons, List.drop_zero]
          clear hS inv y0 y1
          go_wp2_with fail
          go_meet
          exact ⟨_, _, rfl, rfl, rfl, XA.out, XB.out, BL.out⟩
        refine AllReadyT.cons rfl (fun K hK => ?_) AllReadyT.nil
        have zXA : w1x.heap.size ≤ V20.heap.size := BL.out.size
        go_simp
        have hb := below1 V20 (.cells #[.int .i64 0, .int .i64 0, .int .i64 0] 27)
        have XA := Lib.hid (Blk.new V20 (.cells #[.int .i64 0, .int .i64 0, .int .i64 0] 27))
        generalize V20.alloc (.cells #[.int .i64 0, .int .i64 0, .int .i64 0] 27) = V25 at *
        replace BL := Lib.hid (bC BL.out hb)
        have nXB : V1.heap.size ≠ V20.heap.size := by have := XB.out.lt; omega
        replace XB := Lib.hid (XB.out.below hb)
        clear hb
        clear y0
        have y0 : V25.cell? ⟨w.heap.size, 0, none⟩ = some (.slice a l.at_.length cap) := cellB u0 BL.out
        clear y1
        have y1 : V25.cell? ⟨w.heap.size, 1, none⟩ = some (.slice a' l.edges.length cap') := cellB u1 BL.out
        refine hK.out _ _ (fun _ => ⟨y0, y1⟩) (fun _ => ?_)
        clear hK K
        try simp only [Act.put]
        refine wpAnyT_ready [7] (by kernel_rfl) (by simp) ?_
        refine AllReadyT.cons rfl (fun K hK => ?_) AllReadyT.nil
        go_simp
        refine (HLB.out _ (HVB.out.below BL.out)).mono ?_
        rintro e V26 ⟨rfl, hb⟩
        replace BL := Lib.hid (bC BL.out hb)
        replace XB := Lib.hid (XB.out.below hb)
        replace XA := Lib.hid (XA.out.below hb)
        clear hb
        clear y0
        have y0 : V26.cell? ⟨w.heap.size, 0, none⟩ = some (.slice a l.at_.length cap) := cellB u0 BL.out
        clear y1
        have y1 : V26.cell? ⟨w.heap.size, 1, none⟩ = some (.slice a' l.edges.length cap') := cellB u1 BL.out
        refine hK.out _ _ (fun _ => ⟨y0, y1⟩) (fun _ => ?_)
        clear hK K
        try simp only [Act.put]
        refine wpAnyT_ready [13] (by kernel_rfl) (by simp) ?_
        refine AllReadyT.cons rfl (fun K hK => ?_) AllReadyT.nil
        have a0 := XA.out.cell 0
        have az0 := XA.out.frozen 0
        have a1 := XA.out.cell 1
        have az1 := XA.out.frozen 1
        have a2 := XA.out.cell 2
        have az2 := XA.out.frozen 2
        have al := XA.out.lt
        simp at a0 a1 a2
        go_simp
        clear al a0 az0 a1 az1 a2 az2
        have hU := (((XA.out.set (j := 0) (.int .i64 D)).set (j := 1) (.int .i64 y2)).set (j := 2) (.int .i64 y3))
        simp only [List.setIfInBounds_toArray, List.set_cons_zero, List.set_cons_succ] at hU
        replace XA := Lib.hid hU
        clear hU
        replace XB := Lib.hid (((XB.out.other nXB (j := 0) (.int .i64 D)).other nXB (j := 1) (.int .i64 y2)).other nXB (j := 2) (.int .i64 y3))
        replace BL := Lib.hid (((BL.out.setCell (p := ⟨V20.heap.size, 0, none⟩) zXA (.int .i64 D)).setCell (p := ⟨V20.heap.size, 1, none⟩) zXA (.int .i64 y2)).setCell (p := ⟨V20.heap.size, 2, none⟩) zXA (.int .i64 y3))
        generalize ((V26.setCell ⟨V20.heap.size, 0, none⟩ (.int .i64 D)).setCell ⟨V20.heap.size, 1, none⟩ (.int .i64 y2)).setCell ⟨V20.heap.size, 2, none⟩ (.int .i64 y3) = V27 at *
        clear y0
        have y0 : V27.cell? ⟨w.heap.size, 0, none⟩ = some (.slice a l.at_.length cap) := cellB u0 BL.out
        clear y1
        have y1 : V27.cell? ⟨w.heap.size, 1, none⟩ = some (.slice a' l.edges.length cap') := cellB u1 BL.out
        refine hK.out _ _ (fun _ => ⟨y0, y1⟩) (fun _ => ?_)
        clear hK K
        try simp only [Act.put]
        refine wpAnyT_ready [14] (by kernel_rfl) (by simp) ?_
        refine AllReadyT.cons rfl (fun K hK => ?_) AllReadyT.nil
        have a0 := XB.out.cell 0
        have az0 := XB.out.frozen 0
        have a1 := XB.out.cell 1
        have az1 := XB.out.frozen 1
        have a2 := XB.out.cell 2
        have az2 := XB.out.frozen 2
        have al := XB.out.lt
        simp at a0 a1 a2
        go_simp
        clear al a0 az0 a1 az1 a2 az2
        have hU := (((XB.out.set (j := 0) (.int .i64 D)).set (j := 1) (.int .i64 z2)).set (j := 2) (.int .i64 z3))
        simp only [List.setIfInBounds_toArray, List.set_cons_zero, List.set_cons_succ] at hU
        replace XB := Lib.hid hU
        clear hU
        replace XA := Lib.hid (((XA.out.other nXB.symm (j := 0) (.int .i64 D)).other nXB.symm (j := 1) (.int .i64 z2)).other nXB.symm (j := 2) (.int .i64 z3))
        replace BL := Lib.hid (((BL.out.setCell (p := ⟨V1.heap.size, 0, none⟩) zXB (.int .i64 D)).setCell (p := ⟨V1.heap.size, 1, none⟩) zXB (.int .i64 z2)).setCell (p := ⟨V1.heap.size, 2, none⟩) zXB (.int .i64 z3))
        generalize ((V27.setCell ⟨V1.heap.size, 0, none⟩ (.int .i64 D)).setCell ⟨V1.heap.size, 1, none⟩ (.int .i64 z2)).setCell ⟨V1.heap.size, 2, none⟩ (.int .i64 z3) = V28 at *
        clear y0
        have y0 : V28.cell? ⟨w.heap.size, 0, none⟩ = some (.slice a l.at_.length cap) := cellB u0 BL.out
        clear y1
        have y1 : V28.cell? ⟨w.heap.size, 1, none⟩ = some (.slice a' l.edges.length cap') := cellB u1 BL.out
        refine hK.out _ _ (fun _ => ⟨y0, y1⟩) (fun _ => ?_)
        clear hK K
        try simp only [Act.put]
        refine wpAnyT_chain (fuel := 1) rfl (by kernel_rfl) ?_
        simp only [List.drop_succ_cons, List.drop_zero]
        clear hS inv y0 y1
        go_wp2_with fail
        go_meet
        exact ⟨_, _, rfl, rfl, rfl, XA.out, XB.out, BL.out⟩
      refine AllReadyT.cons rfl (fun K hK => ?_) ?_
      ·
        have zXA : w1x.heap.size ≤ V0.heap.size := BL.out.size
        go_simp
        have hb := below1 V0 (.cells #[.int .i64 0, .int .i64 0, .int .i64 0] 27)
        have XA := Lib.hid (Blk.new V0 (.cells #[.int .i64 0, .int .i64 0, .int .i64 0] 27))
        generalize V0.alloc (.cells #[.int .i64 0, .int .i64 0, .int .i64 0] 27) = V29 at *
        replace BL := Lib.hid (bC BL.out hb)
        clear hb
        clear y0
        have y0 : V29.cell? ⟨w.heap.size, 0, none⟩ = some (.slice a l.at_.length cap) := cellB u0 BL.out
        clear y1
        have y1 : V29.cell? ⟨w.heap.size, 1, none⟩ = some (.slice a' l.edges.length cap') := cellB u1 BL.out
        refine hK.out _ _ (fun _ => ⟨y0, y1⟩) (fun _ => ?_)
        clear hK K
        try simp only [Act.put]
        refine wpAnyT_ready [3, 12] (by kernel_rfl) (by simp) ?_
        refine AllReadyT.cons rfl (fun K hK => ?_) ?_
        ·
          go_simp
          refine (HLA.out _ (HVB.out.below BL.out)).mono ?_
          rintro e V30 ⟨rfl, hb⟩
          replace BL := Lib.hid (bC BL.out hb)
          replace XA := Lib.hid (XA.out.below hb)
          clear hb
          clear y0
          have y0 : V30.cell? ⟨w.heap.size, 0, none⟩ = some (.slice a l.at_.length cap) := cellB u0 BL.out
          clear y1
          have y1 : V30.cell? ⟨w.heap.size, 1, none⟩ = some (.slice a' l.edges.length cap') := cellB u1 BL.out
          refine hK.out _ _ (fun _ => ⟨y0, y1⟩) (fun _ => ?_)
          clear hK K
          try simp only [Act.put]
          refine wpAnyT_ready [7, 12] (by kernel_rfl) (by simp) ?_
          refine AllReadyT.cons rfl (fun K hK => ?_) ?_
          ·
            go_simp
            refine (HLB.out _ (HVB.out.below BL.out)).mono ?_
            rintro e V31 ⟨rfl, hb⟩
            replace BL := Lib.hid (bC BL.out hb)
            replace XA := Lib.hid (XA.out.below hb)
            clear hb
            clear y0
            have y0 : V31.cell? ⟨w.heap.size, 0, none⟩ = some (.slice a l.at_.length cap) := cellB u0 BL.out
            clear y1
            have y1 : V31.cell? ⟨w.heap.size, 1, none⟩ = some (.slice a' l.edges.length cap') := cellB u1 BL.out
            refine hK.out _ _ (fun _ => ⟨y0, y1⟩) (fun _ => ?_)
            clear hK K
            try simp only [Act.put]
            refine wpAnyT_ready [12] (by kernel_rfl) (by simp) ?_
            refine AllReadyT.cons rfl (fun K hK => ?_) AllReadyT.nil
            have zXB : w1x.heap.size ≤ V31.heap.size := BL.out.size
            go_simp
            have hb := below1 V31 (.cells #[.int .i64 0, .int .i64 0, .int .i64 0] 27)
            have XB := Lib.hid (Blk.new V31 (.cells #[.int .i64 0, .int .i64 0, .int .i64 0] 27))
            generalize V31.alloc (.cells #[.int .i64 0, .int .i64 0, .int .i64 0] 27) = V32 at *
            replace BL := Lib.hid (bC BL.out hb)
            have nXA : V0.heap.size ≠ V31.heap.size := by have := XA.out.lt; omega
            replace XA := Lib.hid (XA.out.below hb)
            clear hb
            clear y0
            have y0 : V32.cell? ⟨w.heap.size, 0, none⟩ = some (.slice a l.at_.length cap) := cellB u0 BL.out
            clear y1
            have y1 : V32.cell? ⟨w.heap.size, 1, none⟩ = some (.slice a' l.edges.length cap') := cellB u1 BL.out
            refine hK.out _ _ (fun _ => ⟨y0, y1⟩) (fun _ => ?_)
            clear hK K
            try simp only [Act.put]
            refine wpAnyT_ready [13] (by kernel_rfl) (by simp) ?_
            refine AllReadyT.cons rfl (fun K hK => ?_) AllReadyT.nil
            have a0 := XA.out.cell 0
            have az0 := XA.out.frozen 0
            have a1 := XA.out.cell 1
            have az1 := XA.out.frozen 1
            have a2 := XA.out.cell 2
            have az2 := XA.out.frozen 2
            have al := XA.out.lt
            simp at a0 a1 a2
            go_simp
            clear al a0 az0 a1 az1 a2 az2
            have hU := (((XA.out.set (j := 0) (.int .i64 D)).set (j := 1) (.int .i64 y2)).set (j := 2) (.int .i64 y3))
            simp only [List.setIfInBounds_toArray, List.set_cons_zero, List.set_cons_succ] at hU
            replace XA := Lib.hid hU
            clear hU
            replace XB := Lib.hid (((XB.out.other nXA.symm (j := 0) (.int .i64 D)).other nXA.symm (j := 1) (.int .i64 y2)).other nXA.symm (j := 2) (.int .i64 y3))
            replace BL := Lib.hid (((BL.out.setCell (p := ⟨V0.heap.size, 0, none⟩) zXA (.int .i64 D)).setCell (p := ⟨V0.heap.size, 1, none⟩) zXA (.int .i64 y2)).setCell (p := ⟨V0.heap.size, 2, none⟩) zXA (.int .i64 y3))
            generalize ((V32.setCell ⟨V0.heap.size, 0, none⟩ (.int .i64 D)).setCell ⟨V0.heap.size, 1, none⟩ (.int .i64 y2)).setCell ⟨V0.heap.size, 2, none⟩ (.int .i64 y3) = V33 at *
            clear y0
            have y0 : V33.cell? ⟨w.heap.size, 0, none⟩ = some (.slice a l.at_.length cap) := cellB u0 BL.out
            clear y1
            have y1 : V33.cell? ⟨w.heap.size, 1, none⟩ = some (.slice a' l.edges.length cap') := cellB u1 BL.out
            refine hK.out _ _ (fun _ => ⟨y0, y1⟩) (fun _ => ?_)
            clear hK K
            try simp only [Act.put]
            refine wpAnyT_ready [14] (by kernel_rfl) (by simp) ?_
            refine AllReadyT.cons rfl (fun K hK => ?_) AllReadyT.nil
            have a0 := XB.out.cell 0
            have az0 := XB.out.frozen 0
            have a1 := XB.out.cell 1
            have az1 := XB.out.frozen 1
            have a2 := XB.out.cell 2
            have az2 := XB.out.frozen 2
            have al := XB.out.lt
            simp at a0 a1 a2
            go_simp
            clear al a0 az0 a1 az1 a2 az2
            have hU := (((XB.out.set (j := 0) (.int .i64 D)).set (j := 1) (.int .i64 z2)).set (j := 2) (.int .i64 z3))
            simp only [List.setIfInBounds_toArray, List.set_cons_zero, List.set_cons_succ] at hU
            replace XB := Lib.hid hU
            clear hU
            replace XA := Lib.hid (((XA.out.other nXA (j := 0) (.int .i64 D)).other nXA (j := 1) (.int .i64 z2)).other nXA (j := 2) (.int .i64 z3))
            replace BL := Lib.hid (((BL.out.setCell (p := ⟨V31.heap.size, 0, none⟩) zXB (.int .i64 D)).setCell (p := ⟨V31.heap.size, 1, none⟩) zXB (.int .i64 z2)).setCell (p := ⟨V31.heap.size, 2, none⟩) zXB (.int .i64 z3))
            generalize ((V33.setCell ⟨V31.heap.size, 0, none⟩ (.int .i64 D)).setCell ⟨V31.heap.size, 1, none⟩ (.int .i64 z2)).setCell ⟨V31.heap.size, 2, none⟩ (.int .i64 z3) = V34 at *
            clear y0
            have y0 : V34.cell? ⟨w.heap.size, 0, none⟩ = some (.slice a l.at_.length cap) := cellB u0 BL.out
            clear y1
            have y1 : V34.cell? ⟨w.heap.size, 1, none⟩ = some (.slice a' l.edges.length cap') := cellB u1 BL.out
            refine hK.out _ _ (fun _ => ⟨y0, y1⟩) (fun _ => ?_)
            clear hK K
            try simp only [Act.put]
            refine wpAnyT_chain (fuel := 1) rfl (by kernel_rfl) ?_
            simp only [List.drop_succ_cons, List.drop_zero]
            clear hS inv y0 y1
            go_wp2_with fail
            go_meet
            exact ⟨_, _, rfl, rfl, rfl, XA.out, XB.out, BL.out⟩
          refine AllReadyT.cons rfl (fun K hK => ?_) AllReadyT.nil
          have zXB : w1x.heap.size ≤ V30.heap.size := BL.out.size
          go_simp
          have hb := below1 V30 (.cells #[.int .i64 0, .int .i64 0, .int .i64 0] 27)
          have XB := Lib.hid (Blk.new V30 (.cells #[.int .i64 0, .int .i64 0, .int .i64 0] 27))
          generalize V30.alloc (.cells #[.int .i64 0, .int .i64 0, .int .i64 0] 27) = V35 at *
          replace BL := Lib.hid (bC BL.out hb)
          have nXA : V0.heap.size ≠ V30.heap.size := by have := XA.out.lt; omega
          replace XA := Lib.hid (XA.out.below hb)
          clear hb
          clear y0
          have y0 : V35.cell? ⟨w.heap.size, 0, none⟩ = some (.slice a l.at_.length cap) := cellB u0 BL.out
          clear y1
          have y1 : V35.cell? ⟨w.heap.size, 1, none⟩ = some (.slice a' l.edges.length cap') := cellB u1 BL.out
          refine hK.out _ _ (fun _ => ⟨y0, y1⟩) (fun _ => ?_)
          clear hK K
          try simp only [Act.put]
          refine wpAnyT_ready [7] (by kernel_rfl) (by simp) ?_
          refine AllReadyT.cons rfl (fun K hK => ?_) AllReadyT.nil
          go_simp
          refine (HLB.out _ (HVB.out.below BL.out)).mono ?_
          rintro e V36 ⟨rfl, hb⟩
          replace BL := Lib.hid (bC BL.out hb)
          replace XA := Lib.hid (XA.out.below hb)
          replace XB := Lib.hid (XB.out.below hb)
          clear hb
          clear y0
          have y0 : V36.cell? ⟨w.heap.size, 0, none⟩ = some (.slice a l.at_.length cap) := cellB u0 BL.out
          clear y1
          have y1 : V36.cell? ⟨w.heap.size, 1, none⟩ = some (.slice a' l.edges.length cap') := cellB u1 BL.out
          refine hK.out _ _ (fun _ => ⟨y0, y1⟩) (fun _ => ?_)
          clear hK K
          try simp only [Act.put]
          refine wpAnyT_ready [13] (by kernel_rfl) (by simp) ?_
          refine AllReadyT.cons rfl (fun K hK => ?_) AllReadyT.nil
          have a0 := XA.out.cell 0
          have az0 := XA.out.frozen 0
          have a1 := XA.out.cell 1
          have az1 := XA.out.frozen 1
          have a2 := XA.out.cell 2
          have az2 := XA.out.frozen 2
          have al := XA.out.lt
          simp at a0 a1 a2
          go_simp
          clear al a0 az0 a1 az1 a2 az2
          have hU := (((XA.out.set (j := 0) (.int .i64 D)).set (j := 1) (.int .i64 y2)).set (j := 2) (.int .i64 y3))
          simp only [List.setIfInBounds_toArray, List.set_cons_zero, List.set_cons_succ] at hU
          replace XA := Lib.hid hU
          clear hU
          replace XB := Lib.hid (((XB.out.other nXA.symm (j := 0) (.int .i64 D)).other nXA.symm (j := 1) (.int .i64 y2)).other nXA.symm (j := 2) (.int .i64 y3))
          replace BL := Lib.hid (((BL.out.setCell (p := ⟨V0.heap.size, 0, none⟩) zXA (.int .i64 D)).setCell (p := ⟨V0.heap.size, 1, none⟩) zXA (.int .i64 y2)).setCell (p := ⟨V0.heap.size, 2, none⟩) zXA (.int .i64 y3))
          generalize ((V36.setCell ⟨V0.heap.size, 0, none⟩ (.int .i64 D)).setCell ⟨V0.heap.size, 1, none⟩ (.int .i64 y2)).setCell ⟨V0.heap.size, 2, none⟩ (.int .i64 y3) = V37 at *
          clear y0
          have y0 : V37.cell? ⟨w.heap.size, 0, none⟩ = some (.slice a l.at_.length cap) := cellB u0 BL.out
          clear y1
          have y1 : V37.cell? ⟨w.heap.size, 1, none⟩ = some (.slice a' l.edges.length cap') := cellB u1 BL.out
          refine hK.out _ _ (fun _ => ⟨y0, y1⟩) (fun _ => ?_)
          clear hK K
          try simp only [Act.put]
          refine wpAnyT_ready [14] (by kernel_rfl) (by simp) ?_
          refine AllReadyT.cons rfl (fun K hK => ?_) AllReadyT.nil
          have a0 := XB.out.cell 0
          have az0 := XB.out.frozen 0
          have a1 := XB.out.cell 1
          have az1 := XB.out.frozen 1
          have a2 := XB.out.cell 2
          have az2 := XB.out.frozen 2
          have al := XB.out.lt
          simp at a0 a1 a2
          go_simp
          clear al a0 az0 a1 az1 a2 az2
          have hU := (((XB.out.set (j := 0) (.int .i64 D)).set (j := 1) (.int .i64 z2)).set (j := 2) (.int .i64 z3))
          simp only [List.setIfInBounds_toArray, List.set_cons_zero, List.set_cons_succ] at hU
          replace XB := Lib.hid hU
          clear hU
          replace XA := Lib.hid (((XA.out.other nXA (j := 0) (.int .i64 D)).other nXA (j := 1) (.int .i64 z2)).other nXA (j := 2) (.int .i64 z3))
          replace BL := Lib.hid (((BL.out.setCell (p := ⟨V30.heap.size, 0, none⟩) zXB (.int .i64 D)).setCell (p := ⟨V30.heap.size, 1, none⟩) zXB (.int .i64 z2)).setCell (p := ⟨V30.heap.size, 2, none⟩) zXB (.int .i64 z3))
          generalize ((V37.setCell ⟨V30.heap.size, 0, none⟩ (.int .i64 D)).setCell ⟨V30.heap.size, 1, none⟩ (.int .i64 z2)).setCell ⟨V30.heap.size, 2, none⟩ (.int .i64 z3) = V38 at *
          clear y0
          have y0 : V38.cell? ⟨w.heap.size, 0, none⟩ = some (.slice a l.at_.length cap) := cellB u0 BL.out
          clear y1
          have y1 : V38.cell? ⟨w.heap.size, 1, none⟩ = some (.slice a' l.edges.length cap') := cellB u1 BL.out
          refine hK.out _ _ (fun _ => ⟨y0, y1⟩) (fun _ => ?_)
          clear hK K
          try simp only [Act.put]
          refine wpAnyT_chain (fuel := 1) rfl (by kernel_rfl) ?_
          simp only [List.drop_succ_cons, List.drop_zero]
          clear hS inv y0 y1
          go_wp2_with fail
          go_meet
          exact ⟨_, _, rfl, rfl, rfl, XA.out, XB.out, BL.out⟩
        refine AllReadyT.cons rfl (fun K hK => ?_) AllReadyT.nil
        have zXB : w1x.heap.size ≤ V29.heap.size := BL.out.size
        go_simp
        have hb := below1 V29 (.cells #[.int .i64 0, .int .i64 0, .int .i64 0] 27)
        have XB := Lib.hid (Blk.new V29 (.cells #[.int .i64 0, .int .i64 0, .int .i64 0] 27))
        generalize V29.alloc (.cells #[.int .i64 0, .int .i64 0, .int .i64 0] 27) = V39 at *
        replace BL := Lib.hid (bC BL.out hb)
        have nXA : V0.heap.size ≠ V29.heap.size := by have := XA.out.lt; omega
        replace XA := Lib.hid (XA.out.below hb)
        clear hb
        clear y0
        have y0 : V39.cell? ⟨w.heap.size, 0, none⟩ = some (.slice a l.at_.length cap) := cellB u0 BL.out
        clear y1
        have y1 : V39.cell? ⟨w.heap.size, 1, none⟩ = some (.slice a' l.edges.length cap') := cellB u1 BL.out
        refine hK.out _ _ (fun _ => ⟨y0, y1⟩) (fun _ => ?_)
        clear hK K
        try simp only [Act.put]
        refine wpAnyT_ready [3] (by kernel_rfl) (by simp) ?_
        refine AllReadyT.cons rfl (fun K hK => ?_) AllReadyT.nil
        go_simp
        refine (HLA.out _ (HVB.out.below BL.out)).mono ?_
        rintro e V40 ⟨rfl, hb⟩
        replace BL := Lib.hid (bC BL.out hb)
        replace XA := Lib.hid (XA.out.below hb)
        replace XB := Lib.hid (XB.out.below hb)
        clear hb
        clear y0
        have y0 : V40.cell? ⟨w.heap.size, 0, none⟩ = some (.slice a l.at_.length cap) := cellB u0 BL.out
        clear y1
        have y1 : V40.cell? ⟨w.heap.size, 1, none⟩ = some (.slice a' l.edges.length cap') := cellB u1 BL.out
        refine hK.out _ _ (fun _ => ⟨y0, y1⟩) (fun _ => ?_)
        clear hK K
        try simp only [Act.put]
        refine wpAnyT_ready [7] (by kernel_rfl) (by simp) ?_
        refine AllReadyT.cons rfl (fun K hK => ?_) AllReadyT.nil
        go_simp
        refine (HLB.out _ (HVB.out.below BL.out)).mono ?_
        rintro e V41 ⟨rfl, hb⟩
        replace BL := Lib.hid (bC BL.out hb)
        replace XA := Lib.hid (XA.out.below hb)
        replace XB := Lib.hid (XB.out.below hb)
        clear hb
        clear y0
        have y0 : V41.cell? ⟨w.heap.size, 0, none⟩ = some (.slice a l.at_.length cap) := cellB u0 BL.out
        clear y1
        have y1 : V41.cell? ⟨w.heap.size, 1, none⟩ = some (.slice a' l.edges.length cap') := cellB u1 BL.out
        refine hK.out _ _ (fun _ => ⟨y0, y1⟩) (fun _ => ?_)
        clear hK K
        try simp only [Act.put]
        refine wpAnyT_ready [13] (by kernel_rfl) (by simp) ?_
        refine AllReadyT.cons rfl (fun K hK => ?_) AllReadyT.nil
        have a0 := XA.out.cell 0
        have az0 := XA.out.frozen 0
        have a1 := XA.out.cell 1
        have az1 := XA.out.frozen 1
        have a2 := XA.out.cell 2
        have az2 := XA.out.frozen 2
        have al := XA.out.lt
        simp at a0 a1 a2
        go_simp
        clear al a0 az0 a1 az1 a2 az2
        have hU := (((XA.out.set (j := 0) (.int .i64 D)).set (j := 1) (.int .i64 y2)).set (j := 2) (.int .i64 y3))
        simp only [List.setIfInBounds_toArray, List.set_cons_zero, List.set_cons_succ] at hU
        replace XA := Lib.hid hU
        clear hU
        replace XB := Lib.hid (((XB.out.other nXA.symm (j := 0) (.int .i64 D)).other nXA.symm (j := 1) (.int .i64 y2)).other nXA.symm (j := 2) (.int .i64 y3))
        replace BL := Lib.hid (((BL.out.setCell (p := ⟨V0.heap.size, 0, none⟩) zXA (.int .i64 D)).setCell (p := ⟨V0.heap.size, 1, none⟩) zXA (.int .i64 y2)).setCell (p := ⟨V0.heap.size, 2, none⟩) zXA (.int .i64 y3))
        generalize ((V41.setCell ⟨V0.heap.size, 0, none⟩ (.int .i64 D)).setCell ⟨V0.heap.size, 1, none⟩ (.int .i64 y2)).setCell ⟨V0.heap.size, 2, none⟩ (.int .i64 y3) = V42 at *
        clear y0
        have y0 : V42.cell? ⟨w.heap.size, 0, none⟩ = some (.slice a l.at_.length cap) := cellB u0 BL.out
        clear y1
        have y1 : V42.cell? ⟨w.heap.size, 1, none⟩ = some (.slice a' l.edges.length cap') := cellB u1 BL.out
        refine hK.out _ _ (fun _ => ⟨y0, y1⟩) (fun _ => ?_)
        clear hK K
        try simp only [Act.put]
        refine wpAnyT_ready [14] (by kernel_rfl) (by simp) ?_
        refine AllReadyT.cons rfl (fun K hK => ?_) AllReadyT.nil
        have a0 := XB.out.cell 0
        have az0 := XB.out.frozen 0
        have a1 := XB.out.cell 1
        have az1 := XB.out.frozen 1
        have a2 := XB.out.cell 2
        have az2 := XB.out.frozen 2
        have al := XB.out.lt
        simp at a0 a1 a2
        go_simp
        clear al a0 az0 a1 az1 a2 az2
        have hU := (((XB.out.set (j := 0) (.int .i64 D)).set (j := 1) (.int .i64 z2)).set (j := 2) (.int .i64 z3))
        simp only [List.setIfInBounds_toArray, List.set_cons_zero, List.set_cons_succ] at hU
        replace XB := Lib.hid hU
        clear hU
        replace XA := Lib.hid (((XA.out.other nXA (j := 0) (.int .i64 D)).other nXA (j := 1) (.int .i64 z2)).other nXA (j := 2) (.int .i64 z3))
        replace BL := Lib.hid (((BL.out.setCell (p := ⟨V29.heap.size, 0, none⟩) zXB (.int .i64 D)).setCell (p := ⟨V29.heap.size, 1, none⟩) zXB (.int .i64 z2)).setCell (p := ⟨V29.heap.size, 2, none⟩) zXB (.int .i64 z3))
        generalize ((V42.setCell ⟨V29.heap.size, 0, none⟩ (.int .i64 D)).setCell ⟨V29.heap.size, 1, none⟩ (.int .i64 z2)).setCell ⟨V29.heap.size, 2, none⟩ (.int .i64 z3) = V43 at *
        clear y0
        have y0 : V43.cell? ⟨w.heap.size, 0, none⟩ = some (.slice a l.at_.length cap) := cellB u0 BL.out
        clear y1
        have y1 : V43.cell? ⟨w.heap.size, 1, none⟩ = some (.slice a' l.edges.length cap') := cellB u1 BL.out
        refine hK.out _ _ (fun _ => ⟨y0, y1⟩) (fun _ => ?_)
        clear hK K
        try simp only [Act.put]
        refine wpAnyT_chain (fuel := 1) rfl (by kernel_rfl) ?_
        simp only [List.drop_succ_cons, List.drop_zero]
        clear hS inv y0 y1
        go_wp2_with fail
        go_meet
        exact ⟨_, _, rfl, rfl, rfl, XA.out, XB.out, BL.out⟩
      refine AllReadyT.cons rfl (fun K hK => ?_) AllReadyT.nil
      have zXB : w1x.heap.size ≤ V0.heap.size := BL.out.size
      go_simp
      have hb := below1 V0 (.cells #[.int .i64 0, .int .i64 0, .int .i64 0] 27)
      have XB := Lib.hid (Blk.new V0 (.cells #[.int .i64 0, .int .i64 0, .int .i64 0] 27))
      generalize V0.alloc (.cells #[.int .i64 0, .int .i64 0, .int .i64 0] 27) = V44 at *
      replace BL := Lib.hid (bC BL.out hb)
      clear hb
      clear y0
      have y0 : V44.cell? ⟨w.heap.size, 0, none⟩ = some (.slice a l.at_.length cap) := cellB u0 BL.out
      clear y1
      have y1 : V44.cell? ⟨w.heap.size, 1, none⟩ = some (.slice a' l.edges.length cap') := cellB u1 BL.out
      refine hK.out _ _ (fun _ => ⟨y0, y1⟩) (fun _ => ?_)
      clear hK K
      try simp only [Act.put]
      refine wpAnyT_ready [3, 11] (by kernel_rfl) (by simp) ?_
      refine AllReadyT.cons rfl (fun K hK => ?_) ?_
      ·
        go_simp
        refine (HLA.out _ (HVB.out.below BL.out)).mono ?_
        rintro e V45 ⟨rfl, hb⟩
        replace BL := Lib.hid (bC BL.out hb)
        replace XB := Lib.hid (XB.out.below hb)
        clear hb
        clear y0
        have y0 : V45.cell? ⟨w.heap.size, 0, none⟩ = some (.slice a l.at_.length cap) := cellB u0 BL.out
        clear y1
        have y1 : V45.cell? ⟨w.heap.size, 1, none⟩ = some (.slice a' l.edges.length cap') := cellB u1 BL.out
        refine hK.out _ _ (fun _ => ⟨y0, y1⟩) (fun _ => ?_)
        clear hK K
        try simp only [Act.put]
        refine wpAnyT_ready [7, 11] (by kernel_rfl) (by simp) ?_
        refine AllReadyT.cons rfl (fun K hK => ?_) ?_
        ·
          go_simp
          refine (HLB.out _ (HVB.out.below BL.out)).mono ?_
          rintro e V46 ⟨rfl, hb⟩
          replace BL := Lib.hid (bC BL.out hb)
          replace XB := Lib.hid (XB.out.below hb)
          clear hb
          clear y0
          have y0 : V46.cell? ⟨w.heap.size, 0, none⟩ = some (.slice a l.at_.length cap) := cellB u0 BL.out
          clear y1
          have y1 : V46.cell? ⟨w.heap.size, 1, none⟩ = some (.slice a' l.edges.length cap') := cellB u1 BL.out
          refine hK.out _ _ (fun _ => ⟨y0, y1⟩) (fun _ => ?_)
          clear hK K
          try simp only [Act.put]
          refine wpAnyT_ready [11] (by kernel_rfl) (by simp) ?_
          refine AllReadyT.cons rfl (fun K hK => ?_) AllReadyT.nil
          have zXA : w1x.heap.size ≤ V46.heap.size := BL.out.size
          go_simp
          have hb := below1 V46 (.cells #[.int .i64 0, .int .i64 0, .int .i64 0] 27)
          have XA := Lib.hid (Blk.new V46 (.cells #[.int .i64 0, .int .i64 0, .int .i64 0] 27))
          generalize V46.alloc (.cells #[.int .i64 0, .int .i64 0, .int .i64 0] 27) = V47 at *
          replace BL := Lib.hid (bC BL.out hb)
          have nXB : V0.heap.size ≠ V46.heap.size := by have := XB.out.lt; omega
          replace XB := Lib.hid (XB.out.below hb)
          clear hb
          clear y0
          have y0 : V47.cell? ⟨w.heap.size, 0, none⟩ = some (.slice a l.at_.length cap) := cellB u0 BL.out
          clear y1
          have y1 : V47.cell? ⟨w.heap.size, 1, none⟩ = some (.slice a' l.edges.length cap') := cellB u1 BL.out
          refine hK.out _ _ (fun _ => ⟨y0, y1⟩) (fun _ => ?_)
          clear hK K
          try simp only [Act.put]
          refine wpAnyT_ready [13] (by kernel_rfl) (by simp) ?_
          refine AllReadyT.cons rfl (fun K hK => ?_) AllReadyT.nil
          have a0 := XA.out.cell 0
          have az0 := XA.out.frozen 0
          have a1 := XA.out.cell 1
          have az1 := XA.out.frozen 1
          have a2 := XA.out.cell 2
          have az2 := XA.out.frozen 2
          have al := XA.out.lt
          simp at a0 a1 a2
          go_simp
          clear al a0 az0 a1 az1 a2 az2
          have hU := (((XA.out.set (j := 0) (.int .i64 D)).set (j := 1) (.int .i64 y2)).set (j := 2) (.int .i64 y3))
          simp only [List.setIfInBounds_toArray, List.set_cons_zero, List.set_cons_succ] at hU
          replace XA := Lib.hid hU
          clear hU
          replace XB := Lib.hid (((XB.out.other nXB (j := 0) (.int .i64 D)).other nXB (j := 1) (.int .i64 y2)).other nXB (j := 2) (.int .i64 y3))
          replace BL := Lib.hid (((BL.out.setCell (p := ⟨V46.heap.size, 0, none⟩) zXA (.int .i64 D)).setCell (p := ⟨V46.heap.size, 1, none⟩) zXA (.int .i64 y2)).setCell (p := ⟨V46.heap.size, 2, none⟩) zXA (.int .i64 y3))
          generalize ((V47.setCell ⟨V46.heap.size, 0, none⟩ (.int .i64 D)).setCell ⟨V46.heap.size, 1, none⟩ (.int .i64 y2)).setCell ⟨V46.heap.size, 2, none⟩ (.int .i64 y3) = V48 at *
          clear y0
          have y0 : V48.cell? ⟨w.heap.size, 0, none⟩ = some (.slice a l.at_.length cap) := cellB u0 BL.out
          clear y1
          have y1 : V48.cell? ⟨w.heap.size, 1, none⟩ = some (.slice a' l.edges.length cap') := cellB u1 BL.out
          refine hK.out _ _ (fun _ => ⟨y0, y1⟩) (fun _ => ?_)
          clear hK K
          try simp only [Act.put]
          refine wpAnyT_ready [14] (by kernel_rfl) (by simp) ?_
          refine AllReadyT.cons rfl (fun K hK => ?_) AllReadyT.nil
          have a0 := XB.out.cell 0
          have az0 := XB.out.frozen 0
          have a1 := XB.out.cell 1
          have az1 := XB.out.frozen 1
          have a2 := XB.out.cell 2
          have az2 := XB.out.frozen 2
          have al := XB.out.lt
          simp at a0 a1 a2
          go_simp
          clear al a0 az0 a1 az1 a2 az2
          have hU := (((XB.out.set (j := 0) (.int .i64 D)).set (j := 1) (.int .i64 z2)).set (j := 2) (.int .i64 z3))
          simp only [List.setIfInBounds_toArray, List.set_cons_zero, List.set_cons_succ] at hU
          replace XB := Lib.hid hU
          clear hU
          replace XA := Lib.hid (((XA.out.other nXB.symm (j := 0) (.int .i64 D)).other nXB.symm (j := 1) (.int .i64 z2)).other nXB.symm (j := 2) (.int .i64 z3))
          replace BL := Lib.hid (((BL.out.setCell (p := ⟨V0.heap.size, 0, none⟩) zXB (.int .i64 D)).setCell (p := ⟨V0.heap.size, 1, none⟩) zXB (.int .i64 z2)).setCell (p := ⟨V0.heap.size, 2, none⟩) zXB (.int .i64 z3))
          generalize ((V48.setCell ⟨V0.heap.size, 0, none⟩ (.int .i64 D)).setCell ⟨V0.heap.size, 1, none⟩ (.int .i64 z2)).setCell ⟨V0.heap.size, 2, none⟩ (.int .i64 z3) = V49 at *
          clear y0
          have y0 : V49.cell? ⟨w.heap.size, 0, none⟩ = some (.slice a l.at_.length cap) := cellB u0 BL.out
          clear y1
          have y1 : V49.cell? ⟨w.heap.size, 1, none⟩ = some (.slice a' l.edges.length cap') := cellB u1 BL.out
          refine hK.out _ _ (fun _ => ⟨y0, y1⟩) (fun _ => ?_)
          clear hK K
          try simp only [Act.put]
          refine wpAnyT_chain (fuel := 1) rfl (by kernel_rfl) ?_
          simp only [List.drop_succ_cons, List.drop_zero]
          clear hS inv y0 y1
          go_wp2_with fail
          go_meet
          exact ⟨_, _, rfl, rfl, rfl, XA.out, XB.out, BL.out⟩
        refine AllReadyT.cons rfl (fun K hK => ?_) AllReadyT.nil
        have zXA : w1x.heap.size ≤ V45.heap.size := BL.out.size
        go_simp
        have hb := below1 V45 (.cells #[.int .i64 0, .int .i64 0, .int .i64 0] 27)
        have XA := Lib.hid (Blk.new V45 (.cells #[.int .i64 0, .int .i64 0, .int .i64 0] 27))
        generalize V45.alloc (.cells #[.int .i64 0, .int .i64 0, .int .i64 0] 27) = V50 at *
        replace BL := Lib.hid (bC BL.out hb)
        have nXB : V0.heap.size ≠ V45.heap.size := by have := XB.out.lt; omega
        replace XB := Lib.hid (XB.out.below hb)
        clear hb
        clear y0
        have y0 : V50.cell? ⟨w.heap.size, 0, none⟩ = some (.slice a l.at_.length cap) := cellB u0 BL.out
        clear y1
        have y1 : V50.cell? ⟨w.heap.size, 1, none⟩ = some (.slice a' l.edges.length cap') := cellB u1 BL.out
        refine hK.out _ _ (fun _ => ⟨y0, y1⟩) (fun _ => ?_)
        clear hK K
        try simp only [Act.put]
        refine wpAnyT_ready [7] (by kernel_rfl) (by simp) ?_
        refine AllReadyT.cons rfl (fun K hK => ?_) AllReadyT.nil
        go_simp
        refine (HLB.out _ (HVB.out.below BL.out)).mono ?_
        rintro e V51 ⟨rfl, hb⟩
        replace BL := Lib.hid (bC BL.out hb)
        replace XB := Lib.hid (XB.out.below hb)
        replace XA := Lib.hid (XA.out.below hb)
        clear hb
        clear y0
        have y0 : V51.cell? ⟨w.heap.size, 0, none⟩ = some (.slice a l.at_.length cap) := cellB u0 BL.out
        clear y1
        have y1 : V51.cell? ⟨w.heap.size, 1, none⟩ = some (.slice a' l.edges.length cap') := cellB u1 BL.out
        refine hK.out _ _ (fun _ => ⟨y0, y1⟩) (fun _ => ?_)
        clear hK K
        try simp only [Act.put]
        refine wpAnyT_ready [13] (by kernel_rfl) (by simp) ?_
        refine AllReadyT.cons rfl (fun K hK => ?_) AllReadyT.nil
        have a0 := XA.out.cell 0
        have az0 := XA.out.frozen 0
        have a1 := XA.out.cell 1
        have az1 := XA.out.frozen 1
        have a2 := XA.out.cell 2
        have az2 := XA.out.frozen 2
        have al := XA.out.lt
        simp at a0 a1 a2
        go_simp
        clear al a0 az0 a1 az1 a2 az2
        have hU := (((XA.out.set (j := 0) (.int .i64 D)).set (j := 1) (.int .i64 y2)).set (j := 2) (.int .i64 y3))
        simp only [List.setIfInBounds_toArray, List.set_cons_zero, List.set_cons_succ] at hU
        replace XA := Lib.hid hU
        clear hU
        replace XB := Lib.hid (((XB.out.other nXB (j := 0) (.int .i64 D)).other nXB (j := 1) (.int .i64 y2)).other nXB (j := 2) (.int .i64 y3))
        replace BL := Lib.hid (((BL.out.setCell (p := ⟨V45.heap.size, 0, none⟩) zXA (.int .i64 D)).setCell (p := ⟨V45.heap.size, 1, none⟩) zXA (.int .i64 y2)).setCell (p := ⟨V45.heap.size, 2, none⟩) zXA (.int .i64 y3))
        generalize ((V51.setCell ⟨V45.heap.size, 0, none⟩ (.int .i64 D)).setCell ⟨V45.heap.size, 1, none⟩ (.int .i64 y2)).setCell ⟨V45.heap.size, 2, none⟩ (.int .i64 y3) = V52 at *
        clear y0
        have y0 : V52.cell? ⟨w.heap.size, 0, none⟩ = some (.slice a l.at_.length cap) := cellB u0 BL.out
        clear y1
        have y1 : V52.cell? ⟨w.heap.size, 1, none⟩ = some (.slice a' l.edges.length cap') := cellB u1 BL.out
        refine hK.out _ _ (fun _ => ⟨y0, y1⟩) (fun _ => ?_)
        clear hK K
        try simp only [Act.put]
        refine wpAnyT_ready [14] (by kernel_rfl) (by simp) ?_
        refine AllReadyT.cons rfl (fun K hK => ?_) AllReadyT.nil
        have a0 := XB.out.cell 0
        have az0 := XB.out.frozen 0
        have a1 := XB.out.cell 1
        have az1 := XB.out.frozen 1
        have a2 := XB.out.cell 2
        have az2 := XB.out.frozen 2
        have al := XB.out.lt
        simp at a0 a1 a2
        go_simp
        clear al a0 az0 a1 az1 a2 az2
        have hU := (((XB.out.set (j := 0) (.int .i64 D)).set (j := 1) (.int .i64 z2)).set (j := 2) (.int .i64 z3))
        simp only [List.setIfInBounds_toArray, List.set_cons_zero, List.set_cons_succ] at hU
        replace XB := Lib.hid hU
        clear hU
        replace XA := Lib.hid (((XA.out.other nXB.symm (j := 0) (.int .i64 D)).other nXB.symm (j := 1) (.int .i64 z2)).other nXB.symm (j := 2) (.int .i64 z3))
        replace BL := Lib.hid (((BL.out.setCell (p := ⟨V0.heap.size, 0, none⟩) zXB (.int .i64 D)).setCell (p := ⟨V0.heap.size, 1, none⟩) zXB (.int .i64 z2)).setCell (p := ⟨V0.heap.size, 2, none⟩) zXB (.int .i64 z3))
        generalize ((V52.setCell ⟨V0.heap.size, 0, none⟩ (.int .i64 D)).setCell ⟨V0.heap.size, 1, none⟩ (.int .i64 z2)).setCell ⟨V0.heap.size, 2, none⟩ (.int .i64 z3) = V53 at *
        clear y0
        have y0 : V53.cell? ⟨w.heap.size, 0, none⟩ = some (.slice a l.at_.length cap) := cellB u0 BL.out
        clear y1
        have y1 : V53.cell? ⟨w.heap.size, 1, none⟩ = some (.slice a' l.edges.length cap') := cellB u1 BL.out
        refine hK.out _ _ (fun _ => ⟨y0, y1⟩) (fun _ => ?_)
        clear hK K
        try simp only [Act.put]
        refine wpAnyT_chain (fuel := 1) rfl (by kernel_rfl) ?_
        simp only [List.drop_succ_cons, List.drop_zero]
        clear hS inv y0 y1
        go_wp2_with fail
        go_meet
        exact ⟨_, _, rfl, rfl, rfl, XA.out, XB.out, BL.out⟩
      refine AllReadyT.cons rfl (fun K hK => ?_) AllReadyT.nil
      have zXA : w1x.heap.size ≤ V44.heap.size := BL.out.size
      go_simp
      have hb := below1 V44 (.cells #[.int .i64 0, .int .i64 0, .int .i64 0] 27)
      have XA := Lib.hid (Blk.new V44 (.cells #[.int .i64 0, .int .i64 0, .int .i64 0] 27))
      generalize V44.alloc (.cells #[.int .i64 0, .int .i64 0, .int .i64 0] 27) = V54 at *
      replace BL := Lib.hid (bC BL.out hb)
      have nXB : V0.heap.size ≠ V44.heap.size := by have := XB.out.lt; omega
      replace XB := Lib.hid (XB.out.below hb)
      clear hb
      clear y0
      have y0 : V54.cell? ⟨w.heap.size, 0, none⟩ = some (.slice a l.at_.length cap) := cellB u0 BL.out
      clear y1
      have y1 : V54.cell? ⟨w.heap.size, 1, none⟩ = some (.slice a' l.edges.length cap') := cellB u1 BL.out
      refine hK.out _ _ (fun _ => ⟨y0, y1⟩) (fun _ => ?_)
      clear hK K
      try simp only [Act.put]
      refine wpAnyT_ready [3] (by kernel_rfl) (by simp) ?_
      refine AllReadyT.cons rfl (fun K hK => ?_) AllReadyT.nil
      go_simp
      refine (HLA.out _ (HVB.out.below BL.out)).mono ?_
      rintro e V55 ⟨rfl, hb⟩
      replace BL := Lib.hid (bC BL.out hb)
      replace XB := Lib.hid (XB.out.below hb)
      replace XA := Lib.hid (XA.out.below hb)
      clear hb
      clear y0
      have y0 : V55.cell? ⟨w.heap.size, 0, none⟩ = some (.slice a l.at_.length cap) := cellB u0 BL.out
      clear y1
      have y1 : V55.cell? ⟨w.heap.size, 1, none⟩ = some (.slice a' l.edges.length cap') := cellB u1 BL.out
      refine hK.out _ _ (fun _ => ⟨y0, y1⟩) (fun _ => ?_)
      clear hK K
      try simp only [Act.put]
      refine wpAnyT_ready [7] (by kernel_rfl) (by simp) ?_
      refine AllReadyT.cons rfl (fun K hK => ?_) AllReadyT.nil
      go_simp
      refine (HLB.out _ (HVB.out.below BL.out)).mono ?_
      rintro e V56 ⟨rfl, hb⟩
      replace BL := Lib.hid (bC BL.out hb)
      replace XB := Lib.hid (XB.out.below hb)
      replace XA := Lib.hid (XA.out.below hb)
      clear hb
      clear y0
      have y0 : V56.cell? ⟨w.heap.size, 0, none⟩ = some (.slice a l.at_.length cap) := cellB u0 BL.out
      clear y1
      have y1 : V56.cell? ⟨w.heap.size, 1, none⟩ = some (.slice a' l.edges.length cap') := cellB u1 BL.out
      refine hK.out _ _ (fun _ => ⟨y0, y1⟩) (fun _ => ?_)
      clear hK K
      try simp only [Act.put]
      refine wpAnyT_ready [13] (by kernel_rfl) (by simp) ?_
      refine AllReadyT.cons rfl (fun K hK => ?_) AllReadyT.nil
      have a0 := XA.out.cell 0
      have az0 := XA.out.frozen 0
      have a1 := XA.out.cell 1
      have az1 := XA.out.frozen 1
      have a2 := XA.out.cell 2
      have az2 := XA.out.frozen 2
      have al := XA.out.lt
      simp at a0 a1 a2
      go_simp
      clear al a0 az0 a1 az1 a2 az2
      have hU := (((XA.out.set (j := 0) (.int .i64 D)).set (j := 1) (.int .i64 y2)).set (j := 2) (.int .i64 y3))
      simp only [List.setIfInBounds_toArray, List.set_cons_zero, List.set_cons_succ] at hU
      replace XA := Lib.hid hU
      clear hU
      replace XB := Lib.hid (((XB.out.other nXB (j := 0) (.int .i64 D)).other nXB (j := 1) (.int .i64 y2)).other nXB (j := 2) (.int .i64 y3))
      replace BL := Lib.hid (((BL.out.setCell (p := ⟨V44.heap.size, 0, none⟩) zXA (.int .i64 D)).setCell (p := ⟨V44.heap.size, 1, none⟩) zXA (.int .i64 y2)).setCell (p := ⟨V44.heap.size, 2, none⟩) zXA (.int .i64 y3))
      generalize ((V56.setCell ⟨V44.heap.size, 0, none⟩ (.int .i64 D)).setCell ⟨V44.heap.size, 1, none⟩ (.int .i64 y2)).setCell ⟨V44.heap.size, 2, none⟩ (.int .i64 y3) = V57 at *
      clear y0
      have y0 : V57.cell? ⟨w.heap.size, 0, none⟩ = some (.slice a l.at_.length cap) := cellB u0 BL.out
      clear y1
      have y1 : V57.cell? ⟨w.heap.size, 1, none⟩ = some (.slice a' l.edges.length cap') := cellB u1 BL.out
      refine hK.out _ _ (fun _ => ⟨y0, y1⟩) (fun _ => ?_)
      clear hK K
      try simp only [Act.put]
      refine wpAnyT_ready [14] (by kernel_rfl) (by simp) ?_
      refine AllReadyT.cons rfl (fun K hK => ?_) AllReadyT.nil
      have a0 := XB.out.cell 0
      have az0 := XB.out.frozen 0
      have a1 := XB.out.cell 1
      have az1 := XB.out.frozen 1
      have a2 := XB.out.cell 2
      have az2 := XB.out.frozen 2
      have al := XB.out.lt
      simp at a0 a1 a2
      go_simp
      clear al a0 az0 a1 az1 a2 az2
      have hU := (((XB.out.set (j := 0) (.int .i64 D)).set (j := 1) (.int .i64 z2)).set (j := 2) (.int .i64 z3))
      simp only [List.setIfInBounds_toArray, List.set_cons_zero, List.set_cons_succ] at hU
      replace XB := Lib.hid hU
      clear hU
      replace XA := Lib.hid (((XA.out.other nXB.symm (j := 0) (.int .i64 D)).other nXB.symm (j := 1) (.int .i64 z2)).other nXB.symm (j := 2) (.int .i64 z3))
      replace BL := Lib.hid (((BL.out.setCell (p := ⟨V0.heap.size, 0, none⟩) zXB (.int .i64 D)).setCell (p := ⟨V0.heap.size, 1, none⟩) zXB (.int .i64 z2)).setCell (p := ⟨V0.heap.size, 2, none⟩) zXB (.int .i64 z3))
      generalize ((V57.setCell ⟨V0.heap.size, 0, none⟩ (.int .i64 D)).setCell ⟨V0.heap.size, 1, none⟩ (.int .i64 z2)).setCell ⟨V0.heap.size, 2, none⟩ (.int .i64 z3) = V58 at *
      clear y0
      have y0 : V58.cell? ⟨w.heap.size, 0, none⟩ = some (.slice a l.at_.length cap) := cellB u0 BL.out
      clear y1
      have y1 : V58.cell? ⟨w.heap.size, 1, none⟩ = some (.slice a' l.edges.length cap') := cellB u1 BL.out
      refine hK.out _ _ (fun _ => ⟨y0, y1⟩) (fun _ => ?_)
      clear hK K
      try simp only [Act.put]
      refine wpAnyT_chain (fuel := 1) rfl (by kernel_rfl) ?_
      simp only [List.drop_succ_cons, List.drop_zero]
      clear hS inv y0 y1
      go_wp2_with fail
      go_meet
      exact ⟨_, _, rfl, rfl, rfl, XA.out, XB.out, BL.out⟩
    obtain ⟨BA, BB, rfl, rfl, rfl, hA, hBB, hW⟩ := hcut
    rename World => w2x
    have HA2 := Lib.hid hA
    have HE2 := Lib.hid hBB
    have HL2 := Lib.hid (HL1.out.below hW)
    have HB2 := Lib.hid (bC HB1.out hW)
    clear hA hBB hW HL1 HB1 u0 u1 HVB
    have Lc0 := HL2.out.cell 0
    have Lc1 := HL2.out.cell 1
    have Ac0 := HA2.out.cell 0
    have Ac1 := HA2.out.cell 1
    have Ac2 := HA2.out.cell 2
    simp at Lc0 Lc1 Ac0 Ac1 Ac2
    have Ll := HL2.out.lt
    have Al := HA2.out.lt
    go_wp2_with fail
    clear Lc0 Lc1 Ac0 Ac1 Ac2 Ll Al
    refine (HCc.out _ (HV.out.below HB2.out)).mono ?_
    rintro e w3x ⟨rfl, hb⟩
    have HB3 := Lib.hid (bC HB2.out hb)
    have HL3 := Lib.hid (HL2.out.below hb)
    have HA3 := Lib.hid (HA2.out.below hb)
    have HE3 := Lib.hid (HE2.out.below hb)
    clear hb HB2 HL2 HA2 HE2
    have Lc0 := HL3.out.cell 0
    have Lc1 := HL3.out.cell 1
    have Ec0 := HE3.out.cell 0
    have Ec1 := HE3.out.cell 1
    have Ec2 := HE3.out.cell 2
    simp at Lc0 Lc1 Ec0 Ec1 Ec2
    have Ll := HL3.out.lt
    have El := HE3.out.lt
    go_wp2_with fail
    clear Lc0 Lc1 Ec0 Ec1 Ec2 Ll El
    have hC := Blk.new w3x (.cells #[.int .i64 cn, .int .i64 cd] 31)
    have hA := below1 w3x (.cells #[.int .i64 cn, .int .i64 cd] 31)
    generalize w3x.alloc (.cells #[.int .i64 cn, .int .i64 cd] 31) = W3x at *
    have HC4 := Lib.hid hC
    clear hC
    have HB4 := Lib.hid (bC HB3.out hA)
    have HL4 := Lib.hid (HL3.out.below hA)
    have HA4 := Lib.hid (HA3.out.below hA)
    have HE4 := Lib.hid (HE3.out.below hA)
    clear hA HB3 HL3 HA3 HE3
    refine (HCd.out _ (HV.out.below HB4.out)).mono ?_
    rintro e w5x ⟨rfl, hb⟩
    have HB5 := Lib.hid (bC HB4.out hb)
    have HL5 := Lib.hid (HL4.out.below hb)
    have HA5 := Lib.hid (HA4.out.below hb)
    have HE5 := Lib.hid (HE4.out.below hb)
    have HC5 := Lib.hid (HC4.out.below hb)
    clear hb HB4 HL4 HA4 HE4 HC4
    go_wp2_with fail
    have hD := Blk.new w5x (.cells #[.int .i64 dn, .int .i64 dd] 31)
    have hA := below1 w5x (.cells #[.int .i64 dn, .int .i64 dd] 31)
    generalize w5x.alloc (.cells #[.int .i64 dn, .int .i64 dd] 31) = W5x at *
    have HD6 := Lib.hid hD
    clear hD
    have HB6 := Lib.hid (bC HB5.out hA)
    have HL6 := Lib.hid (HL5.out.below hA)
    have HA6 := Lib.hid (HA5.out.below hA)
    have HE6 := Lib.hid (HE5.out.below hA)
    have HC6 := Lib.hid (HC5.out.below hA)
    clear hA HB5 HL5 HA5 HE5 HC5
    have u0 := HL6.out.cell 0
    have u1 := HL6.out.cell 1
    have u2 := HA6.out.cell 0
    have u3 := HA6.out.cell 1
    have u4 := HA6.out.cell 2
    have u5 := HE6.out.cell 1
    have u6 := HE6.out.cell 2
    simp at u0 u1 u2 u3 u4 u5 u6
    have hl1 := HL6.out.lt
    have hl2 := HA6.out.lt
    have hl3 := HE6.out.lt
    have HVB := Lib.hid (HV.out.below HB6.out)
    have hb0 : Below W5x.heap.size W5x W5x.drew := (Below.refl _ _).drew
    have HSX : Hid (∀ W, Below W5x.heap.size W5x W → ((W.cell? ⟨w.heap.size, 0, none⟩ = some (.slice a l.at_.length cap) ∧ W.cell? ⟨w.heap.size, 1, none⟩ = some (.slice a' l.edges.length cap') ∧ W.cell? ⟨BA, 0, none⟩ = some (.int .i64 D) ∧ W.cell? ⟨BA, 1, none⟩ = some (.int .i64 y2) ∧ W.cell? ⟨BA, 2, none⟩ = some (.int .i64 y3) ∧ W.cell? ⟨BB, 1, none⟩ = some (.int .i64 z2) ∧ W.cell? ⟨BB, 2, none⟩ = some (.int .i64 z3)) ∧ Below W5x.heap.size W5x W)) := Lib.hid (fun W h => ⟨⟨cellB u0 h, cellB u1 h, cellB u2 h, cellB u3 h, cellB u4 h, cellB u5 h, cellB u6 h⟩, h⟩)
    have hAC : ∀ (W : World) (o : Obj) (b j : Nat), b < W.heap.size → (W.alloc o).cell? ⟨b, j, none⟩ = W.cell? ⟨b, j, none⟩ := fun W o b j h => (below1 W o).cell (p := ⟨b, j, none⟩) h
    have hAF : ∀ (W : World) (o : Obj) (b j : Nat), b < W.heap.size → (W.alloc o).frozen? ⟨b, j, none⟩ = W.frozen? ⟨b, j, none⟩ := fun W o b j h => (below1 W o).frozen (p := ⟨b, j, none⟩) h
    go_cut [20, 21] (fun s3 s4 wx => ∃ c : Nat, s3 = .pointer (some ⟨c, 0, none⟩) ∧ s4 = .int .i64 0 ∧ (wx.cell? ⟨c, 0, none⟩ = some (.int .i64 mn) ∧ wx.cell? ⟨c, 1, none⟩ = some (.int .i64 md)) ∧ Below W5x.heap.size W5x wx)
    case first =>
      go_region_held3 (fun W => (W.cell? ⟨w.heap.size, 0, none⟩ = some (.slice a l.at_.length cap) ∧ W.cell? ⟨w.heap.size, 1, none⟩ = some (.slice a' l.edges.length cap') ∧ W.cell? ⟨BA, 0, none⟩ = some (.int .i64 D) ∧ W.cell? ⟨BA, 1, none⟩ = some (.int .i64 y2) ∧ W.cell? ⟨BA, 2, none⟩ = some (.int .i64 y3) ∧ W.cell? ⟨BB, 1, none⟩ = some (.int .i64 z2) ∧ W.cell? ⟨BB, 2, none⟩ = some (.int .i64 z3)) ∧ Below W5x.heap.size W5x W)
        (((with_reducible refine HSX.out _ ?_); (repeat' (first | (with_reducible assumption) | (with_reducible refine Below.refl _ _) | (with_reducible refine Below.drew ?_) | (with_reducible refine bA ?_) | (with_reducible refine bS2o ?_ ?_) | omega))))
        (first | (go_at_call 47; (with_reducible refine (line_any _ _ _ _).mono ?_); rintro e v2 ⟨rfl, hc2⟩; obtain ⟨hB2x, hz2x⟩ : Below W5x.heap.size W5x v2 ∧ W5x.heap.size ≤ v2.heap.size := bC2 (by (repeat' (first | (with_reducible assumption) | (with_reducible refine Below.refl _ _) | (with_reducible refine Below.drew ?_) | (with_reducible refine bA ?_) | (with_reducible refine bS2o ?_ ?_) | omega))) hc2; (try (have ka2 := n1 hc2; (try simp only [World.size_alloc] at ka2); obtain ⟨ka21, ka22, ⟨ka23, ka24⟩, ka25, ka26, ka27⟩ := q2 ka2)); (try (have kb2 := n1d hc2; (try simp only [World.size_alloc] at kb2); obtain ⟨kb21, kb22, ⟨kb23, kb24⟩, kb25, kb26, kb27⟩ := q2 kb2)); clear hc2) | (go_at_call 20; (with_reducible refine (HCm.out _ (HVB.out.below ?_)).mono ?_); (repeat' (first | (with_reducible assumption) | (with_reducible refine Below.refl _ _) | (with_reducible refine Below.drew ?_) | (with_reducible refine bA ?_) | (with_reducible refine bS2o ?_ ?_) | omega)); rintro e v3 ⟨rfl, hc3⟩; obtain ⟨hB3x, hz3x⟩ : Below W5x.heap.size W5x v3 ∧ W5x.heap.size ≤ v3.heap.size := bC2 (by (repeat' (first | (with_reducible assumption) | (with_reducible refine Below.refl _ _) | (with_reducible refine Below.drew ?_) | (with_reducible refine bA ?_) | (with_reducible refine bS2o ?_ ?_) | omega))) hc3; (try (have ka3 := n1 hc3; (try simp only [World.size_alloc] at ka3); obtain ⟨ka31, ka32, ⟨ka33, ka34⟩, ka35, ka36, ka37⟩ := q2 ka3)); (try (have kb3 := n1d hc3; (try simp only [World.size_alloc] at kb3); obtain ⟨kb31, kb32, ⟨kb33, kb34⟩, kb35, kb36, kb37⟩ := q2 kb3)); (try (have kc3 := oldB ka2 hc3; (try simp only [World.size_alloc] at kc3); obtain ⟨kc31, kc32, ⟨kc33, kc34⟩, kc35, kc36, kc37⟩ := q2 kc3)); (try (have kd3 := oldB kb2 hc3; (try simp only [World.size_alloc] at kd3); obtain ⟨kd31, kd32, ⟨kd33, kd34⟩, kd35, kd36, kd37⟩ := q2 kd3)); clear hc3))
      all_goals (go_wp2_with fail; go_meet; refine ⟨_, rfl, rfl, ?_, ?_⟩)
      all_goals (go_split_ands; first | (with_reducible assumption) | (go_simp; done) | (simp [*]; done) | omega | (simp; omega) | ((repeat' (first | (with_reducible assumption) | (with_reducible refine Below.refl _ _) | (with_reducible refine Below.drew ?_) | (with_reducible refine bA ?_) | (with_reducible refine bS2o ?_ ?_) | omega)); done))
    obtain ⟨c1, rfl, rfl, hc1, hW⟩ := hcut
    rename World => w9x
    have HL9 := HL6.out.below hW
    have HA9 := HA6.out.below hW
    have HC9 := HC6.out.below hW
    have HD9 := HD6.out.below hW
    have HB9 := bC HB6.out hW
    obtain ⟨h0, bD, by2, by3, bx, hc, ⟨hcn, hcd⟩, cb, cdd, ⟨hdn, hdd⟩, db, ddd, ⟨hmn, hmd⟩, mb, mdd, hmid⟩ := FACTS.out
    rename_i hk
    exact hk _ _ (kept_b w _ l a a' cap cap' D y2 y3 x c d m cn cd dn dd mn md _ _ _ _ _ HV.out HN.out HB9 h0 bD by2 by3 (by omega) hc hcn hcd ⟨by omega, cb⟩ hdn hdd ⟨by omega, db⟩ hmn hmd ⟨by omega, mb⟩ hmid HL9 HA9 HC9 HD9 (CellsAt.two hc1.1 hc1.2) _ _ _ _ _ _ _ _ _ _ _ _ _ _ _ _ _ _ _ _ _ _ _ _ _ _ _ _ _ _ _ _ _ _ _ _ _ _ _ _ _ _ _ _ _ _ _ _ _ _ _ _ _ _ _ _ _ _ _ _ _ _ _ _ _ _ _ _ _ _ _ _ _ _ _ _ _ _ _ _ _ _ _ _ _ _ _ _ _ _ _ _ _ _ _ _ _ _ _ _ _ _ _ _ _ _ _ _ _ _ _ _ _ _ _ _ _ _ _ _ _ _ _ _ _ _ _ _ _ _ _ _ _ _ _ _ _ _ _ _ _ _ _ _ _ _ _ _ _ _ _ _ _ _ _ _ _ _ _ _ _ _ _ _ _ _ _ _ _ _ _ _ _ _ _ _ _ _ _ _ _ _ _ _ _ _ _)
  · have HF : Hid (∀ W, LogAt W (.agg #[.slice a l.at_.length cap, .slice a' l.edges.length cap']) l → Calls Tryd.prog 41 #[(.agg #[.slice a l.at_.length cap, .slice a' l.edges.length cap'])] W (Gets (.bool false) W)) := Lib.hid (fun W h => by have := fine_any _ l W h; rw [decide_eq_false h0] at this; exact this)
    clear h0 g1 g2 g3 g4 g5
    go_enter Tryd.func9, Tryd.ntmps9
    go_wp2_with fail
    refine (HF.out _ (HV.out.below HB0.out)).mono ?_
    rintro e w1x ⟨rfl, hb⟩
    have HB1 := Lib.hid (bC HB0.out hb)
    have HL1 := Lib.hid (HL0.out.below hb)
    clear hb HB0 HL0
    go_wp2_with fail
    refine (Works_any _ (HN.out.below HB1.out)).mono ?_
    rintro e w2x ⟨rfl, hb⟩
    have HB2 := Lib.hid (bC HB1.out hb)
    have HL2 := Lib.hid (HL1.out.below hb)
    clear hb HB1 HL1
    go_wp2_with fail
    go_ret
    exact ⟨rfl, HB2.out⟩
end Go.Proofs.YtkggjpdjjnnhaaaDoor
