import Derived.Test.YtlhldkiggmlegaaDoorPa
namespace Go.Proofs.YtlhldkiggmlegaaDoor
open Go.RowKit Go.Shelf Go.Sort
attribute [local go_sem] Oper.semAt_some

/-! ## The law's True: some numbers -/
set_option maxRecDepth 1000000 in
set_option maxHeartbeats 40000000 in
theorem true_some (v : Value) (r : RoughD) (ns : List Int) (b4 o4 cap4 : Nat) (w : World) (hv : RoughAt w v r) (h0 : roughErr r = 0) (hns : ∀ x ∈ ns, 0 ≤ x ∧ x ≤ 65535) (h1n : 1 ≤ ns.length) (h2n : ns.length ≤ 20) (hu : ∀ j (h : j < ns.length), w.cell? ⟨b4, o4 + j, none⟩ = some (.int .u16 ns[j])) :
    Calls Tryd.prog 53 #[v, (.slice (some ⟨b4, o4, none⟩) ns.length cap4)] w fun e w' => ∃ u, e = .returned u ∧ LogAt w' u (trueD r ns) ∧ Below w.heap.size w w' := by
  have HPT := Lib.hid (fun k (hk : k < r.at_.length) => rough_pt h0 hk)
  obtain ⟨hF, _⟩ := rough_fit h0
  have h2 := hF.two
  have h8 := hF.eight
  have hl1 := hF.lens r.low (by simp)
  have hl2 := hF.lens r.high (by simp)
  obtain ⟨va, vl, vh, rfl, hA, hB, hC⟩ := hv
  have HRA := Lib.hid hA
  obtain ⟨a, cap, rfl⟩ := hA.slice
  obtain ⟨a2, cap2, rfl⟩ := hB.slice
  obtain ⟨a3, cap3, rfl⟩ := hC.slice
  have hat := (IntsAt.at (w := w) (a := a) (n := r.at_.length) (cap := cap) hA).2
  have hlo := (PairsAt.at (w := w) (a := a2) (n := r.low.length) (cap := cap2) hB).2
  have hhi := (PairsAt.at (w := w) (a := a3) (n := r.high.length) (cap := cap3) hC).2
  obtain ⟨b1, o1, rfl, -⟩ := hat 0 (by omega)
  obtain ⟨b2, o2, rfl, -⟩ := hlo 0 (by omega)
  obtain ⟨b3, o3, rfl, -⟩ := hhi 0 (by omega)
  have HLO := Lib.hid hlo
  have HHI := Lib.hid hhi
  have HL := Lib.hid (And.intro (And.intro h2 h8) (And.intro hl1 hl2))
  obtain ⟨ir, hir, hk0, hk1, hk2⟩ := info_parts infoR
  obtain ⟨ii, hii, hj0, hj1, hj2⟩ := info_parts infoI
  have IR := Lib.hid hir
  have K0 := Lib.hid hk0
  have K1 := Lib.hid hk1
  have K2 := Lib.hid hk2
  have II := Lib.hid hii
  have J0 := Lib.hid hj0
  have J1 := Lib.hid hj1
  have J2 := Lib.hid hj2
  have HU := Lib.hid hu
  have HNS := Lib.hid hns
  clear hu hns
  clear hir hk0 hk1 hk2 hii hj0 hj1 hj2 hA hB hC hat hlo hhi hl1 hl2 hF h0
  go_enter Tryd.func53, Tryd.ntmps53
  have p0 := (Blk.new w (.cells #[.slice (some ⟨b1, o1, none⟩) r.at_.length cap, .slice (some ⟨b2, o2, none⟩) r.low.length cap2, .slice (some ⟨b3, o3, none⟩) r.high.length cap3] 53)).alloc (.cells #[.slice none 0 0, .slice none 0 0] 25)
  have p1 := Blk.new (w.alloc (.cells #[.slice (some ⟨b1, o1, none⟩) r.at_.length cap, .slice (some ⟨b2, o2, none⟩) r.low.length cap2, .slice (some ⟨b3, o3, none⟩) r.high.length cap3] 53)) (.cells #[.slice none 0 0, .slice none 0 0] 25)
  have pb := below2 w (.cells #[.slice (some ⟨b1, o1, none⟩) r.at_.length cap, .slice (some ⟨b2, o2, none⟩) r.low.length cap2, .slice (some ⟨b3, o3, none⟩) r.high.length cap3] 53) (.cells #[.slice none 0 0, .slice none 0 0] 25)
  simp only [World.size_alloc] at p1
  go_wp2_with fail
  generalize (w.alloc (.cells #[.slice (some ⟨b1, o1, none⟩) r.at_.length cap, .slice (some ⟨b2, o2, none⟩) r.low.length cap2, .slice (some ⟨b3, o3, none⟩) r.high.length cap3] 53)).alloc (.cells #[.slice none 0 0, .slice none 0 0] 25) = wr at *
  have Q := Lib.hid p0
  have Y := Lib.hid p1
  have BL := Lib.hid pb
  have RA := Lib.hid (show wr.ownsRow w.heap.size 2 1 (.slice none 0 0) 0 [] from ⟨rfl, .inl ⟨rfl, rfl⟩⟩)
  clear p0 p1 pb
  go_cut [5] (fun s5 wx => ∃ (C : Nat) (vA : Value), s5 = .pointer (some ⟨C, 0, none⟩) ∧ wx.ownsRow w.heap.size 2 1 vA r.at_.length (r.at_.map (Value.int .i64)) ∧ Blk wx w.heap.size (.cells #[.slice (some ⟨b1, o1, none⟩) r.at_.length cap, .slice (some ⟨b2, o2, none⟩) r.low.length cap2, .slice (some ⟨b3, o3, none⟩) r.high.length cap3] 53) ∧ Blk wx (w.heap.size + 1) (.cells #[.slice none 0 0, .slice none 0 0] 25) ∧ Blk wx C (.cells #[vA, .slice none 0 0] 25) ∧ w.heap.size ≤ C ∧ w.heap.size + 1 ≠ C ∧ Below w.heap.size w wx)
  case first =>
    have c0 : wr.cell? ⟨w.heap.size, 0, none⟩ = some (.slice (some ⟨b1, o1, none⟩) r.at_.length cap) := by rw [Q.out.cell]; rfl
    refine wp_region_T 6 (fun W' => W'.cell? ⟨w.heap.size, 0, none⟩ = some (.slice (some ⟨b1, o1, none⟩) r.at_.length cap)) (by kernel_rfl) (by kernel_rfl) c0 ?_
    intro inv hS
    have hbD : Below wr.heap.size wr wr.drew := (Below.refl _ _).drew
    generalize wr.drew = V0 at *
    replace RA := Lib.hid (owns_below RA.out hbD)
    replace Q := Lib.hid (Q.out.below hbD)
    replace Y := Lib.hid (Y.out.below hbD)
    replace BL := Lib.hid (bC BL.out hbD)
    clear hbD
    clear c0
    have c0 : V0.cell? ⟨w.heap.size, 0, none⟩ = some (.slice (some ⟨b1, o1, none⟩) r.at_.length cap) := by rw [Q.out.cell]; rfl
    refine wpAnyT_take inv (by kernel_rfl) (by omega) (i := 1) (v := .pointer (some ⟨w.heap.size, 0, none⟩)) rfl (by kernel_rfl) (by kernel_rfl) (fun _ _ _ h => h) (Or.inl ⟨by kernel_rfl, ?_⟩) (by assumption) ?_
    · rintro W' s0
      go_simp
    intro inv2
    clear inv
    have inv := inv2
    clear inv2
    simp only [Act.put, List.setIfInBounds_toArray]
    refine wpAnyT_take inv (by kernel_rfl) (by omega) (i := 2) (v := .slice (some ⟨b1, o1, none⟩) r.at_.length cap) rfl (by kernel_rfl) (by kernel_rfl) (fun _ _ _ h => h) (Or.inl ⟨by kernel_rfl, ?_⟩) (by assumption) ?_
    · rintro W' s0
      go_simp
    intro inv2
    clear inv
    have inv := inv2
    clear inv2
    simp only [Act.put]
    refine wpAnyT_ready [0, 5] (by kernel_rfl) (by simp) ?_
    refine AllReadyT.cons rfl (fun K hK => ?_) ?_
    ·
      go_simp
      refine (longs_below (.slice none 0 0) _).mono ?_
      rintro e V1 ⟨rfl, hbC⟩
      replace RA := Lib.hid (owns_below RA.out hbC)
      replace Q := Lib.hid (Q.out.below hbC)
      replace Y := Lib.hid (Y.out.below hbC)
      replace BL := Lib.hid (bC BL.out hbC)
      clear hbC
      clear c0
      have c0 : V1.cell? ⟨w.heap.size, 0, none⟩ = some (.slice (some ⟨b1, o1, none⟩) r.at_.length cap) := by rw [Q.out.cell]; rfl
      refine hK.out _ _ (fun _ => c0) (fun _ => ?_)
      clear hK K
      try simp only [Act.put]
      refine wpAnyT_ready [3, 5] (by kernel_rfl) (by simp) ?_
      refine AllReadyT.cons rfl (fun K hK => ?_) ?_
      ·
        refine Eq.mpr (if_pos ?_) ?_
        · rfl
        have hsz := BL.out.size
        have HNN := Lib.hid (ints_news (HRA.out.below BL.out))
        refine wp_append_at _ _ _ 22 rfl w.heap.size 2 ii (.int .i64 0) 1 8 undI II.out J0.out J1.out J2.out rfl (by decide) _ _ _ rfl RA.out ⟨b1, o1, none⟩ r.at_.length cap (r.at_.map (Value.int .i64)) rfl (by first | rfl | simp | (simp [pairCells_length]; done)) HNN.out (by intro u hu; obtain ⟨z, _, rfl⟩ := List.mem_map.1 hu; rfl) (by unfold maxLen; omega) (by omega) (by omega) ?_
        intro v3 V2 own gr att
        replace Q := Lib.hid (Q.out.grown RA.out (by decide) gr)
        replace Y := Lib.hid (Y.out.grown RA.out (by decide) gr)
        replace BL := Lib.hid (below_owns RA.out gr BL.out hsz)
        replace RA := Lib.hid own
        clear own gr att HNN hsz
        obtain ⟨v3a, v3n, v3c, rfl⟩ := (Row.of_owns RA.out).slice
        clear c0
        have c0 : V2.cell? ⟨w.heap.size, 0, none⟩ = some (.slice (some ⟨b1, o1, none⟩) r.at_.length cap) := by rw [Q.out.cell]; rfl
        refine hK.out _ _ (fun _ => c0) (fun _ => ?_)
        clear hK K
        try simp only [Act.put]
        replace inv := HeadM.step inv 0 (by kernel_rfl) (by omega)
        replace inv := HeadM.step inv 3 (by kernel_rfl) (by omega)
        clear hS
        have hS : V2.cell? ⟨w.heap.size, 0, none⟩ = some (.slice (some ⟨b1, o1, none⟩) r.at_.length cap) := c0
        refine wpAnyT_take inv (by kernel_rfl) (by omega) (i := 4) (v := .agg #[.slice v3a v3n v3c, .slice none 0 0]) rfl (by kernel_rfl) (by kernel_rfl) (fun _ _ _ h => h) (Or.inl ⟨by kernel_rfl, ?_⟩) (by assumption) ?_
        · rintro W' s0
          go_simp
        intro inv2
        clear inv
        have inv := inv2
        clear inv2
        simp only [Act.put, List.setIfInBounds_toArray]
        refine wpAnyT_ready [5] (by kernel_rfl) (by simp) ?_
        refine AllReadyT.cons rfl (fun K hK => ?_) AllReadyT.nil
        go_simp
        have hbA := below1 V2 (.cells #[.slice none 0 0, .slice none 0 0] 25)
        have BN5 := Lib.hid (Blk.new V2 (.cells #[.slice none 0 0, .slice none 0 0] 25))
        have SN5 : w.heap.size ≤ V2.heap.size := BL.out.size
        have NE5Y : w.heap.size + 1 ≠ V2.heap.size := by have := Y.out.lt; omega
        have AN5RA := fun g (h : Value.ownBlock (.slice v3a v3n v3c) = some g) (e : g = V2.heap.size) => show False by have := owns_block RA.out h; omega
        generalize V2.alloc (.cells #[.slice none 0 0, .slice none 0 0] 25) = V3 at *
        replace RA := Lib.hid (owns_below RA.out hbA)
        replace Q := Lib.hid (Q.out.below hbA)
        replace Y := Lib.hid (Y.out.below hbA)
        replace BL := Lib.hid (bC BL.out hbA)
        clear hbA
        clear c0
        have c0 : V3.cell? ⟨w.heap.size, 0, none⟩ = some (.slice (some ⟨b1, o1, none⟩) r.at_.length cap) := by rw [Q.out.cell]; rfl
        refine hK.out _ _ (fun _ => c0) (fun _ => ?_)
        clear hK K
        try simp only [Act.put]
        refine wpAnyT_chain (fuel := 1) rfl (by kernel_rfl) ?_
        simp only [List.drop_succ_cons, List.drop_zero]
        clear hS inv c0
        have x0 := BN5.out.cell 0
        have x1 := BN5.out.cell 1
        have z0 := BN5.out.frozen 0
        have z1 := BN5.out.frozen 1
        have xl := BN5.out.lt
        simp at x0 x1
        have NQQ := ne_types Q.out BN5.out (by decide)
        have NQY := NE5Y
        replace RA := Lib.hid (owns_setA (owns_setA RA.out (fun g h e => AN5RA g h e) 0 (.slice v3a v3n v3c)) (fun g h e => AN5RA g h e) 1 (.slice none 0 0))
        replace Q := Lib.hid ((Q.out.other NQQ (j := 0) (.slice v3a v3n v3c)).other NQQ (j := 1) (.slice none 0 0))
        replace Y := Lib.hid ((Y.out.other NQY (j := 0) (.slice v3a v3n v3c)).other NQY (j := 1) (.slice none 0 0))
        replace BL := Lib.hid ((BL.out.setCell (p := ⟨V2.heap.size, 0, none⟩) SN5 (.slice v3a v3n v3c)).setCell (p := ⟨V2.heap.size, 1, none⟩) SN5 (.slice none 0 0))
        have hU := ((BN5.out.set (j := 0) (.slice v3a v3n v3c)).set (j := 1) (.slice none 0 0))
        simp only [List.setIfInBounds_toArray, List.set_cons_zero, List.set_cons_succ] at hU
        replace BN5 := Lib.hid hU
        clear hU NQQ NQY 
        have hRA := RA.out
        rw [Nat.zero_add, List.nil_append] at hRA
        have HRA2 := Lib.hid hRA
        clear hRA
        go_wp2_with fail
        go_meet
        exact ⟨_, _, rfl, HRA2.out, Q.out, Y.out, BN5.out, SN5, NE5Y, BL.out⟩
      refine AllReadyT.cons rfl (fun K hK => ?_) AllReadyT.nil
      go_simp
      have hbA := below1 V1 (.cells #[.slice none 0 0, .slice none 0 0] 25)
      have BN5 := Lib.hid (Blk.new V1 (.cells #[.slice none 0 0, .slice none 0 0] 25))
      have SN5 : w.heap.size ≤ V1.heap.size := BL.out.size
      have NE5Y : w.heap.size + 1 ≠ V1.heap.size := by have := Y.out.lt; omega
      have AN5RA := fun g (h : Value.ownBlock (.slice none 0 0) = some g) (e : g = V1.heap.size) => show False by have := owns_block RA.out h; omega
      generalize V1.alloc (.cells #[.slice none 0 0, .slice none 0 0] 25) = V4 at *
      replace RA := Lib.hid (owns_below RA.out hbA)
      replace Q := Lib.hid (Q.out.below hbA)
      replace Y := Lib.hid (Y.out.below hbA)
      replace BL := Lib.hid (bC BL.out hbA)
      clear hbA
      clear c0
      have c0 : V4.cell? ⟨w.heap.size, 0, none⟩ = some (.slice (some ⟨b1, o1, none⟩) r.at_.length cap) := by rw [Q.out.cell]; rfl
      refine hK.out _ _ (fun _ => c0) (fun _ => ?_)
      clear hK K
      try simp only [Act.put]
      refine wpAnyT_ready [3] (by kernel_rfl) (by simp) ?_
      refine AllReadyT.cons rfl (fun K hK => ?_) AllReadyT.nil
      refine Eq.mpr (if_pos ?_) ?_
      · rfl
      have HZ5 := BN5.out.lt
      have hsz := BL.out.size
      have HNN := Lib.hid (ints_news (HRA.out.below BL.out))
      refine wp_append_at _ _ _ 22 rfl w.heap.size 2 ii (.int .i64 0) 1 8 undI II.out J0.out J1.out J2.out rfl (by decide) _ _ _ rfl RA.out ⟨b1, o1, none⟩ r.at_.length cap (r.at_.map (Value.int .i64)) rfl (by first | rfl | simp | (simp [pairCells_length]; done)) HNN.out (by intro u hu; obtain ⟨z, _, rfl⟩ := List.mem_map.1 hu; rfl) (by unfold maxLen; omega) (by omega) (by omega) ?_
      intro v3 V5 own gr att
      replace Q := Lib.hid (Q.out.grown RA.out (by decide) gr)
      replace Y := Lib.hid (Y.out.grown RA.out (by decide) gr)
      replace BN5 : Hid (Blk V5 (V1.heap.size) (.cells #[.slice none 0 0, .slice none 0 0] 25)) := Lib.hid ((gr.block _ BN5.out.lt (fun h => AN5RA _ h.symm rfl)).trans BN5.out)
      have hk5 : V1.heap.size < V4.heap.size := HZ5
      replace AN5RA : ∀ g, Value.ownBlock v3 = some g → g = V1.heap.size → False := by
        intro g h e
        rcases att with e1 | e1
        · exact AN5RA g (e1.symm.trans h) e
        · have h6 := Option.some.inj (h.symm.trans e1)
          omega
      clear hk5 HZ5
      replace BL := Lib.hid (below_owns RA.out gr BL.out hsz)
      replace RA := Lib.hid own
      clear own gr att HNN hsz
      obtain ⟨v3a, v3n, v3c, rfl⟩ := (Row.of_owns RA.out).slice
      clear c0
      have c0 : V5.cell? ⟨w.heap.size, 0, none⟩ = some (.slice (some ⟨b1, o1, none⟩) r.at_.length cap) := by rw [Q.out.cell]; rfl
      refine hK.out _ _ (fun _ => c0) (fun _ => ?_)
      clear hK K
      try simp only [Act.put]
      replace inv := HeadM.step inv 0 (by kernel_rfl) (by omega)
      replace inv := HeadM.step inv 5 (by kernel_rfl) (by omega)
      replace inv := HeadM.step inv 3 (by kernel_rfl) (by omega)
      clear hS
      have hS : V5.cell? ⟨w.heap.size, 0, none⟩ = some (.slice (some ⟨b1, o1, none⟩) r.at_.length cap) := c0
      refine wpAnyT_take inv (by kernel_rfl) (by omega) (i := 4) (v := .agg #[.slice v3a v3n v3c, .slice none 0 0]) rfl (by kernel_rfl) (by kernel_rfl) (fun _ _ _ h => h) (Or.inl ⟨by kernel_rfl, ?_⟩) (by assumption) ?_
      · rintro W' s0
        go_simp
      intro inv2
      clear inv
      have inv := inv2
      clear inv2
      simp only [Act.put, List.setIfInBounds_toArray]
      refine wpAnyT_chain (fuel := 1) rfl (by kernel_rfl) ?_
      simp only [List.drop_succ_cons, List.drop_zero]
      clear hS inv c0
      have x0 := BN5.out.cell 0
      have x1 := BN5.out.cell 1
      have z0 := BN5.out.frozen 0
      have z1 := BN5.out.frozen 1
      have xl := BN5.out.lt
      simp at x0 x1
      have NQQ := ne_types Q.out BN5.out (by decide)
      have NQY := NE5Y
      replace RA := Lib.hid (owns_setA (owns_setA RA.out (fun g h e => AN5RA g h e) 0 (.slice v3a v3n v3c)) (fun g h e => AN5RA g h e) 1 (.slice none 0 0))
      replace Q := Lib.hid ((Q.out.other NQQ (j := 0) (.slice v3a v3n v3c)).other NQQ (j := 1) (.slice none 0 0))
      replace Y := Lib.hid ((Y.out.other NQY (j := 0) (.slice v3a v3n v3c)).other NQY (j := 1) (.slice none 0 0))
      replace BL := Lib.hid ((BL.out.setCell (p := ⟨V1.heap.size, 0, none⟩) SN5 (.slice v3a v3n v3c)).setCell (p := ⟨V1.heap.size, 1, none⟩) SN5 (.slice none 0 0))
      have hU := ((BN5.out.set (j := 0) (.slice v3a v3n v3c)).set (j := 1) (.slice none 0 0))
      simp only [List.setIfInBounds_toArray, List.set_cons_zero, List.set_cons_succ] at hU
      replace BN5 := Lib.hid hU
      clear hU NQQ NQY 
      have hRA := RA.out
      rw [Nat.zero_add, List.nil_append] at hRA
      have HRA2 := Lib.hid hRA
      clear hRA
      go_wp2_with fail
      go_meet
      exact ⟨_, _, rfl, HRA2.out, Q.out, Y.out, BN5.out, SN5, NE5Y, BL.out⟩
    refine AllReadyT.cons rfl (fun K hK => ?_) AllReadyT.nil
    go_simp
    have hbA := below1 V0 (.cells #[.slice none 0 0, .slice none 0 0] 25)
    have BN5 := Lib.hid (Blk.new V0 (.cells #[.slice none 0 0, .slice none 0 0] 25))
    have SN5 : w.heap.size ≤ V0.heap.size := BL.out.size
    have NE5Y : w.heap.size + 1 ≠ V0.heap.size := by have := Y.out.lt; omega
    have AN5RA := fun g (h : Value.ownBlock (.slice none 0 0) = some g) (e : g = V0.heap.size) => show False by have := owns_block RA.out h; omega
    generalize V0.alloc (.cells #[.slice none 0 0, .slice none 0 0] 25) = V6 at *
    replace RA := Lib.hid (owns_below RA.out hbA)
    replace Q := Lib.hid (Q.out.below hbA)
    replace Y := Lib.hid (Y.out.below hbA)
    replace BL := Lib.hid (bC BL.out hbA)
    clear hbA
    clear c0
    have c0 : V6.cell? ⟨w.heap.size, 0, none⟩ = some (.slice (some ⟨b1, o1, none⟩) r.at_.length cap) := by rw [Q.out.cell]; rfl
    refine hK.out _ _ (fun _ => c0) (fun _ => ?_)
    clear hK K
    try simp only [Act.put]
    refine wpAnyT_ready [0] (by kernel_rfl) (by simp) ?_
    refine AllReadyT.cons rfl (fun K hK => ?_) AllReadyT.nil
    go_simp
    refine (longs_below (.slice none 0 0) _).mono ?_
    rintro e V7 ⟨rfl, hbC⟩
    replace RA := Lib.hid (owns_below RA.out hbC)
    replace Q := Lib.hid (Q.out.below hbC)
    replace Y := Lib.hid (Y.out.below hbC)
    replace BN5 := Lib.hid (BN5.out.below hbC)
    replace BL := Lib.hid (bC BL.out hbC)
    clear hbC
    clear c0
    have c0 : V7.cell? ⟨w.heap.size, 0, none⟩ = some (.slice (some ⟨b1, o1, none⟩) r.at_.length cap) := by rw [Q.out.cell]; rfl
    refine hK.out _ _ (fun _ => c0) (fun _ => ?_)
    clear hK K
    try simp only [Act.put]
    refine wpAnyT_ready [3] (by kernel_rfl) (by simp) ?_
    refine AllReadyT.cons rfl (fun K hK => ?_) AllReadyT.nil
    refine Eq.mpr (if_pos ?_) ?_
    · rfl
    have HZ5 := BN5.out.lt
    have hsz := BL.out.size
    have HNN := Lib.hid (ints_news (HRA.out.below BL.out))
    refine wp_append_at _ _ _ 22 rfl w.heap.size 2 ii (.int .i64 0) 1 8 undI II.out J0.out J1.out J2.out rfl (by decide) _ _ _ rfl RA.out ⟨b1, o1, none⟩ r.at_.length cap (r.at_.map (Value.int .i64)) rfl (by first | rfl | simp | (simp [pairCells_length]; done)) HNN.out (by intro u hu; obtain ⟨z, _, rfl⟩ := List.mem_map.1 hu; rfl) (by unfold maxLen; omega) (by omega) (by omega) ?_
    intro v3 V8 own gr att
    replace Q := Lib.hid (Q.out.grown RA.out (by decide) gr)
    replace Y := Lib.hid (Y.out.grown RA.out (by decide) gr)
    replace BN5 : Hid (Blk V8 (V0.heap.size) (.cells #[.slice none 0 0, .slice none 0 0] 25)) := Lib.hid ((gr.block _ BN5.out.lt (fun h => AN5RA _ h.symm rfl)).trans BN5.out)
    have hk5 : V0.heap.size < V7.heap.size := HZ5
    replace AN5RA : ∀ g, Value.ownBlock v3 = some g → g = V0.heap.size → False := by
      intro g h e
      rcases att with e1 | e1
      · exact AN5RA g (e1.symm.trans h) e
      · have h6 := Option.some.inj (h.symm.trans e1)
        omega
    clear hk5 HZ5
    replace BL := Lib.hid (below_owns RA.out gr BL.out hsz)
    replace RA := Lib.hid own
    clear own gr att HNN hsz
    obtain ⟨v3a, v3n, v3c, rfl⟩ := (Row.of_owns RA.out).slice
    clear c0
    have c0 : V8.cell? ⟨w.heap.size, 0, none⟩ = some (.slice (some ⟨b1, o1, none⟩) r.at_.length cap) := by rw [Q.out.cell]; rfl
    refine hK.out _ _ (fun _ => c0) (fun _ => ?_)
    clear hK K
    try simp only [Act.put]
    replace inv := HeadM.step inv 5 (by kernel_rfl) (by omega)
    replace inv := HeadM.step inv 0 (by kernel_rfl) (by omega)
    replace inv := HeadM.step inv 3 (by kernel_rfl) (by omega)
    clear hS
    have hS : V8.cell? ⟨w.heap.size, 0, none⟩ = some (.slice (some ⟨b1, o1, none⟩) r.at_.length cap) := c0
    refine wpAnyT_take inv (by kernel_rfl) (by omega) (i := 4) (v := .agg #[.slice v3a v3n v3c, .slice none 0 0]) rfl (by kernel_rfl) (by kernel_rfl) (fun _ _ _ h => h) (Or.inl ⟨by kernel_rfl, ?_⟩) (by assumption) ?_
    · rintro W' s0
      go_simp
    intro inv2
    clear inv
    have inv := inv2
    clear inv2
    simp only [Act.put, List.setIfInBounds_toArray]
    refine wpAnyT_chain (fuel := 1) rfl (by kernel_rfl) ?_
    simp only [List.drop_succ_cons, List.drop_zero]
    clear hS inv c0
    have x0 := BN5.out.cell 0
    have x1 := BN5.out.cell 1
    have z0 := BN5.out.frozen 0
    have z1 := BN5.out.frozen 1
    have xl := BN5.out.lt
    simp at x0 x1
    have NQQ := ne_types Q.out BN5.out (by decide)
    have NQY := NE5Y
    replace RA := Lib.hid (owns_setA (owns_setA RA.out (fun g h e => AN5RA g h e) 0 (.slice v3a v3n v3c)) (fun g h e => AN5RA g h e) 1 (.slice none 0 0))
    replace Q := Lib.hid ((Q.out.other NQQ (j := 0) (.slice v3a v3n v3c)).other NQQ (j := 1) (.slice none 0 0))
    replace Y := Lib.hid ((Y.out.other NQY (j := 0) (.slice v3a v3n v3c)).other NQY (j := 1) (.slice none 0 0))
    replace BL := Lib.hid ((BL.out.setCell (p := ⟨V0.heap.size, 0, none⟩) SN5 (.slice v3a v3n v3c)).setCell (p := ⟨V0.heap.size, 1, none⟩) SN5 (.slice none 0 0))
    have hU := ((BN5.out.set (j := 0) (.slice v3a v3n v3c)).set (j := 1) (.slice none 0 0))
    simp only [List.setIfInBounds_toArray, List.set_cons_zero, List.set_cons_succ] at hU
    replace BN5 := Lib.hid hU
    clear hU NQQ NQY 
    have hRA := RA.out
    rw [Nat.zero_add, List.nil_append] at hRA
    have HRA2 := Lib.hid hRA
    clear hRA
    go_wp2_with fail
    go_meet
    exact ⟨_, _, rfl, HRA2.out, Q.out, Y.out, BN5.out, SN5, NE5Y, BL.out⟩
  obtain ⟨C, vA, rfl, hra, hq, hy, hx, hC, hCY, hW⟩ := hcut
  clear RA Q Y BL
  rename World => w2x
  obtain ⟨a4, n4, c4, rfl⟩ := (Row.of_owns hra).slice
  have RA := Lib.hid hra
  have Q := Lib.hid hq
  have Y := Lib.hid hy
  have X := Lib.hid hx
  have BL := Lib.hid hW
  clear hra hq hy hx hW
  go_wp2_with fail
  go_loopw [6] (fun i wr => ∃ (k : Nat) (ve : Value), i = .int .i64 (k : Int) ∧ k ≤ r.at_.length ∧ wr.ownsRow w.heap.size 2 1 (.slice a4 n4 c4) r.at_.length (r.at_.map (Value.int .i64)) ∧ wr.ownsRow w.heap.size 69 2 ve k (pairCells (upto (trueF r ns) k)) ∧ Blk wr w.heap.size (.cells #[.slice (some ⟨b1, o1, none⟩) r.at_.length cap, .slice (some ⟨b2, o2, none⟩) r.low.length cap2, .slice (some ⟨b3, o3, none⟩) r.high.length cap3] 53) ∧ Blk wr (w.heap.size + 1) (.cells #[.slice none 0 0, .slice none 0 0] 25) ∧ Blk wr C (.cells #[.slice a4 n4 c4, ve] 25) ∧ Below w.heap.size w wr) (fun i _ => r.at_.length - (intOf i).toNat)
  case atStart => exact ⟨0, .slice none 0 0, rfl, Nat.zero_le _, RA.out, ⟨rfl, .inl ⟨rfl, rfl⟩⟩, Q.out, Y.out, X.out, BL.out⟩
  case round =>
    clear RA Q Y X BL
    rename_i wr
    obtain ⟨k, ve, rfl, hk, hra, hre, hq, hy, hx, hb⟩ := hrel
    obtain ⟨a5, n5, c5, rfl⟩ := (Row.of_owns hre).slice
    have RA := Lib.hid hra
    have RE := Lib.hid hre
    have Q := Lib.hid hq
    have Y := Lib.hid hy
    have X := Lib.hid hx
    have BL := Lib.hid hb
    have m0 := hq.cell 0
    simp at m0
    have ml := hq.lt
    have rk1 : IntKind.i64.wrap ((k : Int) + 1) = (k : Int) + 1 := IntWalk.i64_in _ (by omega)
    clear hra hre hq hy hx hb
    by_cases hlt : k < r.at_.length
    · have hl1 : k < r.low.length := by have := HL.out; omega
      have hl2 : k < r.high.length := by have := HL.out; omega
      obtain ⟨b2', o2', e2, hc2, hc3⟩ := HLO.out k hl1
      obtain ⟨b3', o3', e3, hc4, hc5⟩ := HHI.out k hl2
      simp only [Option.some.injEq, Addr.mk.injEq, and_true] at e2 e3
      obtain ⟨rfl, rfl⟩ := e2
      obtain ⟨rfl, rfl⟩ := e3
      have hpt := HPT.out k hlt
      have xe1 : lowD r k = r.low[k] := by simp [lowD, hl1]
      have xe2 : highD r k = r.high[k] := by simp [highD, hl2]
      rw [xe1, xe2] at hpt
      obtain ⟨la, hla⟩ : ∃ z, r.low[k].1 = z := ⟨_, rfl⟩
      obtain ⟨lb, hlb⟩ : ∃ z, r.low[k].2 = z := ⟨_, rfl⟩
      obtain ⟨ha, hha⟩ : ∃ z, r.high[k].1 = z := ⟨_, rfl⟩
      obtain ⟨hb, hhb⟩ : ∃ z, r.high[k].2 = z := ⟨_, rfl⟩
      rw [hla] at hc2 hpt
      rw [hlb] at hc3 hpt
      rw [hha] at hc4 hpt
      rw [hhb] at hc5 hpt
      obtain ⟨iN, hiN⟩ : ∃ iN : Nat, (k : Int).tmod (ns.length : Int) = (iN : Int) := ⟨k % ns.length, rfl⟩
      have hi2 : iN = k % ns.length := by have : ((k % ns.length : Nat) : Int) = (iN : Int) := hiN; omega
      have hi3 : iN < ns.length := by rw [hi2]; exact Nat.mod_lt _ (by omega)
      have hcu := HU.out iN hi3
      obtain ⟨N, hN⟩ : ∃ N, ns[iN] = N := ⟨_, rfl⟩
      rw [hN] at hcu
      have hND : nD ns k = N := by
        unfold nD
        rw [if_neg (by omega), ← hi2, List.getD_eq_getElem?_getD, List.getElem?_eq_getElem hi3]
        exact hN
      have hNb : 0 ≤ N ∧ N ≤ 65535 := by rw [← hN]; exact HNS.out _ (List.getElem_mem hi3)
      clear hN hi2
      have hz : ((ns.length : Int) == 0) = false := by rw [beq_eq_false_iff_ne]; omega
      have hz' : ¬ (ns.length : Int) = 0 := by omega
      have tz : decide ((0 : Int) < (ns.length : Int)) = true := by simp; omega
      have rw2 : IntKind.i64.wrap (iN : Int) = (iN : Int) := IntWalk.i64_in _ (by omega)
      have rw3 : IntKind.i64.wrap N = N := IntWalk.i64_in _ (by omega)
      obtain ⟨D1, hD1⟩ : ∃ z, lb - la + 1 = z := ⟨_, rfl⟩
      obtain ⟨D2, hD2⟩ : ∃ z, hb - ha + 1 = z := ⟨_, rfl⟩
      obtain ⟨Q3, hQ3⟩ : ∃ z, N.tdiv 3 = z := ⟨_, rfl⟩
      have bQ3 : 0 ≤ Q3 ∧ Q3 ≤ 65535 := by rw [← hQ3, Int.tdiv_eq_ediv_of_nonneg hNb.1]; omega
      obtain ⟨A1, hA1⟩ : ∃ z, N.tmod D1 = z := ⟨_, rfl⟩
      obtain ⟨A2, hA2⟩ : ∃ z, Q3.tmod D2 = z := ⟨_, rfl⟩
      have bA1 : 0 ≤ A1 ∧ A1 < D1 := by rw [← hA1]; exact tmodN N D1 hNb.1 (by omega)
      have bA2 : 0 ≤ A2 ∧ A2 < D2 := by rw [← hA2]; exact tmodN Q3 D2 bQ3.1 (by omega)
      have HT := Lib.hid (show trueF r ns k = (la + A1, ha + A2) by simp only [trueF, xe1, xe2, hla, hlb, hha, hhb, hND, hQ3, hD1, hD2, hA1, hA2])
      have y1 : IntKind.i64.wrap (lb - la) = lb - la := IntWalk.i64_in _ (by omega)
      have y2 : IntKind.i64.wrap (hb - ha) = hb - ha := IntWalk.i64_in _ (by omega)
      have y3 : IntKind.i64.wrap D1 = D1 := IntWalk.i64_in _ (by omega)
      have y4 : IntKind.i64.wrap D2 = D2 := IntWalk.i64_in _ (by omega)
      have y5 : IntKind.i64.wrap A1 = A1 := IntWalk.i64_in _ (by omega)
      have y6 : IntKind.i64.wrap A2 = A2 := IntWalk.i64_in _ (by omega)
      have y7 : IntKind.i64.wrap Q3 = Q3 := IntWalk.i64_in _ (by omega)
      have y8 : IntKind.i64.wrap (la + A1) = la + A1 := IntWalk.i64_in _ (by omega)
      have y9 : IntKind.i64.wrap (ha + A2) = ha + A2 := IntWalk.i64_in _ (by omega)
      have d1 : (D1 == 0) = false := by rw [beq_eq_false_iff_ne]; omega
      have d1' : ¬ D1 = 0 := by omega
      have d2 : (D2 == 0) = false := by rw [beq_eq_false_iff_ne]; omega
      have d2' : ¬ D2 = 0 := by omega
      have HY := Lib.hid (And.intro hD1 (And.intro hD2 (And.intro hQ3 (And.intro hA1 (And.intro hA2 (And.intro y1 (And.intro y2 (And.intro y3 (And.intro y4 (And.intro y5 (And.intro y6 (And.intro y7 (And.intro y8 (And.intro y9 (And.intro d1 (And.intro d1' (And.intro d2 d2')))))))))))))))))
      have c7x : wr.cell? ⟨b4, o4 + iN, none⟩ = some (.int .u16 N) := cellB hcu BL.out
      have tk : decide ((k : Int) < (r.at_.length : Int)) = true := by simp; omega
      clear hla hlb hha hhb hpt xe1 xe2 hND hcu hD1 hD2 hQ3 hA1 hA2 y1 y2 y3 y4 y5 y6 y7 y8 y9 d1 d1' d2 d2' bA1 bA2 bQ3
      go_wp2_with fail
      clear m0 ml c7x hz hz' hiN tz rw2 rw3
      have c0 : wr.cell? ⟨w.heap.size, 1, none⟩ = some (.slice (some ⟨b2, o2, none⟩) r.low.length cap2) := by rw [Q.out.cell]; rfl
      have c1x : wr.cell? ⟨w.heap.size, 2, none⟩ = some (.slice (some ⟨b3, o3, none⟩) r.high.length cap3) := by rw [Q.out.cell]; rfl
      have c2x : wr.cell? ⟨b2, o2 + k * 2, none⟩ = some (.int .i64 (la)) := cellB hc2 BL.out
      have c3x : wr.cell? ⟨b2, o2 + k * 2 + 1, none⟩ = some (.int .i64 (lb)) := cellB hc3 BL.out
      have c4x : wr.cell? ⟨b3, o3 + k * 2, none⟩ = some (.int .i64 (ha)) := cellB hc4 BL.out
      have c5x : wr.cell? ⟨b3, o3 + k * 2 + 1, none⟩ = some (.int .i64 (hb)) := cellB hc5 BL.out
      refine wp_region_T 13 (fun W' => W'.cell? ⟨w.heap.size, 1, none⟩ = some (.slice (some ⟨b2, o2, none⟩) r.low.length cap2) ∧ W'.cell? ⟨w.heap.size, 2, none⟩ = some (.slice (some ⟨b3, o3, none⟩) r.high.length cap3) ∧ W'.cell? ⟨b2, o2 + k * 2, none⟩ = some (.int .i64 (la)) ∧ W'.cell? ⟨b2, o2 + k * 2 + 1, none⟩ = some (.int .i64 (lb)) ∧ W'.cell? ⟨b3, o3 + k * 2, none⟩ = some (.int .i64 (ha)) ∧ W'.cell? ⟨b3, o3 + k * 2 + 1, none⟩ = some (.int .i64 (hb))) (by kernel_rfl) (by kernel_rfl) ⟨c0, c1x, c2x, c3x, c4x, c5x⟩ ?_
      intro inv hS
      have hbD : Below wr.heap.size wr wr.drew := (Below.refl _ _).drew
      generalize wr.drew = V0 at *
      replace RA := Lib.hid (owns_below RA.out hbD)
      replace RE := Lib.hid (owns_below RE.out hbD)
      replace Q := Lib.hid (Q.out.below hbD)
      replace Y := Lib.hid (Y.out.below hbD)
      replace X := Lib.hid (X.out.below hbD)
      replace BL := Lib.hid (bC BL.out hbD)
      clear hbD
      clear c0
      have c0 : V0.cell? ⟨w.heap.size, 1, none⟩ = some (.slice (some ⟨b2, o2, none⟩) r.low.length cap2) := by rw [Q.out.cell]; rfl
      clear c1x
      have c1x : V0.cell? ⟨w.heap.size, 2, none⟩ = some (.slice (some ⟨b3, o3, none⟩) r.high.length cap3) := by rw [Q.out.cell]; rfl
      clear c2x
      have c2x : V0.cell? ⟨b2, o2 + k * 2, none⟩ = some (.int .i64 (la)) := cellB hc2 BL.out
      clear c3x
      have c3x : V0.cell? ⟨b2, o2 + k * 2 + 1, none⟩ = some (.int .i64 (lb)) := cellB hc3 BL.out
      clear c4x
      have c4x : V0.cell? ⟨b3, o3 + k * 2, none⟩ = some (.int .i64 (ha)) := cellB hc4 BL.out
      clear c5x
      have c5x : V0.cell? ⟨b3, o3 + k * 2 + 1, none⟩ = some (.int .i64 (hb)) := cellB hc5 BL.out
      refine wpAnyT_take inv (by kernel_rfl) (by omega) (i := 0) (v := .pointer (some ⟨w.heap.size, 1, none⟩)) rfl (by kernel_rfl) (by kernel_rfl) (fun _ _ _ h => h) (Or.inl ⟨by kernel_rfl, ?_⟩) (by assumption) ?_
      · rintro W' ⟨s0, s1, s2, s3, s4, s5⟩
        go_simp
      intro inv2
      clear inv
      have inv := inv2
      clear inv2
      simp only [Act.put, List.setIfInBounds_toArray]
      refine wpAnyT_take inv (by kernel_rfl) (by omega) (i := 1) (v := .slice (some ⟨b2, o2, none⟩) r.low.length cap2) rfl (by kernel_rfl) (by kernel_rfl) (fun _ _ _ h => h) (Or.inl ⟨by kernel_rfl, ?_⟩) (by assumption) ?_
      · rintro W' ⟨s0, s1, s2, s3, s4, s5⟩
        go_simp
      intro inv2
      clear inv
      have inv := inv2
      clear inv2
      simp only [Act.put]
      refine wpAnyT_take inv (by kernel_rfl) (by omega) (i := 2) (v := .int .i64 (k : Int)) rfl (by kernel_rfl) (by kernel_rfl) (fun _ _ _ h => h) (Or.inl ⟨by kernel_rfl, ?_⟩) (by assumption) ?_
      · rintro W' ⟨s0, s1, s2, s3, s4, s5⟩
        go_simp
      intro inv2
      clear inv
      have inv := inv2
      clear inv2
      simp only [Act.put]
      refine wpAnyT_take inv (by kernel_rfl) (by omega) (i := 3) (v := .pointer (some ⟨b2, o2 + k * 2, none⟩)) rfl (by kernel_rfl) (by kernel_rfl) (fun _ _ _ h => h) (Or.inl ⟨by kernel_rfl, ?_⟩) (by assumption) ?_
      · rintro W' ⟨s0, s1, s2, s3, s4, s5⟩
        go_simp
      intro inv2
      clear inv
      have inv := inv2
      clear inv2
      simp only [Act.put]
      refine wpAnyT_take inv (by kernel_rfl) (by omega) (i := 4) (v := .agg #[.int .i64 la, .int .i64 lb]) rfl (by kernel_rfl) (by kernel_rfl) (fun _ _ _ h => h) (Or.inl ⟨by kernel_rfl, ?_⟩) (by assumption) ?_
      · rintro W' ⟨s0, s1, s2, s3, s4, s5⟩
        go_simp
      intro inv2
      clear inv
      have inv := inv2
      clear inv2
      simp only [Act.put]
      refine wpAnyT_take inv (by kernel_rfl) (by omega) (i := 5) (v := .pointer (some ⟨w.heap.size, 2, none⟩)) rfl (by kernel_rfl) (by kernel_rfl) (fun _ _ _ h => h) (Or.inl ⟨by kernel_rfl, ?_⟩) (by assumption) ?_
      · rintro W' ⟨s0, s1, s2, s3, s4, s5⟩
        go_simp
      intro inv2
      clear inv
      have inv := inv2
      clear inv2
      simp only [Act.put]
      refine wpAnyT_take inv (by kernel_rfl) (by omega) (i := 6) (v := .slice (some ⟨b3, o3, none⟩) r.high.length cap3) rfl (by kernel_rfl) (by kernel_rfl) (fun _ _ _ h => h) (Or.inl ⟨by kernel_rfl, ?_⟩) (by assumption) ?_
      · rintro W' ⟨s0, s1, s2, s3, s4, s5⟩
        go_simp
      intro inv2
      clear inv
      have inv := inv2
      clear inv2
      simp only [Act.put]
      refine wpAnyT_take inv (by kernel_rfl) (by omega) (i := 7) (v := .int .i64 (k : Int)) rfl (by kernel_rfl) (by kernel_rfl) (fun _ _ _ h => h) (Or.inl ⟨by kernel_rfl, ?_⟩) (by assumption) ?_
      · rintro W' ⟨s0, s1, s2, s3, s4, s5⟩
        go_simp
      intro inv2
      clear inv
      have inv := inv2
      clear inv2
      simp only [Act.put]
      refine wpAnyT_take inv (by kernel_rfl) (by omega) (i := 8) (v := .pointer (some ⟨b3, o3 + k * 2, none⟩)) rfl (by kernel_rfl) (by kernel_rfl) (fun _ _ _ h => h) (Or.inl ⟨by kernel_rfl, ?_⟩) (by assumption) ?_
      · rintro W' ⟨s0, s1, s2, s3, s4, s5⟩
        go_simp
      intro inv2
      clear inv
      have inv := inv2
      clear inv2
      simp only [Act.put]
      refine wpAnyT_take inv (by kernel_rfl) (by omega) (i := 9) (v := .agg #[.int .i64 ha, .int .i64 hb]) rfl (by kernel_rfl) (by kernel_rfl) (fun _ _ _ h => h) (Or.inl ⟨by kernel_rfl, ?_⟩) (by assumption) ?_
      · rintro W' ⟨s0, s1, s2, s3, s4, s5⟩
        go_simp
      intro inv2
      clear inv
      have inv := inv2
      clear inv2
      simp only [Act.put]
      refine wpAnyT_ready [10, 11] (by kernel_rfl) (by simp) ?_
      refine AllReadyT.cons rfl (fun K hK => ?_) ?_
      ·
        go_simp
        have hbA := below1 V0 (.cells #[.int .i64 0, .int .i64 0] 69)
        have BN10 := Lib.hid (Blk.new V0 (.cells #[.int .i64 0, .int .i64 0] 69))
        have SN10 : w.heap.size ≤ V0.heap.size := BL.out.size
        have AN10RA := fun g (h : Value.ownBlock (.slice a4 n4 c4) = some g) (e : g = V0.heap.size) => show False by have := owns_block RA.out h; omega
        have AN10RE := fun g (h : Value.ownBlock (.slice a5 n5 c5) = some g) (e : g = V0.heap.size) => show False by have := owns_block RE.out h; omega
        generalize V0.alloc (.cells #[.int .i64 0, .int .i64 0] 69) = V1 at *
        replace RA := Lib.hid (owns_below RA.out hbA)
        replace RE := Lib.hid (owns_below RE.out hbA)
        replace Q := Lib.hid (Q.out.below hbA)
        replace Y := Lib.hid (Y.out.below hbA)
        replace X := Lib.hid (X.out.below hbA)
        replace BL := Lib.hid (bC BL.out hbA)
        clear hbA
        clear c0
        have c0 : V1.cell? ⟨w.heap.size, 1, none⟩ = some (.slice (some ⟨b2, o2, none⟩) r.low.length cap2) := by rw [Q.out.cell]; rfl
        clear c1x
        have c1x : V1.cell? ⟨w.heap.size, 2, none⟩ = some (.slice (some ⟨b3, o3, none⟩) r.high.length cap3) := by rw [Q.out.cell]; rfl
        clear c2x
        have c2x : V1.cell? ⟨b2, o2 + k * 2, none⟩ = some (.int .i64 (la)) := cellB hc2 BL.out
        clear c3x
        have c3x : V1.cell? ⟨b2, o2 + k * 2 + 1, none⟩ = some (.int .i64 (lb)) := cellB hc3 BL.out
        clear c4x
        have c4x : V1.cell? ⟨b3, o3 + k * 2, none⟩ = some (.int .i64 (ha)) := cellB hc4 BL.out
        clear c5x
        have c5x : V1.cell? ⟨b3, o3 + k * 2 + 1, none⟩ = some (.int .i64 (hb)) := cellB hc5 BL.out
        refine hK.out _ _ (fun _ => ⟨c0, c1x, c2x, c3x, c4x, c5x⟩) (fun _ => ?_)
        clear hK K
        try simp only [Act.put]
        refine wpAnyT_ready [11] (by kernel_rfl) (by simp) ?_
        refine AllReadyT.cons rfl (fun K hK => ?_) AllReadyT.nil
        go_simp
        have hbA := below1 V1 (.cells #[.int .i64 0, .int .i64 0] 69)
        have BN11 := Lib.hid (Blk.new V1 (.cells #[.int .i64 0, .int .i64 0] 69))
        have SN11 : w.heap.size ≤ V1.heap.size := BL.out.size
        have NB10x11 : V0.heap.size ≠ V1.heap.size := by have := BN10.out.lt; omega
        have AN11RA := fun g (h : Value.ownBlock (.slice a4 n4 c4) = some g) (e : g = V1.heap.size) => show False by have := owns_block RA.out h; omega
        have AN11RE := fun g (h : Value.ownBlock (.slice a5 n5 c5) = some g) (e : g = V1.heap.size) => show False by have := owns_block RE.out h; omega
        generalize V1.alloc (.cells #[.int .i64 0, .int .i64 0] 69) = V2 at *
        replace RA := Lib.hid (owns_below RA.out hbA)
        replace RE := Lib.hid (owns_below RE.out hbA)
        replace Q := Lib.hid (Q.out.below hbA)
        replace Y := Lib.hid (Y.out.below hbA)
        replace X := Lib.hid (X.out.below hbA)
        replace BN10 := Lib.hid (BN10.out.below hbA)
        replace BL := Lib.hid (bC BL.out hbA)
        clear hbA
        clear c0
        have c0 : V2.cell? ⟨w.heap.size, 1, none⟩ = some (.slice (some ⟨b2, o2, none⟩) r.low.length cap2) := by rw [Q.out.cell]; rfl
        clear c1x
        have c1x : V2.cell? ⟨w.heap.size, 2, none⟩ = some (.slice (some ⟨b3, o3, none⟩) r.high.length cap3) := by rw [Q.out.cell]; rfl
        clear c2x
        have c2x : V2.cell? ⟨b2, o2 + k * 2, none⟩ = some (.int .i64 (la)) := cellB hc2 BL.out
        clear c3x
        have c3x : V2.cell? ⟨b2, o2 + k * 2 + 1, none⟩ = some (.int .i64 (lb)) := cellB hc3 BL.out
        clear c4x
        have c4x : V2.cell? ⟨b3, o3 + k * 2, none⟩ = some (.int .i64 (ha)) := cellB hc4 BL.out
        clear c5x
        have c5x : V2.cell? ⟨b3, o3 + k * 2 + 1, none⟩ = some (.int .i64 (hb)) := cellB hc5 BL.out
        refine hK.out _ _ (fun _ => ⟨c0, c1x, c2x, c3x, c4x, c5x⟩) (fun _ => ?_)
        clear hK K
        try simp only [Act.put]
        refine wpAnyT_ready [12] (by kernel_rfl) (by simp) ?_
        refine AllReadyT.cons rfl (fun K hK => ?_) AllReadyT.nil
        have a0 := BN10.out.cell 0
        have az0 := BN10.out.frozen 0
        have a1 := BN10.out.cell 1
        have az1 := BN10.out.frozen 1
        have al := BN10.out.lt
        simp at a0 a1
        go_simp
        clear al a0 az0 a1 az1
        have NQQ := ne_types Q.out BN10.out (by decide)
        have NQY := ne_types Y.out BN10.out (by decide)
        have NQX := ne_types X.out BN10.out (by decide)
        replace RA := Lib.hid (owns_setA (owns_setA RA.out (fun g h e => AN10RA g h e) 0 (.int .i64 (la))) (fun g h e => AN10RA g h e) 1 (.int .i64 (lb)))
        replace RE := Lib.hid (owns_setA (owns_setA RE.out (fun g h e => AN10RE g h e) 0 (.int .i64 (la))) (fun g h e => AN10RE g h e) 1 (.int .i64 (lb)))
        replace Q := Lib.hid ((Q.out.other NQQ (j := 0) (.int .i64 (la))).other NQQ (j := 1) (.int .i64 (lb)))
        replace Y := Lib.hid ((Y.out.other NQY (j := 0) (.int .i64 (la))).other NQY (j := 1) (.int .i64 (lb)))
        replace X := Lib.hid ((X.out.other NQX (j := 0) (.int .i64 (la))).other NQX (j := 1) (.int .i64 (lb)))
        have NX11 : V1.heap.size ≠ V0.heap.size := by first | exact NB11x10 | exact NB10x11.symm
        replace BN11 := Lib.hid ((BN11.out.other NX11 (j := 0) (.int .i64 (la))).other NX11 (j := 1) (.int .i64 (lb)))
        replace BL := Lib.hid ((BL.out.setCell (p := ⟨V0.heap.size, 0, none⟩) SN10 (.int .i64 (la))).setCell (p := ⟨V0.heap.size, 1, none⟩) SN10 (.int .i64 (lb)))
        have hU := ((BN10.out.set (j := 0) (.int .i64 (la))).set (j := 1) (.int .i64 (lb)))
        simp only [List.setIfInBounds_toArray, List.set_cons_zero, List.set_cons_succ] at hU
        replace BN10 := Lib.hid hU
        clear hU NQQ NQY NQX NX11
        generalize (V2.setCell ⟨V0.heap.size, 0, none⟩ (.int .i64 (la))).setCell ⟨V0.heap.size, 1, none⟩ (.int .i64 (lb)) = V3 at *
        clear c0
        have c0 : V3.cell? ⟨w.heap.size, 1, none⟩ = some (.slice (some ⟨b2, o2, none⟩) r.low.length cap2) := by rw [Q.out.cell]; rfl
        clear c1x
        have c1x : V3.cell? ⟨w.heap.size, 2, none⟩ = some (.slice (some ⟨b3, o3, none⟩) r.high.length cap3) := by rw [Q.out.cell]; rfl
        clear c2x
        have c2x : V3.cell? ⟨b2, o2 + k * 2, none⟩ = some (.int .i64 (la)) := cellB hc2 BL.out
        clear c3x
        have c3x : V3.cell? ⟨b2, o2 + k * 2 + 1, none⟩ = some (.int .i64 (lb)) := cellB hc3 BL.out
        clear c4x
        have c4x : V3.cell? ⟨b3, o3 + k * 2, none⟩ = some (.int .i64 (ha)) := cellB hc4 BL.out
        clear c5x
        have c5x : V3.cell? ⟨b3, o3 + k * 2 + 1, none⟩ = some (.int .i64 (hb)) := cellB hc5 BL.out
        refine hK.out _ _ (fun _ => ⟨c0, c1x, c2x, c3x, c4x, c5x⟩) (fun _ => ?_)
        clear hK K
        try simp only [Act.put]
        refine wpAnyT_chain (fuel := 1) rfl (by kernel_rfl) ?_
        simp only [List.drop_succ_cons, List.drop_zero]
        clear hS inv c0 c1x c2x c3x c4x c5x
        have a0 := BN11.out.cell 0
        have az0 := BN11.out.frozen 0
        have a1 := BN11.out.cell 1
        have az1 := BN11.out.frozen 1
        have al := BN11.out.lt
        simp at a0 a1
        have NQQ := ne_types Q.out BN11.out (by decide)
        have NQY := ne_types Y.out BN11.out (by decide)
        have NQX := ne_types X.out BN11.out (by decide)
        replace RA := Lib.hid (owns_setA (owns_setA RA.out (fun g h e => AN11RA g h e) 0 (.int .i64 (ha))) (fun g h e => AN11RA g h e) 1 (.int .i64 (hb)))
        replace RE := Lib.hid (owns_setA (owns_setA RE.out (fun g h e => AN11RE g h e) 0 (.int .i64 (ha))) (fun g h e => AN11RE g h e) 1 (.int .i64 (hb)))
        replace Q := Lib.hid ((Q.out.other NQQ (j := 0) (.int .i64 (ha))).other NQQ (j := 1) (.int .i64 (hb)))
        replace Y := Lib.hid ((Y.out.other NQY (j := 0) (.int .i64 (ha))).other NQY (j := 1) (.int .i64 (hb)))
        replace X := Lib.hid ((X.out.other NQX (j := 0) (.int .i64 (ha))).other NQX (j := 1) (.int .i64 (hb)))
        have NX10 : V0.heap.size ≠ V1.heap.size := by first | exact NB10x11 | exact NB11x10.symm
        replace BN10 := Lib.hid ((BN10.out.other NX10 (j := 0) (.int .i64 (ha))).other NX10 (j := 1) (.int .i64 (hb)))
        replace BL := Lib.hid ((BL.out.setCell (p := ⟨V1.heap.size, 0, none⟩) SN11 (.int .i64 (ha))).setCell (p := ⟨V1.heap.size, 1, none⟩) SN11 (.int .i64 (hb)))
        have hU := ((BN11.out.set (j := 0) (.int .i64 (ha))).set (j := 1) (.int .i64 (hb)))
        simp only [List.setIfInBounds_toArray, List.set_cons_zero, List.set_cons_succ] at hU
        replace BN11 := Lib.hid hU
        clear hU NQQ NQY NQX NX10
        go_wp2_with fail
        clear a0 a1 az0 az1 al
        generalize (V3.setCell ⟨V1.heap.size, 0, none⟩ (.int .i64 (ha))).setCell ⟨V1.heap.size, 1, none⟩ (.int .i64 (hb)) = wz at *
        obtain ⟨hD1, hD2, hQ3, hA1, hA2, y1, y2, y3, y4, y5, y6, y7, y8, y9, d1, d1', d2, d2'⟩ := HY.out
        have e0 : wz.cell? ⟨C, 1, none⟩ = some (.slice a5 n5 c5) := by rw [X.out.cell]; rfl
        have e1 : wz.cell? ⟨V0.heap.size, 0, none⟩ = some (.int .i64 (la)) := by rw [BN10.out.cell]; rfl
        have e2x : wz.cell? ⟨V0.heap.size, 1, none⟩ = some (.int .i64 (lb)) := by rw [BN10.out.cell]; rfl
        have e3x : wz.cell? ⟨V1.heap.size, 0, none⟩ = some (.int .i64 (ha)) := by rw [BN11.out.cell]; rfl
        have e4x : wz.cell? ⟨V1.heap.size, 1, none⟩ = some (.int .i64 (hb)) := by rw [BN11.out.cell]; rfl
        refine wp_region_T 28 (fun W' => W'.cell? ⟨C, 1, none⟩ = some (.slice a5 n5 c5) ∧ W'.cell? ⟨V0.heap.size, 0, none⟩ = some (.int .i64 (la)) ∧ W'.cell? ⟨V0.heap.size, 1, none⟩ = some (.int .i64 (lb)) ∧ W'.cell? ⟨V1.heap.size, 0, none⟩ = some (.int .i64 (ha)) ∧ W'.cell? ⟨V1.heap.size, 1, none⟩ = some (.int .i64 (hb))) (by kernel_rfl) (by kernel_rfl) ⟨e0, e1, e2x, e3x, e4x⟩ ?_
        intro inv hS
        have hbD : Below wz.heap.size wz wz.drew := (Below.refl _ _).drew
        generalize wz.drew = U0 at *
        replace RA := Lib.hid (owns_below RA.out hbD)
        replace RE := Lib.hid (owns_below RE.out hbD)
        replace Q := Lib.hid (Q.out.below hbD)
        replace Y := Lib.hid (Y.out.below hbD)
        replace X := Lib.hid (X.out.below hbD)
        replace BN10 := Lib.hid (BN10.out.below hbD)
        replace BN11 := Lib.hid (BN11.out.below hbD)
        replace BL := Lib.hid (bC BL.out hbD)
        clear hbD
        clear e0
        have e0 : U0.cell? ⟨C, 1, none⟩ = some (.slice a5 n5 c5) := by rw [X.out.cell]; rfl
        clear e1
        have e1 : U0.cell? ⟨V0.heap.size, 0, none⟩ = some (.int .i64 (la)) := by rw [BN10.out.cell]; rfl
        clear e2x
        have e2x : U0.cell? ⟨V0.heap.size, 1, none⟩ = some (.int .i64 (lb)) := by rw [BN10.out.cell]; rfl
        clear e3x
        have e3x : U0.cell? ⟨V1.heap.size, 0, none⟩ = some (.int .i64 (ha)) := by rw [BN11.out.cell]; rfl
        clear e4x
        have e4x : U0.cell? ⟨V1.heap.size, 1, none⟩ = some (.int .i64 (hb)) := by rw [BN11.out.cell]; rfl
        refine wpAnyT_take inv (by kernel_rfl) (by omega) (i := 0) (v := .pointer (some ⟨C, 1, none⟩)) rfl (by kernel_rfl) (by kernel_rfl) (fun _ _ _ h => h) (Or.inl ⟨by kernel_rfl, ?_⟩) (by assumption) ?_
        · rintro W' ⟨s0, s1, s2, s3, s4⟩
          go_simp
        intro inv2
        clear inv
        have inv := inv2
        clear inv2
        simp only [Act.put, List.setIfInBounds_toArray]
        refine wpAnyT_take inv (by kernel_rfl) (by omega) (i := 1) (v := .slice a5 n5 c5) rfl (by kernel_rfl) (by kernel_rfl) (fun _ _ _ h => h) (Or.inl ⟨by kernel_rfl, ?_⟩) (by assumption) ?_
        · rintro W' ⟨s0, s1, s2, s3, s4⟩
          go_simp
        intro inv2
        clear inv
        have inv := inv2
        clear inv2
        simp only [Act.put]
        refine wpAnyT_take inv (by kernel_rfl) (by omega) (i := 2) (v := .pointer (some ⟨V0.heap.size, 0, none⟩)) rfl (by kernel_rfl) (by kernel_rfl) (fun _ _ _ h => h) (Or.inl ⟨by kernel_rfl, ?_⟩) (by assumption) ?_
        · rintro W' ⟨s0, s1, s2, s3, s4⟩
          go_simp
        intro inv2
        clear inv
        have inv := inv2
        clear inv2
        simp only [Act.put]
        refine wpAnyT_take inv (by kernel_rfl) (by omega) (i := 3) (v := .int .i64 (la)) rfl (by kernel_rfl) (by kernel_rfl) (fun _ _ _ h => h) (Or.inl ⟨by kernel_rfl, ?_⟩) (by assumption) ?_
        · rintro W' ⟨s0, s1, s2, s3, s4⟩
          go_simp
        intro inv2
        clear inv
        have inv := inv2
        clear inv2
        simp only [Act.put]
        refine wpAnyT_take inv (by kernel_rfl) (by omega) (i := 4) (v := .int .i64 (N)) rfl (by kernel_rfl) (by kernel_rfl) (fun _ _ _ h => h) (Or.inl ⟨by kernel_rfl, ?_⟩) (by assumption) ?_
        · rintro W' ⟨s0, s1, s2, s3, s4⟩
          go_simp
        intro inv2
        clear inv
        have inv := inv2
        clear inv2
        simp only [Act.put]
        refine wpAnyT_take inv (by kernel_rfl) (by omega) (i := 5) (v := .pointer (some ⟨V0.heap.size, 1, none⟩)) rfl (by kernel_rfl) (by kernel_rfl) (fun _ _ _ h => h) (Or.inl ⟨by kernel_rfl, ?_⟩) (by assumption) ?_
        · rintro W' ⟨s0, s1, s2, s3, s4⟩
          go_simp
        intro inv2
        clear inv
        have inv := inv2
        clear inv2
        simp only [Act.put]
        refine wpAnyT_take inv (by kernel_rfl) (by omega) (i := 6) (v := .int .i64 (lb)) rfl (by kernel_rfl) (by kernel_rfl) (fun _ _ _ h => h) (Or.inl ⟨by kernel_rfl, ?_⟩) (by assumption) ?_
        · rintro W' ⟨s0, s1, s2, s3, s4⟩
          go_simp
        intro inv2
        clear inv
        have inv := inv2
        clear inv2
        simp only [Act.put]
        refine wpAnyT_take inv (by kernel_rfl) (by omega) (i := 7) (v := .pointer (some ⟨V0.heap.size, 0, none⟩)) rfl (by kernel_rfl) (by kernel_rfl) (fun _ _ _ h => h) (Or.inl ⟨by kernel_rfl, ?_⟩) (by assumption) ?_
        · rintro W' ⟨s0, s1, s2, s3, s4⟩
          go_simp
        intro inv2
        clear inv
        have inv := inv2
        clear inv2
        simp only [Act.put]
        refine wpAnyT_take inv (by kernel_rfl) (by omega) (i := 8) (v := .int .i64 (la)) rfl (by kernel_rfl) (by kernel_rfl) (fun _ _ _ h => h) (Or.inl ⟨by kernel_rfl, ?_⟩) (by assumption) ?_
        · rintro W' ⟨s0, s1, s2, s3, s4⟩
          go_simp
        intro inv2
        clear inv
        have inv := inv2
        clear inv2
        simp only [Act.put]
        refine wpAnyT_take inv (by kernel_rfl) (by omega) (i := 9) (v := .int .i64 (lb - la)) rfl (by kernel_rfl) (by kernel_rfl) (fun _ _ _ h => h) (Or.inl ⟨by kernel_rfl, ?_⟩) (by assumption) ?_
        · rintro W' ⟨s0, s1, s2, s3, s4⟩
          go_simp
        intro inv2
        clear inv
        have inv := inv2
        clear inv2
        simp only [Act.put]
        refine wpAnyT_take inv (by kernel_rfl) (by omega) (i := 10) (v := .int .i64 (D1)) rfl (by kernel_rfl) (by kernel_rfl) (fun _ _ _ h => h) (Or.inl ⟨by kernel_rfl, ?_⟩) (by assumption) ?_
        · rintro W' ⟨s0, s1, s2, s3, s4⟩
          go_simp
        intro inv2
        clear inv
        have inv := inv2
        clear inv2
        simp only [Act.put]
        refine wpAnyT_take inv (by kernel_rfl) (by omega) (i := 11) (v := .int .i64 (A1)) rfl (by kernel_rfl) (by kernel_rfl) (fun _ _ _ h => h) (Or.inl ⟨by kernel_rfl, ?_⟩) (by assumption) ?_
        · rintro W' ⟨s0, s1, s2, s3, s4⟩
          go_simp
        intro inv2
        clear inv
        have inv := inv2
        clear inv2
        simp only [Act.put]
        refine wpAnyT_take inv (by kernel_rfl) (by omega) (i := 12) (v := .int .i64 (la + A1)) rfl (by kernel_rfl) (by kernel_rfl) (fun _ _ _ h => h) (Or.inl ⟨by kernel_rfl, ?_⟩) (by assumption) ?_
        · rintro W' ⟨s0, s1, s2, s3, s4⟩
          go_simp
        intro inv2
        clear inv
        have inv := inv2
        clear inv2
        simp only [Act.put]
        refine wpAnyT_take inv (by kernel_rfl) (by omega) (i := 13) (v := .pointer (some ⟨V1.heap.size, 0, none⟩)) rfl (by kernel_rfl) (by kernel_rfl) (fun _ _ _ h => h) (Or.inl ⟨by kernel_rfl, ?_⟩) (by assumption) ?_
        · rintro W' ⟨s0, s1, s2, s3, s4⟩
          go_simp
        intro inv2
        clear inv
        have inv := inv2
        clear inv2
        simp only [Act.put]
        refine wpAnyT_take inv (by kernel_rfl) (by omega) (i := 14) (v := .int .i64 (ha)) rfl (by kernel_rfl) (by kernel_rfl) (fun _ _ _ h => h) (Or.inl ⟨by kernel_rfl, ?_⟩) (by assumption) ?_
        · rintro W' ⟨s0, s1, s2, s3, s4⟩
          go_simp
        intro inv2
        clear inv
        have inv := inv2
        clear inv2
        simp only [Act.put]
        refine wpAnyT_take inv (by kernel_rfl) (by omega) (i := 15) (v := .int .i64 (N)) rfl (by kernel_rfl) (by kernel_rfl) (fun _ _ _ h => h) (Or.inl ⟨by kernel_rfl, ?_⟩) (by assumption) ?_
        · rintro W' ⟨s0, s1, s2, s3, s4⟩
          go_simp
        intro inv2
        clear inv
        have inv := inv2
        clear inv2
        simp only [Act.put]
        refine wpAnyT_take inv (by kernel_rfl) (by omega) (i := 16) (v := .int .i64 (Q3)) rfl (by kernel_rfl) (by kernel_rfl) (fun _ _ _ h => h) (Or.inl ⟨by kernel_rfl, ?_⟩) (by assumption) ?_
        · rintro W' ⟨s0, s1, s2, s3, s4⟩
          go_simp
        intro inv2
        clear inv
        have inv := inv2
        clear inv2
        simp only [Act.put]
        refine wpAnyT_take inv (by kernel_rfl) (by omega) (i := 17) (v := .pointer (some ⟨V1.heap.size, 1, none⟩)) rfl (by kernel_rfl) (by kernel_rfl) (fun _ _ _ h => h) (Or.inl ⟨by kernel_rfl, ?_⟩) (by assumption) ?_
        · rintro W' ⟨s0, s1, s2, s3, s4⟩
          go_simp
        intro inv2
        clear inv
        have inv := inv2
        clear inv2
        simp only [Act.put]
        refine wpAnyT_take inv (by kernel_rfl) (by omega) (i := 18) (v := .int .i64 (hb)) rfl (by kernel_rfl) (by kernel_rfl) (fun _ _ _ h => h) (Or.inl ⟨by kernel_rfl, ?_⟩) (by assumption) ?_
        · rintro W' ⟨s0, s1, s2, s3, s4⟩
          go_simp
        intro inv2
        clear inv
        have inv := inv2
        clear inv2
        simp only [Act.put]
        refine wpAnyT_take inv (by kernel_rfl) (by omega) (i := 19) (v := .pointer (some ⟨V1.heap.size, 0, none⟩)) rfl (by kernel_rfl) (by kernel_rfl) (fun _ _ _ h => h) (Or.inl ⟨by kernel_rfl, ?_⟩) (by assumption) ?_
        · rintro W' ⟨s0, s1, s2, s3, s4⟩
          go_simp
        intro inv2
        clear inv
        have inv := inv2
        clear inv2
        simp only [Act.put]
        refine wpAnyT_take inv (by kernel_rfl) (by omega) (i := 20) (v := .int .i64 (ha)) rfl (by kernel_rfl) (by kernel_rfl) (fun _ _ _ h => h) (Or.inl ⟨by kernel_rfl, ?_⟩) (by assumption) ?_
        · rintro W' ⟨s0, s1, s2, s3, s4⟩
          go_simp
        intro inv2
        clear inv
        have inv := inv2
        clear inv2
        simp only [Act.put]
        refine wpAnyT_take inv (by kernel_rfl) (by omega) (i := 21) (v := .int .i64 (hb - ha)) rfl (by kernel_rfl) (by kernel_rfl) (fun _ _ _ h => h) (Or.inl ⟨by kernel_rfl, ?_⟩) (by assumption) ?_
        · rintro W' ⟨s0, s1, s2, s3, s4⟩
          go_simp
        intro inv2
        clear inv
        have inv := inv2
        clear inv2
        simp only [Act.put]
        refine wpAnyT_take inv (by kernel_rfl) (by omega) (i := 22) (v := .int .i64 (D2)) rfl (by kernel_rfl) (by kernel_rfl) (fun _ _ _ h => h) (Or.inl ⟨by kernel_rfl, ?_⟩) (by assumption) ?_
        · rintro W' ⟨s0, s1, s2, s3, s4⟩
          go_simp
        intro inv2
        clear inv
        have inv := inv2
        clear inv2
        simp only [Act.put]
        refine wpAnyT_take inv (by kernel_rfl) (by omega) (i := 23) (v := .int .i64 (A2)) rfl (by kernel_rfl) (by kernel_rfl) (fun _ _ _ h => h) (Or.inl ⟨by kernel_rfl, ?_⟩) (by assumption) ?_
        · rintro W' ⟨s0, s1, s2, s3, s4⟩
          go_simp
        intro inv2
        clear inv
        have inv := inv2
        clear inv2
        simp only [Act.put]
        refine wpAnyT_take inv (by kernel_rfl) (by omega) (i := 24) (v := .int .i64 (ha + A2)) rfl (by kernel_rfl) (by kernel_rfl) (fun _ _ _ h => h) (Or.inl ⟨by kernel_rfl, ?_⟩) (by assumption) ?_
        · rintro W' ⟨s0, s1, s2, s3, s4⟩
          go_simp
        intro inv2
        clear inv
        have inv := inv2
        clear inv2
        simp only [Act.put]
        refine wpAnyT_ready [25] (by kernel_rfl) (by simp) ?_
        refine AllReadyT.cons rfl (fun K hK => ?_) AllReadyT.nil
        go_simp
        refine (to_any (la + A1) (ha + A2) _).mono ?_
        rintro e U1 ⟨rfl, hbC⟩
        replace RA := Lib.hid (owns_below RA.out hbC)
        replace RE := Lib.hid (owns_below RE.out hbC)
        replace Q := Lib.hid (Q.out.below hbC)
        replace Y := Lib.hid (Y.out.below hbC)
        replace X := Lib.hid (X.out.below hbC)
        replace BN10 := Lib.hid (BN10.out.below hbC)
        replace BN11 := Lib.hid (BN11.out.below hbC)
        replace BL := Lib.hid (bC BL.out hbC)
        clear hbC
        clear e0
        have e0 : U1.cell? ⟨C, 1, none⟩ = some (.slice a5 n5 c5) := by rw [X.out.cell]; rfl
        clear e1
        have e1 : U1.cell? ⟨V0.heap.size, 0, none⟩ = some (.int .i64 (la)) := by rw [BN10.out.cell]; rfl
        clear e2x
        have e2x : U1.cell? ⟨V0.heap.size, 1, none⟩ = some (.int .i64 (lb)) := by rw [BN10.out.cell]; rfl
        clear e3x
        have e3x : U1.cell? ⟨V1.heap.size, 0, none⟩ = some (.int .i64 (ha)) := by rw [BN11.out.cell]; rfl
        clear e4x
        have e4x : U1.cell? ⟨V1.heap.size, 1, none⟩ = some (.int .i64 (hb)) := by rw [BN11.out.cell]; rfl
        refine hK.out _ _ (fun _ => ⟨e0, e1, e2x, e3x, e4x⟩) (fun _ => ?_)
        clear hK K
        try simp only [Act.put]
        refine wpAnyT_ready [26] (by kernel_rfl) (by simp) ?_
        refine AllReadyT.cons rfl (fun K hK => ?_) AllReadyT.nil
        go_simp
        have hbA := below1 U1 (.cells #[.int .i64 (la + A1), .int .i64 (ha + A2)] 69)
        have BN26 := Lib.hid (Blk.new U1 (.cells #[.int .i64 (la + A1), .int .i64 (ha + A2)] 69))
        have SN26 : w.heap.size ≤ U1.heap.size := BL.out.size
        have NB10x26 : V0.heap.size ≠ U1.heap.size := by have := BN10.out.lt; omega
        have NB11x26 : V1.heap.size ≠ U1.heap.size := by have := BN11.out.lt; omega
        have AN26RA := fun g (h : Value.ownBlock (.slice a4 n4 c4) = some g) (e : g = U1.heap.size) => show False by have := owns_block RA.out h; omega
        have AN26RE := fun g (h : Value.ownBlock (.slice a5 n5 c5) = some g) (e : g = U1.heap.size) => show False by have := owns_block RE.out h; omega
        generalize U1.alloc (.cells #[.int .i64 (la + A1), .int .i64 (ha + A2)] 69) = U2 at *
        replace RA := Lib.hid (owns_below RA.out hbA)
        replace RE := Lib.hid (owns_below RE.out hbA)
        replace Q := Lib.hid (Q.out.below hbA)
        replace Y := Lib.hid (Y.out.below hbA)
        replace X := Lib.hid (X.out.below hbA)
        replace BN10 := Lib.hid (BN10.out.below hbA)
        replace BN11 := Lib.hid (BN11.out.below hbA)
        replace BL := Lib.hid (bC BL.out hbA)
        clear hbA
        clear e0
        have e0 : U2.cell? ⟨C, 1, none⟩ = some (.slice a5 n5 c5) := by rw [X.out.cell]; rfl
        clear e1
        have e1 : U2.cell? ⟨V0.heap.size, 0, none⟩ = some (.int .i64 (la)) := by rw [BN10.out.cell]; rfl
        clear e2x
        have e2x : U2.cell? ⟨V0.heap.size, 1, none⟩ = some (.int .i64 (lb)) := by rw [BN10.out.cell]; rfl
        clear e3x
        have e3x : U2.cell? ⟨V1.heap.size, 0, none⟩ = some (.int .i64 (ha)) := by rw [BN11.out.cell]; rfl
        clear e4x
        have e4x : U2.cell? ⟨V1.heap.size, 1, none⟩ = some (.int .i64 (hb)) := by rw [BN11.out.cell]; rfl
        refine hK.out _ _ (fun _ => ⟨e0, e1, e2x, e3x, e4x⟩) (fun _ => ?_)
        clear hK K
        try simp only [Act.put]
        refine wpAnyT_ready [27] (by kernel_rfl) (by simp) ?_
        refine AllReadyT.cons rfl (fun K hK => ?_) AllReadyT.nil
        refine Eq.mpr (if_pos ?_) ?_
        · rfl
        have HZ10 := BN10.out.lt
        have HZ11 := BN11.out.lt
        have hsz := BL.out.size
        have HNN := Lib.hid (cells_pair (by rw [BN26.out.cell]; rfl) (by rw [BN26.out.cell]; rfl) : ∀ jj uu, ([.int .i64 (la + A1), .int .i64 (ha + A2)] : List Value)[jj]? = some uu → U2.cell? (Addr.add ⟨U1.heap.size, 0, none⟩ jj) = some uu)
        refine wp_append_at _ _ _ 23 rfl w.heap.size 69 ir (.agg #[.int .i64 0, .int .i64 0]) 2 16 undR IR.out K0.out K1.out K2.out rfl (by decide) _ _ _ rfl RE.out ⟨U1.heap.size, 0, none⟩ 1 1 [.int .i64 (la + A1), .int .i64 (ha + A2)] rfl rfl HNN.out (by intro u hu; simp only [List.mem_cons, List.not_mem_nil, or_false] at hu; rcases hu with rfl | rfl <;> rfl) (by unfold maxLen; omega) (by omega) (by omega) ?_
        intro v7 U3 own gr att
        replace Q := Lib.hid (Q.out.grown RE.out (by decide) gr)
        replace Y := Lib.hid (Y.out.grown RE.out (by decide) gr)
        replace X := Lib.hid (X.out.grown RE.out (by decide) gr)
        replace BN10 : Hid (Blk U3 (V0.heap.size) (.cells #[.int .i64 (la), .int .i64 (lb)] 69)) := Lib.hid ((gr.block _ BN10.out.lt (fun h => AN10RE _ h.symm rfl)).trans BN10.out)
        replace BN11 : Hid (Blk U3 (V1.heap.size) (.cells #[.int .i64 (ha), .int .i64 (hb)] 69)) := Lib.hid ((gr.block _ BN11.out.lt (fun h => AN11RE _ h.symm rfl)).trans BN11.out)
        replace RA := Lib.hid (owns_grown RE.out RA.out (by decide) gr)
        have hk10 : V0.heap.size < U2.heap.size := HZ10
        replace AN10RE : ∀ g, Value.ownBlock v7 = some g → g = V0.heap.size → False := by
          intro g h e
          rcases att with e1 | e1
          · exact AN10RE g (e1.symm.trans h) e
          · have h6 := Option.some.inj (h.symm.trans e1)
            omega
        clear hk10 HZ10
        have hk11 : V1.heap.size < U2.heap.size := HZ11
        replace AN11RE : ∀ g, Value.ownBlock v7 = some g → g = V1.heap.size → False := by
          intro g h e
          rcases att with e1 | e1
          · exact AN11RE g (e1.symm.trans h) e
          · have h6 := Option.some.inj (h.symm.trans e1)
            omega
        clear hk11 HZ11
        replace BL := Lib.hid (below_owns RE.out gr BL.out hsz)
        replace RE := Lib.hid own
        clear own gr att HNN hsz BN26
        obtain ⟨v7a, v7n, v7c, rfl⟩ := (Row.of_owns RE.out).slice
        clear e0
        have e0 : U3.cell? ⟨C, 1, none⟩ = some (.slice a5 n5 c5) := by rw [X.out.cell]; rfl
        clear e1
        have e1 : U3.cell? ⟨V0.heap.size, 0, none⟩ = some (.int .i64 (la)) := by rw [BN10.out.cell]; rfl
        clear e2x
        have e2x : U3.cell? ⟨V0.heap.size, 1, none⟩ = some (.int .i64 (lb)) := by rw [BN10.out.cell]; rfl
        clear e3x
        have e3x : U3.cell? ⟨V1.heap.size, 0, none⟩ = some (.int .i64 (ha)) := by rw [BN11.out.cell]; rfl
        clear e4x
        have e4x : U3.cell? ⟨V1.heap.size, 1, none⟩ = some (.int .i64 (hb)) := by rw [BN11.out.cell]; rfl
        refine hK.out _ _ (fun _ => ⟨e0, e1, e2x, e3x, e4x⟩) (fun _ => ?_)
        clear hK K
        try simp only [Act.put]
        refine wpAnyT_chain (fuel := 2) rfl (by kernel_rfl) ?_
        simp only [List.drop_succ_cons, List.drop_zero]
        clear hS inv e0 e1 e2x e3x e4x hD1 hD2 hQ3 hA1 hA2 y1 y2 y3 y4 y5 y6 y7 y8 y9 d1 d1' d2 d2' BN10 BN11
        have x1 := X.out.cell 1
        have z1 := X.out.frozen 1
        have xl := X.out.lt
        simp at x1
        have U := (X.out.set (j := 1) (.slice v7a v7n v7c))
        simp only [List.setIfInBounds_toArray, List.set_cons_zero, List.set_cons_succ] at U
        replace RE := Lib.hid (owns_set RE.out X.out (by decide) 1 (.slice v7a v7n v7c))
        replace RA := Lib.hid (owns_set RA.out X.out (by decide) 1 (.slice v7a v7n v7c))
        replace Q := Lib.hid (Q.out.other (b := C) (fun e => by have := ne_types Q.out X.out (by decide); exact this e) (j := 1) (.slice v7a v7n v7c))
        replace Y := Lib.hid (Y.out.other (b := C) hCY (j := 1) (.slice v7a v7n v7c))
        replace BL := Lib.hid (BL.out.setCell (p := ⟨C, 1, none⟩) hC (.slice v7a v7n v7c))
        replace X := Lib.hid U
        clear U
        go_wp2
        go_roundw
        case rel =>
          refine ⟨k + 1, .slice v7a v7n v7c, by go_num, by omega, RA.out, ?_, Q.out, Y.out, X.out, BL.out⟩
          rw [upto_snoc, pairCells_snoc, HT.out]
          exact RE.out
        case measure => first | (simp [intOf]; done) | (simp [intOf]; omega)
      refine AllReadyT.cons rfl (fun K hK => ?_) AllReadyT.nil
      go_simp
      have hbA := below1 V0 (.cells #[.int .i64 0, .int .i64 0] 69)
      have BN11 := Lib.hid (Blk.new V0 (.cells #[.int .i64 0, .int .i64 0] 69))
      have SN11 : w.heap.size ≤ V0.heap.size := BL.out.size
      have AN11RA := fun g (h : Value.ownBlock (.slice a4 n4 c4) = some g) (e : g = V0.heap.size) => show False by have := owns_block RA.out h; omega
      have AN11RE := fun g (h : Value.ownBlock (.slice a5 n5 c5) = some g) (e : g = V0.heap.size) => show False by have := owns_block RE.out h; omega
      generalize V0.alloc (.cells #[.int .i64 0, .int .i64 0] 69) = V4 at *
      replace RA := Lib.hid (owns_below RA.out hbA)
      replace RE := Lib.hid (owns_below RE.out hbA)
      replace Q := Lib.hid (Q.out.below hbA)
      replace Y := Lib.hid (Y.out.below hbA)
      replace X := Lib.hid (X.out.below hbA)
      replace BL := Lib.hid (bC BL.out hbA)
      clear hbA
      clear c0
      have c0 : V4.cell? ⟨w.heap.size, 1, none⟩ = some (.slice (some ⟨b2, o2, none⟩) r.low.length cap2) := by rw [Q.out.cell]; rfl
      clear c1x
      have c1x : V4.cell? ⟨w.heap.size, 2, none⟩ = some (.slice (some ⟨b3, o3, none⟩) r.high.length cap3) := by rw [Q.out.cell]; rfl
      clear c2x
      have c2x : V4.cell? ⟨b2, o2 + k * 2, none⟩ = some (.int .i64 (la)) := cellB hc2 BL.out
      clear c3x
      have c3x : V4.cell? ⟨b2, o2 + k * 2 + 1, none⟩ = some (.int .i64 (lb)) := cellB hc3 BL.out
      clear c4x
      have c4x : V4.cell? ⟨b3, o3 + k * 2, none⟩ = some (.int .i64 (ha)) := cellB hc4 BL.out
      clear c5x
      have c5x : V4.cell? ⟨b3, o3 + k * 2 + 1, none⟩ = some (.int .i64 (hb)) := cellB hc5 BL.out
      refine hK.out _ _ (fun _ => ⟨c0, c1x, c2x, c3x, c4x, c5x⟩) (fun _ => ?_)
      clear hK K
      try simp only [Act.put]
      refine wpAnyT_ready [10] (by kernel_rfl) (by simp) ?_
      refine AllReadyT.cons rfl (fun K hK => ?_) AllReadyT.nil
      go_simp
      have hbA := below1 V4 (.cells #[.int .i64 0, .int .i64 0] 69)
      have BN10 := Lib.hid (Blk.new V4 (.cells #[.int .i64 0, .int .i64 0] 69))
      have SN10 : w.heap.size ≤ V4.heap.size := BL.out.size
      have NB11x10 : V0.heap.size ≠ V4.heap.size := by have := BN11.out.lt; omega
      have AN10RA := fun g (h : Value.ownBlock (.slice a4 n4 c4) = some g) (e : g = V4.heap.size) => show False by have := owns_block RA.out h; omega
      have AN10RE := fun g (h : Value.ownBlock (.slice a5 n5 c5) = some g) (e : g = V4.heap.size) => show False by have := owns_block RE.out h; omega
      generalize V4.alloc (.cells #[.int .i64 0, .int .i64 0] 69) = V5 at *
      replace RA := Lib.hid (owns_below RA.out hbA)
      replace RE := Lib.hid (owns_below RE.out hbA)
      replace Q := Lib.hid (Q.out.below hbA)
      replace Y := Lib.hid (Y.out.below hbA)
      replace X := Lib.hid (X.out.below hbA)
      replace BN11 := Lib.hid (BN11.out.below hbA)
      replace BL := Lib.hid (bC BL.out hbA)
      clear hbA
      clear c0
      have c0 : V5.cell? ⟨w.heap.size, 1, none⟩ = some (.slice (some ⟨b2, o2, none⟩) r.low.length cap2) := by rw [Q.out.cell]; rfl
      clear c1x
      have c1x : V5.cell? ⟨w.heap.size, 2, none⟩ = some (.slice (some ⟨b3, o3, none⟩) r.high.length cap3) := by rw [Q.out.cell]; rfl
      clear c2x
      have c2x : V5.cell? ⟨b2, o2 + k * 2, none⟩ = some (.int .i64 (la)) := cellB hc2 BL.out
      clear c3x
      have c3x : V5.cell? ⟨b2, o2 + k * 2 + 1, none⟩ = some (.int .i64 (lb)) := cellB hc3 BL.out
      clear c4x
      have c4x : V5.cell? ⟨b3, o3 + k * 2, none⟩ = some (.int .i64 (ha)) := cellB hc4 BL.out
      clear c5x
      have c5x : V5.cell? ⟨b3, o3 + k * 2 + 1, none⟩ = some (.int .i64 (hb)) := cellB hc5 BL.out
      refine hK.out _ _ (fun _ => ⟨c0, c1x, c2x, c3x, c4x, c5x⟩) (fun _ => ?_)
      clear hK K
      try simp only [Act.put]
      refine wpAnyT_ready [12] (by kernel_rfl) (by simp) ?_
      refine AllReadyT.cons rfl (fun K hK => ?_) AllReadyT.nil
      have a0 := BN10.out.cell 0
      have az0 := BN10.out.frozen 0
      have a1 := BN10.out.cell 1
      have az1 := BN10.out.frozen 1
      have al := BN10.out.lt
      simp at a0 a1
      go_simp
      clear al a0 az0 a1 az1
      have NQQ := ne_types Q.out BN10.out (by decide)
      have NQY := ne_types Y.out BN10.out (by decide)
      have NQX := ne_types X.out BN10.out (by decide)
      replace RA := Lib.hid (owns_setA (owns_setA RA.out (fun g h e => AN10RA g h e) 0 (.int .i64 (la))) (fun g h e => AN10RA g h e) 1 (.int .i64 (lb)))
      replace RE := Lib.hid (owns_setA (owns_setA RE.out (fun g h e => AN10RE g h e) 0 (.int .i64 (la))) (fun g h e => AN10RE g h e) 1 (.int .i64 (lb)))
      replace Q := Lib.hid ((Q.out.other NQQ (j := 0) (.int .i64 (la))).other NQQ (j := 1) (.int .i64 (lb)))
      replace Y := Lib.hid ((Y.out.other NQY (j := 0) (.int .i64 (la))).other NQY (j := 1) (.int .i64 (lb)))
      replace X := Lib.hid ((X.out.other NQX (j := 0) (.int .i64 (la))).other NQX (j := 1) (.int .i64 (lb)))
      have NX11 : V0.heap.size ≠ V4.heap.size := by first | exact NB11x10 | exact NB10x11.symm
      replace BN11 := Lib.hid ((BN11.out.other NX11 (j := 0) (.int .i64 (la))).other NX11 (j := 1) (.int .i64 (lb)))
      replace BL := Lib.hid ((BL.out.setCell (p := ⟨V4.heap.size, 0, none⟩) SN10 (.int .i64 (la))).setCell (p := ⟨V4.heap.size, 1, none⟩) SN10 (.int .i64 (lb)))
      have hU := ((BN10.out.set (j := 0) (.int .i64 (la))).set (j := 1) (.int .i64 (lb)))
      simp only [List.setIfInBounds_toArray, List.set_cons_zero, List.set_cons_succ] at hU
      replace BN10 := Lib.hid hU
      clear hU NQQ NQY NQX NX11
      generalize (V5.setCell ⟨V4.heap.size, 0, none⟩ (.int .i64 (la))).setCell ⟨V4.heap.size, 1, none⟩ (.int .i64 (lb)) = V6 at *
      clear c0
      have c0 : V6.cell? ⟨w.heap.size, 1, none⟩ = some (.slice (some ⟨b2, o2, none⟩) r.low.length cap2) := by rw [Q.out.cell]; rfl
      clear c1x
      have c1x : V6.cell? ⟨w.heap.size, 2, none⟩ = some (.slice (some ⟨b3, o3, none⟩) r.high.length cap3) := by rw [Q.out.cell]; rfl
      clear c2x
      have c2x : V6.cell? ⟨b2, o2 + k * 2, none⟩ = some (.int .i64 (la)) := cellB hc2 BL.out
      clear c3x
      have c3x : V6.cell? ⟨b2, o2 + k * 2 + 1, none⟩ = some (.int .i64 (lb)) := cellB hc3 BL.out
      clear c4x
      have c4x : V6.cell? ⟨b3, o3 + k * 2, none⟩ = some (.int .i64 (ha)) := cellB hc4 BL.out
      clear c5x
      have c5x : V6.cell? ⟨b3, o3 + k * 2 + 1, none⟩ = some (.int .i64 (hb)) := cellB hc5 BL.out
      refine hK.out _ _ (fun _ => ⟨c0, c1x, c2x, c3x, c4x, c5x⟩) (fun _ => ?_)
      clear hK K
      try simp only [Act.put]
      refine wpAnyT_chain (fuel := 1) rfl (by kernel_rfl) ?_
      simp only [List.drop_succ_cons, List.drop_zero]
      clear hS inv c0 c1x c2x c3x c4x c5x
      have a0 := BN11.out.cell 0
      have az0 := BN11.out.frozen 0
      have a1 := BN11.out.cell 1
      have az1 := BN11.out.frozen 1
      have al := BN11.out.lt
      simp at a0 a1
      have NQQ := ne_types Q.out BN11.out (by decide)
      have NQY := ne_types Y.out BN11.out (by decide)
      have NQX := ne_types X.out BN11.out (by decide)
      replace RA := Lib.hid (owns_setA (owns_setA RA.out (fun g h e => AN11RA g h e) 0 (.int .i64 (ha))) (fun g h e => AN11RA g h e) 1 (.int .i64 (hb)))
      replace RE := Lib.hid (owns_setA (owns_setA RE.out (fun g h e => AN11RE g h e) 0 (.int .i64 (ha))) (fun g h e => AN11RE g h e) 1 (.int .i64 (hb)))
      replace Q := Lib.hid ((Q.out.other NQQ (j := 0) (.int .i64 (ha))).other NQQ (j := 1) (.int .i64 (hb)))
      replace Y := Lib.hid ((Y.out.other NQY (j := 0) (.int .i64 (ha))).other NQY (j := 1) (.int .i64 (hb)))
      replace X := Lib.hid ((X.out.other NQX (j := 0) (.int .i64 (ha))).other NQX (j := 1) (.int .i64 (hb)))
      have NX10 : V4.heap.size ≠ V0.heap.size := by first | exact NB10x11 | exact NB11x10.symm
      replace BN10 := Lib.hid ((BN10.out.other NX10 (j := 0) (.int .i64 (ha))).other NX10 (j := 1) (.int .i64 (hb)))
      replace BL := Lib.hid ((BL.out.setCell (p := ⟨V0.heap.size, 0, none⟩) SN11 (.int .i64 (ha))).setCell (p := ⟨V0.heap.size, 1, none⟩) SN11 (.int .i64 (hb)))
      have hU := ((BN11.out.set (j := 0) (.int .i64 (ha))).set (j := 1) (.int .i64 (hb)))
      simp only [List.setIfInBounds_toArray, List.set_cons_zero, List.set_cons_succ] at hU
      replace BN11 := Lib.hid hU
      clear hU NQQ NQY NQX NX10
      go_wp2_with fail
      clear a0 a1 az0 az1 al
      generalize (V6.setCell ⟨V0.heap.size, 0, none⟩ (.int .i64 (ha))).setCell ⟨V0.heap.size, 1, none⟩ (.int .i64 (hb)) = wz at *
      obtain ⟨hD1, hD2, hQ3, hA1, hA2, y1, y2, y3, y4, y5, y6, y7, y8, y9, d1, d1', d2, d2'⟩ := HY.out
      have e0 : wz.cell? ⟨C, 1, none⟩ = some (.slice a5 n5 c5) := by rw [X.out.cell]; rfl
      have e1 : wz.cell? ⟨V4.heap.size, 0, none⟩ = some (.int .i64 (la)) := by rw [BN10.out.cell]; rfl
      have e2x : wz.cell? ⟨V4.heap.size, 1, none⟩ = some (.int .i64 (lb)) := by rw [BN10.out.cell]; rfl
      have e3x : wz.cell? ⟨V0.heap.size, 0, none⟩ = some (.int .i64 (ha)) := by rw [BN11.out.cell]; rfl
      have e4x : wz.cell? ⟨V0.heap.size, 1, none⟩ = some (.int .i64 (hb)) := by rw [BN11.out.cell]; rfl
      refine wp_region_T 28 (fun W' => W'.cell? ⟨C, 1, none⟩ = some (.slice a5 n5 c5) ∧ W'.cell? ⟨V4.heap.size, 0, none⟩ = some (.int .i64 (la)) ∧ W'.cell? ⟨V4.heap.size, 1, none⟩ = some (.int .i64 (lb)) ∧ W'.cell? ⟨V0.heap.size, 0, none⟩ = some (.int .i64 (ha)) ∧ W'.cell? ⟨V0.heap.size, 1, none⟩ = some (.int .i64 (hb))) (by kernel_rfl) (by kernel_rfl) ⟨e0, e1, e2x, e3x, e4x⟩ ?_
      intro inv hS
      have hbD : Below wz.heap.size wz wz.drew := (Below.refl _ _).drew
      generalize wz.drew = U0 at *
      replace RA := Lib.hid (owns_below RA.out hbD)
      replace RE := Lib.hid (owns_below RE.out hbD)
      replace Q := Lib.hid (Q.out.below hbD)
      replace Y := Lib.hid (Y.out.below hbD)
      replace X := Lib.hid (X.out.below hbD)
      replace BN10 := Lib.hid (BN10.out.below hbD)
      replace BN11 := Lib.hid (BN11.out.below hbD)
      replace BL := Lib.hid (bC BL.out hbD)
      clear hbD
      clear e0
      have e0 : U0.cell? ⟨C, 1, none⟩ = some (.slice a5 n5 c5) := by rw [X.out.cell]; rfl
      clear e1
      have e1 : U0.cell? ⟨V4.heap.size, 0, none⟩ = some (.int .i64 (la)) := by rw [BN10.out.cell]; rfl
      clear e2x
      have e2x : U0.cell? ⟨V4.heap.size, 1, none⟩ = some (.int .i64 (lb)) := by rw [BN10.out.cell]; rfl
      clear e3x
      have e3x : U0.cell? ⟨V0.heap.size, 0, none⟩ = some (.int .i64 (ha)) := by rw [BN11.out.cell]; rfl
      clear e4x
      have e4x : U0.cell? ⟨V0.heap.size, 1, none⟩ = some (.int .i64 (hb)) := by rw [BN11.out.cell]; rfl
      refine wpAnyT_take inv (by kernel_rfl) (by omega) (i := 0) (v := .pointer (some ⟨C, 1, none⟩)) rfl (by kernel_rfl) (by kernel_rfl) (fun _ _ _ h => h) (Or.inl ⟨by kernel_rfl, ?_⟩) (by assumption) ?_
      · rintro W' ⟨s0, s1, s2, s3, s4⟩
        go_simp
      intro inv2
      clear inv
      have inv := inv2
      clear inv2
      simp only [Act.put, List.setIfInBounds_toArray]
      refine wpAnyT_take inv (by kernel_rfl) (by omega) (i := 1) (v := .slice a5 n5 c5) rfl (by kernel_rfl) (by kernel_rfl) (fun _ _ _ h => h) (Or.inl ⟨by kernel_rfl, ?_⟩) (by assumption) ?_
      · rintro W' ⟨s0, s1, s2, s3, s4⟩
        go_simp
      intro inv2
      clear inv
      have inv := inv2
      clear inv2
      simp only [Act.put]
      refine wpAnyT_take inv (by kernel_rfl) (by omega) (i := 2) (v := .pointer (some ⟨V4.heap.size, 0, none⟩)) rfl (by kernel_rfl) (by kernel_rfl) (fun _ _ _ h => h) (Or.inl ⟨by kernel_rfl, ?_⟩) (by assumption) ?_
      · rintro W' ⟨s0, s1, s2, s3, s4⟩
        go_simp
      intro inv2
      clear inv
      have inv := inv2
      clear inv2
      simp only [Act.put]
      refine wpAnyT_take inv (by kernel_rfl) (by omega) (i := 3) (v := .int .i64 (la)) rfl (by kernel_rfl) (by kernel_rfl) (fun _ _ _ h => h) (Or.inl ⟨by kernel_rfl, ?_⟩) (by assumption) ?_
      · rintro W' ⟨s0, s1, s2, s3, s4⟩
        go_simp
      intro inv2
      clear inv
      have inv := inv2
      clear inv2
      simp only [Act.put]
      refine wpAnyT_take inv (by kernel_rfl) (by omega) (i := 4) (v := .int .i64 (N)) rfl (by kernel_rfl) (by kernel_rfl) (fun _ _ _ h => h) (Or.inl ⟨by kernel_rfl, ?_⟩) (by assumption) ?_
      · rintro W' ⟨s0, s1, s2, s3, s4⟩
        go_simp
      intro inv2
      clear inv
      have inv := inv2
      clear inv2
      simp only [Act.put]
      refine wpAnyT_take inv (by kernel_rfl) (by omega) (i := 5) (v := .pointer (some ⟨V4.heap.size, 1, none⟩)) rfl (by kernel_rfl) (by kernel_rfl) (fun _ _ _ h => h) (Or.inl ⟨by kernel_rfl, ?_⟩) (by assumption) ?_
      · rintro W' ⟨s0, s1, s2, s3, s4⟩
        go_simp
      intro inv2
      clear inv
      have inv := inv2
      clear inv2
      simp only [Act.put]
      refine wpAnyT_take inv (by kernel_rfl) (by omega) (i := 6) (v := .int .i64 (lb)) rfl (by kernel_rfl) (by kernel_rfl) (fun _ _ _ h => h) (Or.inl ⟨by kernel_rfl, ?_⟩) (by assumption) ?_
      · rintro W' ⟨s0, s1, s2, s3, s4⟩
        go_simp
      intro inv2
      clear inv
      have inv := inv2
      clear inv2
      simp only [Act.put]
      refine wpAnyT_take inv (by kernel_rfl) (by omega) (i := 7) (v := .pointer (some ⟨V4.heap.size, 0, none⟩)) rfl (by kernel_rfl) (by kernel_rfl) (fun _ _ _ h => h) (Or.inl ⟨by kernel_rfl, ?_⟩) (by assumption) ?_
      · rintro W' ⟨s0, s1, s2, s3, s4⟩
        go_simp
      intro inv2
      clear inv
      have inv := inv2
      clear inv2
      simp only [Act.put]
      refine wpAnyT_take inv (by kernel_rfl) (by omega) (i := 8) (v := .int .i64 (la)) rfl (by kernel_rfl) (by kernel_rfl) (fun _ _ _ h => h) (Or.inl ⟨by kernel_rfl, ?_⟩) (by assumption) ?_
      · rintro W' ⟨s0, s1, s2, s3, s4⟩
        go_simp
      intro inv2
      clear inv
      have inv := inv2
      clear inv2
      simp only [Act.put]
      refine wpAnyT_take inv (by kernel_rfl) (by omega) (i := 9) (v := .int .i64 (lb - la)) rfl (by kernel_rfl) (by kernel_rfl) (fun _ _ _ h => h) (Or.inl ⟨by kernel_rfl, ?_⟩) (by assumption) ?_
      · rintro W' ⟨s0, s1, s2, s3, s4⟩
        go_simp
      intro inv2
      clear inv
      have inv := inv2
      clear inv2
      simp only [Act.put]
      refine wpAnyT_take inv (by kernel_rfl) (by omega) (i := 10) (v := .int .i64 (D1)) rfl (by kernel_rfl) (by kernel_rfl) (fun _ _ _ h => h) (Or.inl ⟨by kernel_rfl, ?_⟩) (by assumption) ?_
      · rintro W' ⟨s0, s1, s2, s3, s4⟩
        go_simp
      intro inv2
      clear inv
      have inv := inv2
      clear inv2
      simp only [Act.put]
      refine wpAnyT_take inv (by kernel_rfl) (by omega) (i := 11) (v := .int .i64 (A1)) rfl (by kernel_rfl) (by kernel_rfl) (fun _ _ _ h => h) (Or.inl ⟨by kernel_rfl, ?_⟩) (by assumption) ?_
      · rintro W' ⟨s0, s1, s2, s3, s4⟩
        go_simp
      intro inv2
      clear inv
      have inv := inv2
      clear inv2
      simp only [Act.put]
      refine wpAnyT_take inv (by kernel_rfl) (by omega) (i := 12) (v := .int .i64 (la + A1)) rfl (by kernel_rfl) (by kernel_rfl) (fun _ _ _ h => h) (Or.inl ⟨by kernel_rfl, ?_⟩) (by assumption) ?_
      · rintro W' ⟨s0, s1, s2, s3, s4⟩
        go_simp
      intro inv2
      clear inv
      have inv := inv2
      clear inv2
      simp only [Act.put]
      refine wpAnyT_take inv (by kernel_rfl) (by omega) (i := 13) (v := .pointer (some ⟨V0.heap.size, 0, none⟩)) rfl (by kernel_rfl) (by kernel_rfl) (fun _ _ _ h => h) (Or.inl ⟨by kernel_rfl, ?_⟩) (by assumption) ?_
      · rintro W' ⟨s0, s1, s2, s3, s4⟩
        go_simp
      intro inv2
      clear inv
      have inv := inv2
      clear inv2
      simp only [Act.put]
      refine wpAnyT_take inv (by kernel_rfl) (by omega) (i := 14) (v := .int .i64 (ha)) rfl (by kernel_rfl) (by kernel_rfl) (fun _ _ _ h => h) (Or.inl ⟨by kernel_rfl, ?_⟩) (by assumption) ?_
      · rintro W' ⟨s0, s1, s2, s3, s4⟩
        go_simp
      intro inv2
      clear inv
      have inv := inv2
      clear inv2
      simp only [Act.put]
      refine wpAnyT_take inv (by kernel_rfl) (by omega) (i := 15) (v := .int .i64 (N)) rfl (by kernel_rfl) (by kernel_rfl) (fun _ _ _ h => h) (Or.inl ⟨by kernel_rfl, ?_⟩) (by assumption) ?_
      · rintro W' ⟨s0, s1, s2, s3, s4⟩
        go_simp
      intro inv2
      clear inv
      have inv := inv2
      clear inv2
      simp only [Act.put]
      refine wpAnyT_take inv (by kernel_rfl) (by omega) (i := 16) (v := .int .i64 (Q3)) rfl (by kernel_rfl) (by kernel_rfl) (fun _ _ _ h => h) (Or.inl ⟨by kernel_rfl, ?_⟩) (by assumption) ?_
      · rintro W' ⟨s0, s1, s2, s3, s4⟩
        go_simp
      intro inv2
      clear inv
      have inv := inv2
      clear inv2
      simp only [Act.put]
      refine wpAnyT_take inv (by kernel_rfl) (by omega) (i := 17) (v := .pointer (some ⟨V0.heap.size, 1, none⟩)) rfl (by kernel_rfl) (by kernel_rfl) (fun _ _ _ h => h) (Or.inl ⟨by kernel_rfl, ?_⟩) (by assumption) ?_
      · rintro W' ⟨s0, s1, s2, s3, s4⟩
        go_simp
      intro inv2
      clear inv
      have inv := inv2
      clear inv2
      simp only [Act.put]
      refine wpAnyT_take inv (by kernel_rfl) (by omega) (i := 18) (v := .int .i64 (hb)) rfl (by kernel_rfl) (by kernel_rfl) (fun _ _ _ h => h) (Or.inl ⟨by kernel_rfl, ?_⟩) (by assumption) ?_
      · rintro W' ⟨s0, s1, s2, s3, s4⟩
        go_simp
      intro inv2
      clear inv
      have inv := inv2
      clear inv2
      simp only [Act.put]
      refine wpAnyT_take inv (by kernel_rfl) (by omega) (i := 19) (v := .pointer (some ⟨V0.heap.size, 0, none⟩)) rfl (by kernel_rfl) (by kernel_rfl) (fun _ _ _ h => h) (Or.inl ⟨by kernel_rfl, ?_⟩) (by assumption) ?_
      · rintro W' ⟨s0, s1, s2, s3, s4⟩
        go_simp
      intro inv2
      clear inv
      have inv := inv2
      clear inv2
      simp only [Act.put]
      refine wpAnyT_take inv (by kernel_rfl) (by omega) (i := 20) (v := .int .i64 (ha)) rfl (by kernel_rfl) (by kernel_rfl) (fun _ _ _ h => h) (Or.inl ⟨by kernel_rfl, ?_⟩) (by assumption) ?_
      · rintro W' ⟨s0, s1, s2, s3, s4⟩
        go_simp
      intro inv2
      clear inv
      have inv := inv2
      clear inv2
      simp only [Act.put]
      refine wpAnyT_take inv (by kernel_rfl) (by omega) (i := 21) (v := .int .i64 (hb - ha)) rfl (by kernel_rfl) (by kernel_rfl) (fun _ _ _ h => h) (Or.inl ⟨by kernel_rfl, ?_⟩) (by assumption) ?_
      · rintro W' ⟨s0, s1, s2, s3, s4⟩
        go_simp
      intro inv2
      clear inv
      have inv := inv2
      clear inv2
      simp only [Act.put]
      refine wpAnyT_take inv (by kernel_rfl) (by omega) (i := 22) (v := .int .i64 (D2)) rfl (by kernel_rfl) (by kernel_rfl) (fun _ _ _ h => h) (Or.inl ⟨by kernel_rfl, ?_⟩) (by assumption) ?_
      · rintro W' ⟨s0, s1, s2, s3, s4⟩
        go_simp
      intro inv2
      clear inv
      have inv := inv2
      clear inv2
      simp only [Act.put]
      refine wpAnyT_take inv (by kernel_rfl) (by omega) (i := 23) (v := .int .i64 (A2)) rfl (by kernel_rfl) (by kernel_rfl) (fun _ _ _ h => h) (Or.inl ⟨by kernel_rfl, ?_⟩) (by assumption) ?_
      · rintro W' ⟨s0, s1, s2, s3, s4⟩
        go_simp
      intro inv2
      clear inv
      have inv := inv2
      clear inv2
      simp only [Act.put]
      refine wpAnyT_take inv (by kernel_rfl) (by omega) (i := 24) (v := .int .i64 (ha + A2)) rfl (by kernel_rfl) (by kernel_rfl) (fun _ _ _ h => h) (Or.inl ⟨by kernel_rfl, ?_⟩) (by assumption) ?_
      · rintro W' ⟨s0, s1, s2, s3, s4⟩
        go_simp
      intro inv2
      clear inv
      have inv := inv2
      clear inv2
      simp only [Act.put]
      refine wpAnyT_ready [25] (by kernel_rfl) (by simp) ?_
      refine AllReadyT.cons rfl (fun K hK => ?_) AllReadyT.nil
      go_simp
      refine (to_any (la + A1) (ha + A2) _).mono ?_
      rintro e U1 ⟨rfl, hbC⟩
      replace RA := Lib.hid (owns_below RA.out hbC)
      replace RE := Lib.hid (owns_below RE.out hbC)
      replace Q := Lib.hid (Q.out.below hbC)
      replace Y := Lib.hid (Y.out.below hbC)
      replace X := Lib.hid (X.out.below hbC)
      replace BN10 := Lib.hid (BN10.out.below hbC)
      replace BN11 := Lib.hid (BN11.out.below hbC)
      replace BL := Lib.hid (bC BL.out hbC)
      clear hbC
      clear e0
      have e0 : U1.cell? ⟨C, 1, none⟩ = some (.slice a5 n5 c5) := by rw [X.out.cell]; rfl
      clear e1
      have e1 : U1.cell? ⟨V4.heap.size, 0, none⟩ = some (.int .i64 (la)) := by rw [BN10.out.cell]; rfl
      clear e2x
      have e2x : U1.cell? ⟨V4.heap.size, 1, none⟩ = some (.int .i64 (lb)) := by rw [BN10.out.cell]; rfl
      clear e3x
      have e3x : U1.cell? ⟨V0.heap.size, 0, none⟩ = some (.int .i64 (ha)) := by rw [BN11.out.cell]; rfl
      clear e4x
      have e4x : U1.cell? ⟨V0.heap.size, 1, none⟩ = some (.int .i64 (hb)) := by rw [BN11.out.cell]; rfl
      refine hK.out _ _ (fun _ => ⟨e0, e1, e2x, e3x, e4x⟩) (fun _ => ?_)
      clear hK K
      try simp only [Act.put]
      refine wpAnyT_ready [26] (by kernel_rfl) (by simp) ?_
      refine AllReadyT.cons rfl (fun K hK => ?_) AllReadyT.nil
      go_simp
      have hbA := below1 U1 (.cells #[.int .i64 (la + A1), .int .i64 (ha + A2)] 69)
      have BN26 := Lib.hid (Blk.new U1 (.cells #[.int .i64 (la + A1), .int .i64 (ha + A2)] 69))
      have SN26 : w.heap.size ≤ U1.heap.size := BL.out.size
      have NB10x26 : V4.heap.size ≠ U1.heap.size := by have := BN10.out.lt; omega
      have NB11x26 : V0.heap.size ≠ U1.heap.size := by have := BN11.out.lt; omega
      have AN26RA := fun g (h : Value.ownBlock (.slice a4 n4 c4) = some g) (e : g = U1.heap.size) => show False by have := owns_block RA.out h; omega
      have AN26RE := fun g (h : Value.ownBlock (.slice a5 n5 c5) = some g) (e : g = U1.heap.size) => show False by have := owns_block RE.out h; omega
      generalize U1.alloc (.cells #[.int .i64 (la + A1), .int .i64 (ha + A2)] 69) = U2 at *
      replace RA := Lib.hid (owns_below RA.out hbA)
      replace RE := Lib.hid (owns_below RE.out hbA)
      replace Q := Lib.hid (Q.out.below hbA)
      replace Y := Lib.hid (Y.out.below hbA)
      replace X := Lib.hid (X.out.below hbA)
      replace BN10 := Lib.hid (BN10.out.below hbA)
      replace BN11 := Lib.hid (BN11.out.below hbA)
      replace BL := Lib.hid (bC BL.out hbA)
      clear hbA
      clear e0
      have e0 : U2.cell? ⟨C, 1, none⟩ = some (.slice a5 n5 c5) := by rw [X.out.cell]; rfl
      clear e1
      have e1 : U2.cell? ⟨V4.heap.size, 0, none⟩ = some (.int .i64 (la)) := by rw [BN10.out.cell]; rfl
      clear e2x
      have e2x : U2.cell? ⟨V4.heap.size, 1, none⟩ = some (.int .i64 (lb)) := by rw [BN10.out.cell]; rfl
      clear e3x
      have e3x : U2.cell? ⟨V0.heap.size, 0, none⟩ = some (.int .i64 (ha)) := by rw [BN11.out.cell]; rfl
      clear e4x
      have e4x : U2.cell? ⟨V0.heap.size, 1, none⟩ = some (.int .i64 (hb)) := by rw [BN11.out.cell]; rfl
      refine hK.out _ _ (fun _ => ⟨e0, e1, e2x, e3x, e4x⟩) (fun _ => ?_)
      clear hK K
      try simp only [Act.put]
      refine wpAnyT_ready [27] (by kernel_rfl) (by simp) ?_
      refine AllReadyT.cons rfl (fun K hK => ?_) AllReadyT.nil
      refine Eq.mpr (if_pos ?_) ?_
      · rfl
      have HZ10 := BN10.out.lt
      have HZ11 := BN11.out.lt
      have hsz := BL.out.size
      have HNN := Lib.hid (cells_pair (by rw [BN26.out.cell]; rfl) (by rw [BN26.out.cell]; rfl) : ∀ jj uu, ([.int .i64 (la + A1), .int .i64 (ha + A2)] : List Value)[jj]? = some uu → U2.cell? (Addr.add ⟨U1.heap.size, 0, none⟩ jj) = some uu)
      refine wp_append_at _ _ _ 23 rfl w.heap.size 69 ir (.agg #[.int .i64 0, .int .i64 0]) 2 16 undR IR.out K0.out K1.out K2.out rfl (by decide) _ _ _ rfl RE.out ⟨U1.heap.size, 0, none⟩ 1 1 [.int .i64 (la + A1), .int .i64 (ha + A2)] rfl rfl HNN.out (by intro u hu; simp only [List.mem_cons, List.not_mem_nil, or_false] at hu; rcases hu with rfl | rfl <;> rfl) (by unfold maxLen; omega) (by omega) (by omega) ?_
      intro v7 U3 own gr att
      replace Q := Lib.hid (Q.out.grown RE.out (by decide) gr)
      replace Y := Lib.hid (Y.out.grown RE.out (by decide) gr)
      replace X := Lib.hid (X.out.grown RE.out (by decide) gr)
      replace BN10 : Hid (Blk U3 (V4.heap.size) (.cells #[.int .i64 (la), .int .i64 (lb)] 69)) := Lib.hid ((gr.block _ BN10.out.lt (fun h => AN10RE _ h.symm rfl)).trans BN10.out)
      replace BN11 : Hid (Blk U3 (V0.heap.size) (.cells #[.int .i64 (ha), .int .i64 (hb)] 69)) := Lib.hid ((gr.block _ BN11.out.lt (fun h => AN11RE _ h.symm rfl)).trans BN11.out)
      replace RA := Lib.hid (owns_grown RE.out RA.out (by decide) gr)
      have hk10 : V4.heap.size < U2.heap.size := HZ10
      replace AN10RE : ∀ g, Value.ownBlock v7 = some g → g = V4.heap.size → False := by
        intro g h e
        rcases att with e1 | e1
        · exact AN10RE g (e1.symm.trans h) e
        · have h6 := Option.some.inj (h.symm.trans e1)
          omega
      clear hk10 HZ10
      have hk11 : V0.heap.size < U2.heap.size := HZ11
      replace AN11RE : ∀ g, Value.ownBlock v7 = some g → g = V0.heap.size → False := by
        intro g h e
        rcases att with e1 | e1
        · exact AN11RE g (e1.symm.trans h) e
        · have h6 := Option.some.inj (h.symm.trans e1)
          omega
      clear hk11 HZ11
      replace BL := Lib.hid (below_owns RE.out gr BL.out hsz)
      replace RE := Lib.hid own
      clear own gr att HNN hsz BN26
      obtain ⟨v7a, v7n, v7c, rfl⟩ := (Row.of_owns RE.out).slice
      clear e0
      have e0 : U3.cell? ⟨C, 1, none⟩ = some (.slice a5 n5 c5) := by rw [X.out.cell]; rfl
      clear e1
      have e1 : U3.cell? ⟨V4.heap.size, 0, none⟩ = some (.int .i64 (la)) := by rw [BN10.out.cell]; rfl
      clear e2x
      have e2x : U3.cell? ⟨V4.heap.size, 1, none⟩ = some (.int .i64 (lb)) := by rw [BN10.out.cell]; rfl
      clear e3x
      have e3x : U3.cell? ⟨V0.heap.size, 0, none⟩ = some (.int .i64 (ha)) := by rw [BN11.out.cell]; rfl
      clear e4x
      have e4x : U3.cell? ⟨V0.heap.size, 1, none⟩ = some (.int .i64 (hb)) := by rw [BN11.out.cell]; rfl
      refine hK.out _ _ (fun _ => ⟨e0, e1, e2x, e3x, e4x⟩) (fun _ => ?_)
      clear hK K
      try simp only [Act.put]
      refine wpAnyT_chain (fuel := 2) rfl (by kernel_rfl) ?_
      simp only [List.drop_succ_cons, List.drop_zero]
      clear hS inv e0 e1 e2x e3x e4x hD1 hD2 hQ3 hA1 hA2 y1 y2 y3 y4 y5 y6 y7 y8 y9 d1 d1' d2 d2' BN10 BN11
      have x1 := X.out.cell 1
      have z1 := X.out.frozen 1
      have xl := X.out.lt
      simp at x1
      have U := (X.out.set (j := 1) (.slice v7a v7n v7c))
      simp only [List.setIfInBounds_toArray, List.set_cons_zero, List.set_cons_succ] at U
      replace RE := Lib.hid (owns_set RE.out X.out (by decide) 1 (.slice v7a v7n v7c))
      replace RA := Lib.hid (owns_set RA.out X.out (by decide) 1 (.slice v7a v7n v7c))
      replace Q := Lib.hid (Q.out.other (b := C) (fun e => by have := ne_types Q.out X.out (by decide); exact this e) (j := 1) (.slice v7a v7n v7c))
      replace Y := Lib.hid (Y.out.other (b := C) hCY (j := 1) (.slice v7a v7n v7c))
      replace BL := Lib.hid (BL.out.setCell (p := ⟨C, 1, none⟩) hC (.slice v7a v7n v7c))
      replace X := Lib.hid U
      clear U
      go_wp2
      go_roundw
      case rel =>
        refine ⟨k + 1, .slice v7a v7n v7c, by go_num, by omega, RA.out, ?_, Q.out, Y.out, X.out, BL.out⟩
        rw [upto_snoc, pairCells_snoc, HT.out]
        exact RE.out
      case measure => first | (simp [intOf]; done) | (simp [intOf]; omega)
    · obtain rfl : k = r.at_.length := by omega
      have tk : decide ((r.at_.length : Int) < (r.at_.length : Int)) = false := by simp
      have u0 := X.out.cell 0
      have u1 := X.out.cell 1
      have u2 := Y.out.cell 0
      have u3 := Y.out.cell 1
      have f0 := Y.out.frozen 0
      have f1 := Y.out.frozen 1
      have lt4 := Y.out.lt
      have lt5 := X.out.lt
      simp at u0 u1 u2 u3
      have hne1 : (w.heap.size + 1 = C) = False := by simp; exact hCY
      have hne2 : (C = w.heap.size + 1) = False := by simp; exact fun e => hCY e.symm
      have U := (Y.out.set (j := 0) (.slice a4 n4 c4)).set (j := 1) (.slice a5 n5 c5)
      have v0 := U.cell 0
      have v1 := U.cell 1
      simp at v0 v1
      have HRE := Lib.hid (owns_set (owns_set RE.out Y.out (by decide) 0 (.slice a4 n4 c4)) (Y.out.set (j := 0) (.slice a4 n4 c4)) (by decide) 1 (.slice a5 n5 c5))
      have HRA2 := Lib.hid (owns_set (owns_set RA.out Y.out (by decide) 0 (.slice a4 n4 c4)) (Y.out.set (j := 0) (.slice a4 n4 c4)) (by decide) 1 (.slice a5 n5 c5))
      have HBB := Lib.hid ((BL.out.setCell (p := ⟨w.heap.size + 1, 0, none⟩) (by simp) (.slice a4 n4 c4)).setCell (p := ⟨w.heap.size + 1, 1, none⟩) (by simp) (.slice a5 n5 c5))
      clear U
      go_wp2
      refine bodyPost_ret (v := .agg #[.slice a4 n4 c4, .slice a5 n5 c5]) (by simp [results, Tryd.results53, go_sem, v0, v1]) rfl ?_
      refine ⟨_, rfl, ⟨_, _, rfl, ?_, ?_⟩, HBB.out⟩
      · have := Row.ints (l := r.at_) (Row.of_owns HRA2.out)
        exact this
      · have := Row.pairs (l := upto (trueF r ns) r.at_.length) (by rw [upto_len]; exact Row.of_owns HRE.out)
        exact this
end Go.Proofs.YtlhldkiggmlegaaDoor
