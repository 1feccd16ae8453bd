import Derived.Test.YtnkeikhkafbokaaRf
namespace Go.Proofs.Ytnkeikhkafbokaa
open Go.RowKit Go.Dag Go.Sort Go.Shelf
attribute [local go_sem] Oper.semAt_some

/-! ## The first of the best cuts -/
theorem nb_step {C G : List (Nat × Nat)} {k : Nat} (h : NotBefore (C.drop k) (G.drop k)) (h1 : k < C.length) (h2 : k < G.length) :
    (C[k] = G[k] ∧ NotBefore (C.drop (k + 1)) (G.drop (k + 1))) ∨ C[k].1 < G[k].1 ∨ (C[k].1 = G[k].1 ∧ C[k].2 < G[k].2) := by
  rw [List.drop_eq_getElem_cons h1, List.drop_eq_getElem_cons h2] at h
  rcases h with ⟨e1, e2, h⟩ | h | h
  · exact Or.inl ⟨Prod.ext e1 e2, h⟩
  · exact Or.inr (Or.inl h)
  · exact Or.inr (Or.inr h)
theorem nb_end {C G : List (Nat × Nat)} {k : Nat} (h : NotBefore (C.drop k) (G.drop k)) (h1 : k ≤ C.length) (h2 : k ≤ G.length) (h3 : ¬ (k < G.length ∧ k < C.length)) : C.length = G.length := by
  by_cases q : k < C.length
  · have e : G.drop k = [] := List.drop_eq_nil_iff.2 (by omega)
    rw [List.drop_eq_getElem_cons q, e] at h
    exact absurd h id
  · by_cases q2 : k < G.length
    · have e : C.drop k = [] := List.drop_eq_nil_iff.2 (by omega)
      rw [List.drop_eq_getElem_cons q2, e] at h
      exact absurd h id
    · omega
theorem neq_at {C G : List (Nat × Nat)} {k : Nat} (h1 : k < C.length) (h2 : k < G.length) (h : C[k] ≠ G[k]) : C ≠ G := fun e => by subst e; exact h rfl
set_option maxRecDepth 100000 in
set_option maxHeartbeats 16000000 in
theorem ClipFirst_any (v kv : Value) (bv : Value) (l : List Int) (r : RibD) (ks : List KindD) (w : World) (hv : RibAt w v r) (hk : KindsAt w kv ks) (hbv : U8At w bv l) (hl8 : ∀ x ∈ l, 0 ≤ x ∧ x ≤ 255) :
    Calls Try.prog 8 #[v, kv, bv] w fun e w' => e = .returned (.bool true) ∧ Below w.heap.size w w' := by
  obtain ⟨sv, rfl, hi⟩ := hv
  obtain ⟨sa, cap, rfl⟩ := hi.slice
  obtain ⟨ka, kcap, rfl⟩ := hk.slice
  obtain ⟨ba, bcap, rfl⟩ := hbv.slice
  have hB0 := below1 w (.cells #[.int .i64 r.len, .slice sa r.fs.length cap] 24)
  have HB := Lib.hid hB0
  have B0 := Lib.hid (Blk.new w (.cells #[.int .i64 r.len, .slice sa r.fs.length cap] 24))
  have HV := Lib.hid (show RibAt _ (.agg #[.int .i64 r.len, .slice sa r.fs.length cap]) r from ⟨_, rfl, hi.below hB0⟩)
  have HK := Lib.hid (hk.below hB0)
  have HBV := Lib.hid (hbv.below hB0)
  have HL8 := Lib.hid hl8
  clear hi hk hB0 hbv hl8
  by_cases hok : RibOk r ∧ KindsOk ks
  case neg =>
    have HN := Lib.hid hok
    clear hok
    go_enter Try.func8, Try.ntmps8
    go_wp2_with fail
    generalize w.alloc (.cells #[.int .i64 r.len, .slice sa r.fs.length cap] 24) = W0 at *
    refine (fine_no (.agg #[.int .i64 r.len, .slice sa r.fs.length cap]) (.slice ka ks.length kcap) r ks _ HV.out HK.out HN.out).mono ?_
    rintro e v1 ⟨rfl, hb⟩
    replace HV := Lib.hid (HV.out.below hb)
    replace HK := Lib.hid (HK.out.below hb)
    replace HBV := Lib.hid (HBV.out.below hb)
    replace B0 := Lib.hid (B0.out.below hb)
    replace HB := Lib.hid (bC HB.out hb)
    clear hb
    have B0c0 := B0.out.cell 0
    have B0c1 := B0.out.cell 1
    simp at B0c0 B0c1
    go_wp2_with fail
    clear B0c0 B0c1
    refine (Works_any _).mono ?_
    rintro e v2 ⟨rfl, hb⟩
    replace HV := Lib.hid (HV.out.below hb)
    replace HK := Lib.hid (HK.out.below hb)
    replace HBV := Lib.hid (HBV.out.below hb)
    replace B0 := Lib.hid (B0.out.below hb)
    replace HB := Lib.hid (bC HB.out hb)
    clear hb
    go_wp2
    go_ret
    exact ⟨rfl, HB.out⟩
  have HR := Lib.hid hok
  have hfc := hok.1.count
  have hk6 := hok.2.1.2
  have hL24 := hok.1.l2
  have hL1 := hok.1.l1
  have hTok := tabOf_ok (r := r) (ks := ks) (by omega) hok.2
  have hfb := first_best hTok (tabOf r ks).L 0 (by omega)
  clear hok
  by_cases q1 : 60 < l.length
  · have d1 : decide ((l.length : Int) > 60) = true := by simp; omega
    have d2 : decide ((60 : Int) < (l.length : Int)) = true := by simp; omega
    clear q1
    go_enter Try.func8, Try.ntmps8
    go_wp2_with fail
    generalize w.alloc (.cells #[.int .i64 r.len, .slice sa r.fs.length cap] 24) = W0 at *
    refine (fine_yes (.agg #[.int .i64 r.len, .slice sa r.fs.length cap]) (.slice ka ks.length kcap) r ks _ HV.out HK.out HR.out.1 HR.out.2).mono ?_
    rintro e v1 ⟨rfl, hb⟩
    replace HV := Lib.hid (HV.out.below hb)
    replace HK := Lib.hid (HK.out.below hb)
    replace HBV := Lib.hid (HBV.out.below hb)
    replace B0 := Lib.hid (B0.out.below hb)
    replace HB := Lib.hid (bC HB.out hb)
    clear hb
    have B0c0 := B0.out.cell 0
    have B0c1 := B0.out.cell 1
    simp at B0c0 B0c1
    go_wp2_with fail
    clear B0c0 B0c1
    refine (Works_any _).mono ?_
    rintro e v2 ⟨rfl, hb⟩
    replace HV := Lib.hid (HV.out.below hb)
    replace HK := Lib.hid (HK.out.below hb)
    replace HBV := Lib.hid (HBV.out.below hb)
    replace B0 := Lib.hid (B0.out.below hb)
    replace HB := Lib.hid (bC HB.out hb)
    clear hb
    go_wp2
    go_ret
    exact ⟨rfl, HB.out⟩
  have d1 : decide ((l.length : Int) > 60) = false := by simp; omega
  have d2 : decide ((60 : Int) < (l.length : Int)) = false := by simp; omega
  obtain ⟨G1, G2, G3, G4, G5⟩ := given_facts HR.out.1 HR.out.2 l
  obtain ⟨gl, hgl⟩ : ∃ gl, intPs (givenF (tabOf r ks) l 0) = gl := ⟨_, rfl⟩
  obtain ⟨cl, hcl⟩ : ∃ cl, firstL (tabOf r ks) = cl := ⟨_, rfl⟩
  obtain ⟨A, hA⟩ : ∃ A, wth (tabOf r ks) (givenF (tabOf r ks) l 0) = A := ⟨_, rfl⟩
  obtain ⟨D, hD⟩ : ∃ D, dn (tabOf r ks) 0 = D := ⟨_, rfl⟩
  obtain ⟨M, hM⟩ : ∃ M, many (tabOf r ks) 0 = M := ⟨_, rfl⟩
  rw [hA] at G2 G3
  rw [hgl] at G1 G2 G4
  rw [hD] at G3
  have HD := Lib.hid hD
  have HM := Lib.hid hM
  have HG1 := Lib.hid G1
  have HG2 := Lib.hid G2
  have HGL := Lib.hid hgl
  have HCL := Lib.hid hcl
  have hl60 : l.length ≤ 60 := by omega
  have hcl24 : cl.length ≤ 1000 := by
    rw [← hcl]
    have := firstL_len HR.out.1 HR.out.2
    omega
  by_cases he : A = D
  case neg =>
    have he' : (A != D) = true := by simpa using he
    clear he hgl hcl hA hD hM G1 G2 G5 q1 hTok hfb
    go_enter Try.func8, Try.ntmps8
    go_wp2_with fail
    generalize w.alloc (.cells #[.int .i64 r.len, .slice sa r.fs.length cap] 24) = W0 at *
    refine (fine_yes (.agg #[.int .i64 r.len, .slice sa r.fs.length cap]) (.slice ka ks.length kcap) r ks _ HV.out HK.out HR.out.1 HR.out.2).mono ?_
    rintro e v1 ⟨rfl, hb⟩
    replace HV := Lib.hid (HV.out.below hb)
    replace HK := Lib.hid (HK.out.below hb)
    replace HBV := Lib.hid (HBV.out.below hb)
    replace B0 := Lib.hid (B0.out.below hb)
    replace HB := Lib.hid (bC HB.out hb)
    clear hb
    have B0c0 := B0.out.cell 0
    have B0c1 := B0.out.cell 1
    simp at B0c0 B0c1
    go_wp2_with fail
    clear B0c0 B0c1
    refine (best_any (.agg #[.int .i64 r.len, .slice sa r.fs.length cap]) (.slice ka ks.length kcap) r ks _ HV.out HK.out HR.out.1 HR.out.2).mono ?_
    rintro e v2 ⟨vb, rfl, hp, hb⟩
    replace HV := Lib.hid (HV.out.below hb)
    replace HK := Lib.hid (HK.out.below hb)
    replace HBV := Lib.hid (HBV.out.below hb)
    replace B0 := Lib.hid (B0.out.below hb)
    replace HB := Lib.hid (bC HB.out hb)
    clear hb
    rw [HCL.out] at hp
    obtain ⟨ya, yc, rfl⟩ := hp.slice
    have HY := Lib.hid hp
    clear hp
    rw [HD.out]
    have B0c0 := B0.out.cell 0
    have B0c1 := B0.out.cell 1
    simp at B0c0 B0c1
    go_wp2_with fail
    clear B0c0 B0c1
    refine (count_any (.agg #[.int .i64 r.len, .slice sa r.fs.length cap]) (.slice ka ks.length kcap) r ks _ HV.out HK.out HR.out.1 HR.out.2).mono ?_
    rintro e v3 ⟨rfl, hb⟩
    replace HV := Lib.hid (HV.out.below hb)
    replace HK := Lib.hid (HK.out.below hb)
    replace HBV := Lib.hid (HBV.out.below hb)
    replace HY := Lib.hid (HY.out.below hb)
    replace B0 := Lib.hid (B0.out.below hb)
    replace HB := Lib.hid (bC HB.out hb)
    clear hb
    rw [HM.out]
    have B0c0 := B0.out.cell 0
    have B0c1 := B0.out.cell 1
    simp at B0c0 B0c1
    go_wp2_with fail
    clear B0c0 B0c1
    refine (Given_any (.agg #[.int .i64 r.len, .slice sa r.fs.length cap]) (.slice ka ks.length kcap) (.slice ba l.length bcap) r ks l _ HV.out HK.out HBV.out HL8.out hl60 HR.out.1 HR.out.2).mono ?_
    rintro e v4 ⟨vg, rfl, hp, hb⟩
    replace HV := Lib.hid (HV.out.below hb)
    replace HK := Lib.hid (HK.out.below hb)
    replace HBV := Lib.hid (HBV.out.below hb)
    replace HY := Lib.hid (HY.out.below hb)
    replace B0 := Lib.hid (B0.out.below hb)
    replace HB := Lib.hid (bC HB.out hb)
    clear hb
    rw [HGL.out] at hp
    obtain ⟨ga, gc, rfl⟩ := hp.slice
    have HGV := Lib.hid hp
    clear hp
    have B0c0 := B0.out.cell 0
    have B0c1 := B0.out.cell 1
    simp at B0c0 B0c1
    go_wp2_with fail
    clear B0c0 B0c1
    refine (CheckCuts_ok (.agg #[.int .i64 r.len, .slice sa r.fs.length cap]) (.slice ka ks.length kcap) r ks _ gl _ HV.out HK.out HGV.out G4 HR.out.1 HR.out.2).mono ?_
    rintro e v5 ⟨rfl, hb⟩
    replace HV := Lib.hid (HV.out.below hb)
    replace HK := Lib.hid (HK.out.below hb)
    replace HBV := Lib.hid (HBV.out.below hb)
    replace HY := Lib.hid (HY.out.below hb)
    replace HGV := Lib.hid (HGV.out.below hb)
    replace B0 := Lib.hid (B0.out.below hb)
    replace HB := Lib.hid (bC HB.out hb)
    clear hb
    rw [HG1.out, HG2.out]
    have B0c0 := B0.out.cell 0
    have B0c1 := B0.out.cell 1
    simp at B0c0 B0c1
    go_wp2_with fail
    clear B0c0 B0c1
    refine (Works_any _).mono ?_
    rintro e v6 ⟨rfl, hb⟩
    replace HV := Lib.hid (HV.out.below hb)
    replace HK := Lib.hid (HK.out.below hb)
    replace HBV := Lib.hid (HBV.out.below hb)
    replace HY := Lib.hid (HY.out.below hb)
    replace HGV := Lib.hid (HGV.out.below hb)
    replace B0 := Lib.hid (B0.out.below hb)
    replace HB := Lib.hid (bC HB.out hb)
    clear hb
    go_wp2
    go_ret
    exact ⟨rfl, HB.out⟩
  subst he
  have hGB : IsBest (tabOf r ks) 0 (givenF (tabOf r ks) l 0) := ⟨G5, hA.trans hD.symm⟩
  have hNB := first_first hTok (tabOf r ks).L 0 (by omega) hGB
  have h2w := fun hne => two_ways hTok _ 0 rfl hfb hGB hne
  obtain ⟨C, hC⟩ : ∃ C, firstF (tabOf r ks) (tabOf r ks).L 0 = C := ⟨_, rfl⟩
  obtain ⟨G, hG⟩ : ∃ G, givenF (tabOf r ks) l 0 = G := ⟨_, rfl⟩
  have hcC : cl = C.map intP := by rw [← hcl, ← hC]; rfl
  have hgG : gl = G.map intP := by rw [← hgl, ← hG]; rfl
  rw [hC, hG] at hNB h2w
  rw [hM] at h2w
  have HLC := Lib.hid (show cl.length = C.length by rw [hcC, List.length_map])
  have HLG := Lib.hid (show gl.length = G.length by rw [hgG, List.length_map])
  have HCC := Lib.hid hcC
  have HGG := Lib.hid hgG
  have H2W := Lib.hid h2w
  have HNB := Lib.hid hNB
  clear hgl hcl hA hD hM G1 G2 G5 q1 hTok hfb hGB hNB h2w hC hG hcC hgG
  go_enter Try.func8, Try.ntmps8
  go_wp2_with fail
  generalize w.alloc (.cells #[.int .i64 r.len, .slice sa r.fs.length cap] 24) = W0 at *
  refine (fine_yes (.agg #[.int .i64 r.len, .slice sa r.fs.length cap]) (.slice ka ks.length kcap) r ks _ HV.out HK.out HR.out.1 HR.out.2).mono ?_
  rintro e v1 ⟨rfl, hb⟩
  replace HV := Lib.hid (HV.out.below hb)
  replace HK := Lib.hid (HK.out.below hb)
  replace HBV := Lib.hid (HBV.out.below hb)
  replace B0 := Lib.hid (B0.out.below hb)
  replace HB := Lib.hid (bC HB.out hb)
  clear hb
  have B0c0 := B0.out.cell 0
  have B0c1 := B0.out.cell 1
  simp at B0c0 B0c1
  go_wp2_with fail
  clear B0c0 B0c1
  refine (best_any (.agg #[.int .i64 r.len, .slice sa r.fs.length cap]) (.slice ka ks.length kcap) r ks _ HV.out HK.out HR.out.1 HR.out.2).mono ?_
  rintro e v2 ⟨vb, rfl, hp, hb⟩
  replace HV := Lib.hid (HV.out.below hb)
  replace HK := Lib.hid (HK.out.below hb)
  replace HBV := Lib.hid (HBV.out.below hb)
  replace B0 := Lib.hid (B0.out.below hb)
  replace HB := Lib.hid (bC HB.out hb)
  clear hb
  rw [HCL.out] at hp
  obtain ⟨ya, yc, rfl⟩ := hp.slice
  have HY := Lib.hid hp
  clear hp
  rw [HD.out]
  have B0c0 := B0.out.cell 0
  have B0c1 := B0.out.cell 1
  simp at B0c0 B0c1
  go_wp2_with fail
  clear B0c0 B0c1
  refine (count_any (.agg #[.int .i64 r.len, .slice sa r.fs.length cap]) (.slice ka ks.length kcap) r ks _ HV.out HK.out HR.out.1 HR.out.2).mono ?_
  rintro e v3 ⟨rfl, hb⟩
  replace HV := Lib.hid (HV.out.below hb)
  replace HK := Lib.hid (HK.out.below hb)
  replace HBV := Lib.hid (HBV.out.below hb)
  replace HY := Lib.hid (HY.out.below hb)
  replace B0 := Lib.hid (B0.out.below hb)
  replace HB := Lib.hid (bC HB.out hb)
  clear hb
  rw [HM.out]
  have B0c0 := B0.out.cell 0
  have B0c1 := B0.out.cell 1
  simp at B0c0 B0c1
  go_wp2_with fail
  clear B0c0 B0c1
  refine (Given_any (.agg #[.int .i64 r.len, .slice sa r.fs.length cap]) (.slice ka ks.length kcap) (.slice ba l.length bcap) r ks l _ HV.out HK.out HBV.out HL8.out hl60 HR.out.1 HR.out.2).mono ?_
  rintro e v4 ⟨vg, rfl, hp, hb⟩
  replace HV := Lib.hid (HV.out.below hb)
  replace HK := Lib.hid (HK.out.below hb)
  replace HBV := Lib.hid (HBV.out.below hb)
  replace HY := Lib.hid (HY.out.below hb)
  replace B0 := Lib.hid (B0.out.below hb)
  replace HB := Lib.hid (bC HB.out hb)
  clear hb
  rw [HGL.out] at hp
  obtain ⟨ga, gc, rfl⟩ := hp.slice
  have HGV := Lib.hid hp
  clear hp
  have B0c0 := B0.out.cell 0
  have B0c1 := B0.out.cell 1
  simp at B0c0 B0c1
  go_wp2_with fail
  clear B0c0 B0c1
  refine (CheckCuts_ok (.agg #[.int .i64 r.len, .slice sa r.fs.length cap]) (.slice ka ks.length kcap) r ks _ gl _ HV.out HK.out HGV.out G4 HR.out.1 HR.out.2).mono ?_
  rintro e v5 ⟨rfl, hb⟩
  replace HV := Lib.hid (HV.out.below hb)
  replace HK := Lib.hid (HK.out.below hb)
  replace HBV := Lib.hid (HBV.out.below hb)
  replace HY := Lib.hid (HY.out.below hb)
  replace HGV := Lib.hid (HGV.out.below hb)
  replace B0 := Lib.hid (B0.out.below hb)
  replace HB := Lib.hid (bC HB.out hb)
  clear hb
  rw [HG1.out, HG2.out]
  have B0c0 := B0.out.cell 0
  have B0c1 := B0.out.cell 1
  simp at B0c0 B0c1
  go_wp2_with fail
  clear B0c0 B0c1
  go_loopw [15] (fun s wr => ∃ k : Nat, s = .int .i64 k ∧ k ≤ gl.length ∧ k ≤ cl.length ∧ NotBefore (C.drop k) (G.drop k) ∧ Below v5.heap.size v5 wr) (fun s _ => gl.length - (intOf s).toNat)
  case atStart => exact ⟨0, rfl, Nat.zero_le _, Nat.zero_le _, HNB.out, Below.refl _ _⟩
  case round =>
    obtain ⟨k, rfl, hkg0, hkc0, hnb, hB⟩ := hrel
    have HBW := Lib.hid hB
    clear hB
    by_cases hkg1 : k < gl.length
    · by_cases hkc1 : k < cl.length
      · have hkg : k < G.length := by have := HLG.out; omega
        have hkc : k < C.length := by have := HLC.out; omega
        have hst := nb_step hnb hkc hkg
        have ex : gl[k] = intP G[k] := by simp only [HGG.out, List.getElem_map]
        have ey : cl[k] = intP C[k] := by simp only [HCC.out, List.getElem_map]
        obtain ⟨pb, poff, rfl, x1, x2⟩ := HGV.out.at.2 k hkg1
        obtain ⟨qb, qoff, rfl, y1, y2⟩ := HY.out.at.2 k hkc1
        rw [ex] at x1 x2
        rw [ey] at y1 y2
        have hne0 : C[k] ≠ G[k] → C[k] ≠ G[k] := id
        obtain ⟨gp, hgp⟩ : ∃ p, G[k] = p := ⟨_, rfl⟩
        obtain ⟨cp, hcp⟩ : ∃ p, C[k] = p := ⟨_, rfl⟩
        rw [hgp] at x1 x2
        rw [hcp] at y1 y2
        rw [hgp, hcp] at hst
        obtain ⟨a1, a2⟩ := gp
        obtain ⟨b1, b2⟩ := cp
        simp only [intP] at x1 x2 y1 y2 hst
        clear hnb ex ey hne0
        have ipg : (k : Int) < (gl.length : Int) := by omega
        have ipc : (k : Int) < (cl.length : Int) := by omega
        rcases hst with ⟨e, hnb⟩ | hlt | ⟨e, hlt⟩
        · obtain ⟨rfl, rfl⟩ := Prod.mk.inj e
          have HNB2 := Lib.hid hnb
          clear hgp hcp e hnb
          have g1 := fun d os => cell_regrown (cellB x1 HBW.out) d os
          have g2 := fun d os => cell_regrown (cellB x2 HBW.out) d os
          have g3 := fun d os => cell_regrown (cellB y1 HBW.out) d os
          have g4 := fun d os => cell_regrown (cellB y2 HBW.out) d os
          have hx := And.intro (And.intro x1 x2) (And.intro y1 y2)
          have HX := Lib.hid hx
          clear hx x1 x2 y1 y2
          go_wp2_with fail
          refine wp_region_quiet_below (by kernel_rfl) (by kernel_rfl) ?_
          repeat (quiet_step (fail))
          refine wpQuiet_nil ?_
          intro _ hw'
          obtain ⟨⟨dq, osq⟩, hw''⟩ := hw'
          subst hw''
          have HBW2 := Lib.hid (bC HBW.out (below_regrown wr dq osq))
          clear g1 g2 g3 g4
          generalize grow (redrawn wr dq) osq = w3 at *
          obtain ⟨⟨x1, x2⟩, ⟨y1, y2⟩⟩ := HX.out
          have g1 := fun d os => cell_regrown (cellB x1 HBW2.out) d os
          have g2 := fun d os => cell_regrown (cellB x2 HBW2.out) d os
          have g3 := fun d os => cell_regrown (cellB y1 HBW2.out) d os
          have g4 := fun d os => cell_regrown (cellB y2 HBW2.out) d os
          clear x1 x2 y1 y2
          have heq : ∀ w, (Op.equalIn 10000 56 (.agg #[.int .i64 b1, .int .i64 b2]) (.agg #[.int .i64 b1, .int .i64 b2])).run Try.prog w = .ok true w := fun w => (pk_eq ((b1 : Int), (b2 : Int)) ((b1 : Int), (b2 : Int)) w).trans (by rw [decide_eq_true rfl])
          go_wp2_with fail
          refine wp_region_quiet_below (by kernel_rfl) (by kernel_rfl) ?_
          repeat (quiet_step (fail))
          refine wpQuiet_nil ?_
          intro _ hw'
          obtain ⟨⟨dq, osq⟩, hw''⟩ := hw'
          subst hw''
          have HBW22 := Lib.hid (bC HBW2.out (below_regrown w3 dq osq))
          clear g1 g2 g3 g4 heq
          generalize grow (redrawn w3 dq) osq = w4 at *
          go_wp2
          rename_i wr8
          go_roundw
          case rel => exact ⟨k + 1, by go_num, by omega, by omega, HNB2.out, HBW22.out⟩
          case measure => simp [intOf]; omega
        · have hne : C[k] ≠ G[k] := by rw [hgp, hcp]; intro e; have := (Prod.mk.inj e).1; omega
          have t1 : decide ((a1 : Int) < (b1 : Int)) = false := by simp; omega
          have t2 : ((a1 : Int) == (b1 : Int)) = false := by rw [beq_eq_false_iff_ne]; omega
          have t3 : decide (a1 < b1) = false := by simp; omega
          have t4 : (a1 == b1) = false := by rw [beq_eq_false_iff_ne]; omega
          have hq : ¬ (((a1 : Int), (a2 : Int)) = ((b1 : Int), (b2 : Int))) := by intro e; have := (Prod.mk.inj e).1; omega
          clear hgp hcp
          have g1 := fun d os => cell_regrown (cellB x1 HBW.out) d os
          have g2 := fun d os => cell_regrown (cellB x2 HBW.out) d os
          have g3 := fun d os => cell_regrown (cellB y1 HBW.out) d os
          have g4 := fun d os => cell_regrown (cellB y2 HBW.out) d os
          have hx := And.intro (And.intro x1 x2) (And.intro y1 y2)
          have HX := Lib.hid hx
          clear hx x1 x2 y1 y2
          go_wp2_with fail
          refine wp_region_quiet_below (by kernel_rfl) (by kernel_rfl) ?_
          have hun : undef = Value.tuple #[] := rfl
          repeat (
            with_reducible refine wpQuiet_step (fun K hK => ?_)
            go_simp
            first
              | (with_reducible refine hK _ ?_; clear hK K)
              | (apply Exists.intro; refine ⟨fun _ => ?_, hK _ ?_⟩; (fail); clear hK K))
          refine wpQuiet_nil ?_
          intro _ hw'
          obtain ⟨⟨dq, osq⟩, hw''⟩ := hw'
          subst hw''
          have HBW2 := Lib.hid (bC HBW.out (below_regrown wr dq osq))
          clear g1 g2 g3 g4 hun
          generalize grow (redrawn wr dq) osq = w3 at *
          obtain ⟨⟨x1, x2⟩, ⟨y1, y2⟩⟩ := HX.out
          have g1 := fun d os => cell_regrown (cellB x1 HBW2.out) d os
          have g2 := fun d os => cell_regrown (cellB x2 HBW2.out) d os
          have g3 := fun d os => cell_regrown (cellB y1 HBW2.out) d os
          have g4 := fun d os => cell_regrown (cellB y2 HBW2.out) d os
          clear x1 x2 y1 y2
          have heq : ∀ w, (Op.equalIn 10000 56 (.agg #[.int .i64 a1, .int .i64 a2]) (.agg #[.int .i64 b1, .int .i64 b2])).run Try.prog w = .ok false w := fun w => (pk_eq ((a1 : Int), (a2 : Int)) ((b1 : Int), (b2 : Int)) w).trans (by rw [decide_eq_false hq])
          go_wp2_with fail
          refine wp_region_quiet_below (by kernel_rfl) (by kernel_rfl) ?_
          repeat (quiet_step (fail))
          refine wpQuiet_nil ?_
          intro _ hw'
          obtain ⟨⟨dq, osq⟩, hw''⟩ := hw'
          subst hw''
          have HBW22 := Lib.hid (bC HBW2.out (below_regrown w3 dq osq))
          clear g1 g2 g3 g4 heq
          generalize grow (redrawn w3 dq) osq = w4 at *
          have hm2 := H2W.out (neq_at hkc hkg (fun e => hne e))
          have m1 : decide (M > 1) = true := by simp; omega
          have m2 : decide (1 < M) = true := by simp; omega
          go_wp2_with fail
          refine (Works_any _).mono ?_
          rintro e w5 ⟨rfl, hb⟩
          replace HBW22 := Lib.hid (bC HBW22.out hb)
          clear hb
          go_wp2
          go_ret
          exact ⟨rfl, bC HB.out HBW22.out⟩
        · have hne : C[k] ≠ G[k] := by rw [hgp, hcp]; intro e; have := (Prod.mk.inj e).2; omega
          subst e
          have t1 : decide ((a2 : Int) < (b2 : Int)) = false := by simp; omega
          have t3 : decide (a2 < b2) = false := by simp; omega
          have hq : ¬ (((b1 : Int), (a2 : Int)) = ((b1 : Int), (b2 : Int))) := by intro e; have := (Prod.mk.inj e).2; omega
          clear hgp hcp
          have g1 := fun d os => cell_regrown (cellB x1 HBW.out) d os
          have g2 := fun d os => cell_regrown (cellB x2 HBW.out) d os
          have g3 := fun d os => cell_regrown (cellB y1 HBW.out) d os
          have g4 := fun d os => cell_regrown (cellB y2 HBW.out) d os
          have hx := And.intro (And.intro x1 x2) (And.intro y1 y2)
          have HX := Lib.hid hx
          clear hx x1 x2 y1 y2
          go_wp2_with fail
          refine wp_region_quiet_below (by kernel_rfl) (by kernel_rfl) ?_
          repeat (quiet_step (fail))
          refine wpQuiet_nil ?_
          intro _ hw'
          obtain ⟨⟨dq, osq⟩, hw''⟩ := hw'
          subst hw''
          have HBW2 := Lib.hid (bC HBW.out (below_regrown wr dq osq))
          clear g1 g2 g3 g4
          generalize grow (redrawn wr dq) osq = w3 at *
          obtain ⟨⟨x1, x2⟩, ⟨y1, y2⟩⟩ := HX.out
          have g1 := fun d os => cell_regrown (cellB x1 HBW2.out) d os
          have g2 := fun d os => cell_regrown (cellB x2 HBW2.out) d os
          have g3 := fun d os => cell_regrown (cellB y1 HBW2.out) d os
          have g4 := fun d os => cell_regrown (cellB y2 HBW2.out) d os
          clear x1 x2 y1 y2
          have heq : ∀ w, (Op.equalIn 10000 56 (.agg #[.int .i64 b1, .int .i64 a2]) (.agg #[.int .i64 b1, .int .i64 b2])).run Try.prog w = .ok false w := fun w => (pk_eq ((b1 : Int), (a2 : Int)) ((b1 : Int), (b2 : Int)) w).trans (by rw [decide_eq_false hq])
          go_wp2_with fail
          refine wp_region_quiet_below (by kernel_rfl) (by kernel_rfl) ?_
          repeat (quiet_step (fail))
          refine wpQuiet_nil ?_
          intro _ hw'
          obtain ⟨⟨dq, osq⟩, hw''⟩ := hw'
          subst hw''
          have HBW22 := Lib.hid (bC HBW2.out (below_regrown w3 dq osq))
          clear g1 g2 g3 g4 heq
          generalize grow (redrawn w3 dq) osq = w4 at *
          have hm2 := H2W.out (neq_at hkc hkg (fun e => hne e))
          have m1 : decide (M > 1) = true := by simp; omega
          have m2 : decide (1 < M) = true := by simp; omega
          go_wp2_with fail
          refine (Works_any _).mono ?_
          rintro e w5 ⟨rfl, hb⟩
          replace HBW22 := Lib.hid (bC HBW22.out hb)
          clear hb
          go_wp2
          go_ret
          exact ⟨rfl, bC HB.out HBW22.out⟩
      · have ipg : (k : Int) < (gl.length : Int) := by omega
        have dc : decide ((k : Int) < (cl.length : Int)) = false := by simp; omega
        have dc2 : decide (k < cl.length) = false := by simp; omega
        have HE := Lib.hid (nb_end hnb (by have := HLC.out; omega) (by have := HLG.out; omega) (by have := HLC.out; have := HLG.out; omega))
        have le1 : ((gl.length : Int) == (cl.length : Int)) = true := by have := HE.out; have := HLC.out; have := HLG.out; simp; omega
        have le2 : (gl.length == cl.length) = true := by have := HE.out; have := HLC.out; have := HLG.out; simp; omega
        clear hnb
        go_wp2_with fail
        refine (Works_any _).mono ?_
        rintro e w5 ⟨rfl, hb⟩
        replace HBW := Lib.hid (bC HBW.out hb)
        clear hb
        go_wp2
        go_ret
        exact ⟨rfl, bC HB.out HBW.out⟩
    · have dc : decide ((k : Int) < (gl.length : Int)) = false := by simp; omega
      have dc2 : decide (k < gl.length) = false := by simp; omega
      have HE := Lib.hid (nb_end hnb (by have := HLC.out; omega) (by have := HLG.out; omega) (by have := HLC.out; have := HLG.out; omega))
      have le1 : ((gl.length : Int) == (cl.length : Int)) = true := by have := HE.out; have := HLC.out; have := HLG.out; simp; omega
      have le2 : (gl.length == cl.length) = true := by have := HE.out; have := HLC.out; have := HLG.out; simp; omega
      clear hnb
      go_wp2_with fail
      refine (Works_any _).mono ?_
      rintro e w5 ⟨rfl, hb⟩
      replace HBW := Lib.hid (bC HBW.out hb)
      clear hb
      go_wp2
      go_ret
      exact ⟨rfl, bC HB.out HBW.out⟩
end Go.Proofs.Ytnkeikhkafbokaa
