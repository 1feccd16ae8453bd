import Derived.Test.YtlhldkiggmlegaaDoorOq
namespace Go.Proofs.YtlhldkiggmlegaaDoor
open Go.RowKit Go.Shelf Go.Sort
attribute [local go_sem] Oper.semAt_some

/-! ## The reference: Truth -/
theorem ints_news {W : World} {b o n cap : Nat} {l : List Int} (h : IntsAt W (.slice (some ⟨b, o, none⟩) n cap) l) : ∀ j u, (l.map (Value.int .i64))[j]? = some u → W.cell? (Addr.add ⟨b, o, none⟩ j) = some u := by
  intro j u hu
  obtain ⟨_, h2⟩ := h.at
  obtain ⟨hj, e⟩ := List.getElem?_eq_some_iff.1 hu
  rw [List.length_map] at hj
  obtain ⟨b', o', e1, e2⟩ := h2 j hj
  simp only [Option.some.injEq, Addr.mk.injEq, and_true] at e1
  obtain ⟨rfl, rfl⟩ := e1
  rw [List.getElem_map] at e
  have e3 : (Addr.add ⟨b, o, none⟩ j) = ⟨b, o + j, none⟩ := by
    unfold Addr.add
    split
    · rename_i h0; rw [h0]; rfl
    · rfl
  rw [e3, e2, e]
theorem owns_setA {W : World} {base size n : Nat} {e : TypeId} {v : Value} {xs : List Value} {B : Nat} (h : W.ownsRow base e size v n xs) (hne : ∀ g, v.ownBlock = some g → g ≠ B) (j : Nat) (u : Value) : (W.setCell ⟨B, j, none⟩ u).ownsRow base e size v n xs := by
  obtain ⟨h1, h2 | ⟨g, cap, cur, e1, e2, e3, e4⟩⟩ := h
  · exact ⟨h1, .inl h2⟩
  · exact ⟨h1, .inr ⟨g, cap, cur, e1, e2, Blk.other e3 (hne g (by rw [e1]; rfl)) u, e4⟩⟩
def truthF (r : RoughD) (most : Bool) (k : Nat) : Int × Int := if most then widE r k else narE r k
set_option maxRecDepth 1000000 in
set_option maxHeartbeats 40000000 in
theorem rTruth_any (v : Value) (r : RoughD) (most : Bool) (w : World) (hv : RoughAt w v r) (h0 : roughErr r = 0) :
    Calls Tryd.prog 86 #[v, .bool most] w fun e w' => ∃ u, e = .returned u ∧ LogAt w' u ⟨r.at_, upto (truthF r most) r.at_.length⟩ ∧ Below w.heap.size w w' := by
  obtain ⟨hF, _⟩ := rough_fit h0
  have h2 := hF.two
  have h8 := hF.eight
  have hl1 := hF.lens r.low (by simp)
  have hl2 := hF.lens r.high (by simp)
  obtain ⟨va, vl, vh, rfl, hA, hB, hC⟩ := hv
  have HRA := Lib.hid hA
  obtain ⟨a, cap, rfl⟩ := hA.slice
  obtain ⟨a2, cap2, rfl⟩ := hB.slice
  obtain ⟨a3, cap3, rfl⟩ := hC.slice
  have hat := (IntsAt.at (w := w) (a := a) (n := r.at_.length) (cap := cap) hA).2
  have hlo := (PairsAt.at (w := w) (a := a2) (n := r.low.length) (cap := cap2) hB).2
  have hhi := (PairsAt.at (w := w) (a := a3) (n := r.high.length) (cap := cap3) hC).2
  obtain ⟨b1, o1, rfl, -⟩ := hat 0 (by omega)
  obtain ⟨b2, o2, rfl, -⟩ := hlo 0 (by omega)
  obtain ⟨b3, o3, rfl, -⟩ := hhi 0 (by omega)
  have HLO := Lib.hid hlo
  have HHI := Lib.hid hhi
  have HNW := Lib.hid (ints_news hA)
  have HL := Lib.hid (And.intro (And.intro h2 h8) (And.intro hl1 hl2))
  obtain ⟨ir, hir, hk0, hk1, hk2⟩ := info_parts infoR
  obtain ⟨ii, hii, hj0, hj1, hj2⟩ := info_parts infoI
  have IR := Lib.hid hir
  have K0 := Lib.hid hk0
  have K1 := Lib.hid hk1
  have K2 := Lib.hid hk2
  have II := Lib.hid hii
  have J0 := Lib.hid hj0
  have J1 := Lib.hid hj1
  have J2 := Lib.hid hj2
  clear hir hk0 hk1 hk2 hii hj0 hj1 hj2 hA hB hC hat hlo hhi hl1 hl2 hF h0
  go_enter Tryd.func86, Tryd.ntmps86
  have p0 := ((Blk.new w (.cells #[.slice (some ⟨b1, o1, none⟩) r.at_.length cap, .slice (some ⟨b2, o2, none⟩) r.low.length cap2, .slice (some ⟨b3, o3, none⟩) r.high.length cap3] 53)).alloc (.cells #[.slice none 0 0, .slice none 0 0] 25)).alloc (.cells #[] 2)
  have p1 := (Blk.new (w.alloc (.cells #[.slice (some ⟨b1, o1, none⟩) r.at_.length cap, .slice (some ⟨b2, o2, none⟩) r.low.length cap2, .slice (some ⟨b3, o3, none⟩) r.high.length cap3] 53)) (.cells #[.slice none 0 0, .slice none 0 0] 25)).alloc (.cells #[] 2)
  have p2 := Blk.new ((w.alloc (.cells #[.slice (some ⟨b1, o1, none⟩) r.at_.length cap, .slice (some ⟨b2, o2, none⟩) r.low.length cap2, .slice (some ⟨b3, o3, none⟩) r.high.length cap3] 53)).alloc (.cells #[.slice none 0 0, .slice none 0 0] 25)) (.cells #[] 2)
  have pb := below3 w (.cells #[.slice (some ⟨b1, o1, none⟩) r.at_.length cap, .slice (some ⟨b2, o2, none⟩) r.low.length cap2, .slice (some ⟨b3, o3, none⟩) r.high.length cap3] 53) (.cells #[.slice none 0 0, .slice none 0 0] 25) (.cells #[] 2)
  simp only [World.size_alloc] at p1 p2
  have HOWN0 := Lib.hid (show World.ownsRow (((w.alloc (.cells #[.slice (some ⟨b1, o1, none⟩) r.at_.length cap, .slice (some ⟨b2, o2, none⟩) r.low.length cap2, .slice (some ⟨b3, o3, none⟩) r.high.length cap3] 53)).alloc (.cells #[.slice none 0 0, .slice none 0 0] 25)).alloc (.cells #[] 2)) w.heap.size 2 1 (.slice (some ⟨w.heap.size + 1 + 1, 0, none⟩) 0 0) 0 [] from ⟨rfl, .inr ⟨_, _, _, rfl, by omega, p2, Nat.le_refl _, by decide, rfl, rfl⟩⟩)
  have HNEW := Lib.hid (show ∀ j u, (r.at_.map (Value.int .i64))[j]? = some u → (((w.alloc (.cells #[.slice (some ⟨b1, o1, none⟩) r.at_.length cap, .slice (some ⟨b2, o2, none⟩) r.low.length cap2, .slice (some ⟨b3, o3, none⟩) r.high.length cap3] 53)).alloc (.cells #[.slice none 0 0, .slice none 0 0] 25)).alloc (.cells #[] 2)).cell? (Addr.add ⟨b1, o1, none⟩ j) = some u from ints_news (HRA.out.below pb))
  have P0 := Lib.hid p0
  have P1 := Lib.hid p1
  have PB := Lib.hid pb
  have HSZ := Lib.hid (show w.heap.size ≤ (((w.alloc (.cells #[.slice (some ⟨b1, o1, none⟩) r.at_.length cap, .slice (some ⟨b2, o2, none⟩) r.low.length cap2, .slice (some ⟨b3, o3, none⟩) r.high.length cap3] 53)).alloc (.cells #[.slice none 0 0, .slice none 0 0] 25)).alloc (.cells #[] 2)).heap.size from pb.size)
  clear p0 p1 p2 pb
  go_wp2_with (at_builtin; refine wpList_append_own _ rfl (.tmp 8) (.tmp 10) 22 rfl w.heap.size 2 ii (.int .i64 0) 1 8 undI II.out J0.out J1.out J2.out rfl (by decide) _ _ _ rfl HOWN0.out ⟨b1, o1, none⟩ r.at_.length cap (r.at_.map (Value.int .i64)) rfl (by simp) HNEW.out (by intro u hu; obtain ⟨z, _, rfl⟩ := List.mem_map.1 hu; rfl) (by unfold maxLen; omega) (by omega) HSZ.out ?_)
  intro vA VB own gr _
  have Q := Lib.hid (P0.out.grown HOWN0.out (by decide) gr)
  have Y := Lib.hid (P1.out.grown HOWN0.out (by decide) gr)
  have BL := Lib.hid (below_owns HOWN0.out gr PB.out HSZ.out)
  have RA := Lib.hid own
  have hsz := Y.out.lt
  clear own gr HOWN0 HNEW P0 P1 PB HSZ
  generalize hnl : 0 + r.at_.length = nl at RA
  have enl : nl = r.at_.length := by omega
  subst enl
  clear hnl
  obtain ⟨a4, n4, c4, rfl⟩ := (Row.of_owns RA.out).slice
  have p3 := Blk.new VB (.cells #[.slice a4 n4 c4, .slice none 0 0] 25)
  have hbx := below1 VB (.cells #[.slice a4 n4 c4, .slice none 0 0] 25)
  have BO0 := BL.out.size
  go_wp2_with fail
  replace Q := Lib.hid (Q.out.below hbx)
  replace Y := Lib.hid (Y.out.below hbx)
  replace RA := Lib.hid (owns_below RA.out hbx)
  replace BL := Lib.hid (bC BL.out hbx)
  have X := Lib.hid p3
  clear p3 hbx
  generalize VB.alloc (.cells #[.slice a4 n4 c4, .slice none 0 0] 25) = VC at *
  go_loopw [6] (fun i wr => ∃ (k : Nat) (ve : Value), i = .int .i64 (k : Int) ∧ k ≤ r.at_.length ∧ wr.ownsRow w.heap.size 2 1 (.slice a4 n4 c4) r.at_.length ([] ++ r.at_.map (Value.int .i64)) ∧ wr.ownsRow w.heap.size 69 2 ve k (pairCells (upto (truthF r most) k)) ∧ Blk wr w.heap.size (.cells #[.slice (some ⟨b1, o1, none⟩) r.at_.length cap, .slice (some ⟨b2, o2, none⟩) r.low.length cap2, .slice (some ⟨b3, o3, none⟩) r.high.length cap3] 53) ∧ Blk wr (w.heap.size + 1) (.cells #[.slice none 0 0, .slice none 0 0] 25) ∧ Blk wr VB.heap.size (.cells #[.slice a4 n4 c4, ve] 25) ∧ Below w.heap.size w wr) (fun i _ => r.at_.length - (intOf i).toNat)
  case atStart => exact ⟨0, .slice none 0 0, rfl, Nat.zero_le _, RA.out, ⟨rfl, .inl ⟨rfl, rfl⟩⟩, Q.out, Y.out, X.out, BL.out⟩
  case round =>
    clear RA Q Y X BL
    rename_i wr
    obtain ⟨k, ve, rfl, hk, hra, hre, hq, hy, hx, hb⟩ := hrel
    obtain ⟨a5, n5, c5, rfl⟩ := (Row.of_owns hre).slice
    have RA := Lib.hid hra
    have RE := Lib.hid hre
    have Q := Lib.hid hq
    have Y := Lib.hid hy
    have X := Lib.hid hx
    have BL := Lib.hid hb
    have m0 := hq.cell 0
    simp at m0
    have ml := hq.lt
    have rk1 : IntKind.i64.wrap ((k : Int) + 1) = (k : Int) + 1 := IntWalk.i64_in _ (by omega)
    clear hra hre hq hy hx hb
    by_cases hlt : k < r.at_.length
    · have hl1 : k < r.low.length := by have := HL.out; omega
      have hl2 : k < r.high.length := by have := HL.out; omega
      obtain ⟨b2', o2', e2, hc2, hc3⟩ := HLO.out k hl1
      obtain ⟨b3', o3', e3, hc4, hc5⟩ := HHI.out k hl2
      simp only [Option.some.injEq, Addr.mk.injEq, and_true] at e2 e3
      obtain ⟨rfl, rfl⟩ := e2
      obtain ⟨rfl, rfl⟩ := e3
      obtain ⟨la, hla⟩ : ∃ z, r.low[k].1 = z := ⟨_, rfl⟩
      obtain ⟨lb, hlb⟩ : ∃ z, r.low[k].2 = z := ⟨_, rfl⟩
      obtain ⟨ha, hha⟩ : ∃ z, r.high[k].1 = z := ⟨_, rfl⟩
      obtain ⟨hb, hhb⟩ : ∃ z, r.high[k].2 = z := ⟨_, rfl⟩
      rw [hla] at hc2
      rw [hlb] at hc3
      rw [hha] at hc4
      rw [hhb] at hc5
      have HT := Lib.hid (show truthF r most k = if most then (la, hb) else (lb, ha) by
        have x1 : r.low.getD k (0, 0) = r.low[k] := by simp [hl1]
        have x2 : r.high.getD k (0, 0) = r.high[k] := by simp [hl2]
        simp only [truthF, widE, narE, x1, x2, hla, hlb, hha, hhb])
      have tk : decide ((k : Int) < (r.at_.length : Int)) = true := by simp; omega
      clear hla hlb hha hhb
      go_wp2_with fail
      clear m0 ml
      have c0 : wr.cell? ⟨w.heap.size, 1, none⟩ = some (.slice (some ⟨b2, o2, none⟩) r.low.length cap2) := by rw [Q.out.cell]; rfl
      have c1x : wr.cell? ⟨w.heap.size, 2, none⟩ = some (.slice (some ⟨b3, o3, none⟩) r.high.length cap3) := by rw [Q.out.cell]; rfl
      have c2x : wr.cell? ⟨b2, o2 + k * 2, none⟩ = some (.int .i64 (la)) := cellB hc2 BL.out
      have c3x : wr.cell? ⟨b2, o2 + k * 2 + 1, none⟩ = some (.int .i64 (lb)) := cellB hc3 BL.out
      have c4x : wr.cell? ⟨b3, o3 + k * 2, none⟩ = some (.int .i64 (ha)) := cellB hc4 BL.out
      have c5x : wr.cell? ⟨b3, o3 + k * 2 + 1, none⟩ = some (.int .i64 (hb)) := cellB hc5 BL.out
      refine wp_region_T 14 (fun W' => W'.cell? ⟨w.heap.size, 1, none⟩ = some (.slice (some ⟨b2, o2, none⟩) r.low.length cap2) ∧ W'.cell? ⟨w.heap.size, 2, none⟩ = some (.slice (some ⟨b3, o3, none⟩) r.high.length cap3) ∧ W'.cell? ⟨b2, o2 + k * 2, none⟩ = some (.int .i64 (la)) ∧ W'.cell? ⟨b2, o2 + k * 2 + 1, none⟩ = some (.int .i64 (lb)) ∧ W'.cell? ⟨b3, o3 + k * 2, none⟩ = some (.int .i64 (ha)) ∧ W'.cell? ⟨b3, o3 + k * 2 + 1, none⟩ = some (.int .i64 (hb))) (by kernel_rfl) (by kernel_rfl) ⟨c0, c1x, c2x, c3x, c4x, c5x⟩ ?_
      intro inv hS
      have hbD : Below wr.heap.size wr wr.drew := (Below.refl _ _).drew
      generalize wr.drew = V0 at *
      replace RA := Lib.hid (owns_below RA.out hbD)
      replace RE := Lib.hid (owns_below RE.out hbD)
      replace Q := Lib.hid (Q.out.below hbD)
      replace Y := Lib.hid (Y.out.below hbD)
      replace X := Lib.hid (X.out.below hbD)
      replace BL := Lib.hid (bC BL.out hbD)
      clear hbD
      clear c0
      have c0 : V0.cell? ⟨w.heap.size, 1, none⟩ = some (.slice (some ⟨b2, o2, none⟩) r.low.length cap2) := by rw [Q.out.cell]; rfl
      clear c1x
      have c1x : V0.cell? ⟨w.heap.size, 2, none⟩ = some (.slice (some ⟨b3, o3, none⟩) r.high.length cap3) := by rw [Q.out.cell]; rfl
      clear c2x
      have c2x : V0.cell? ⟨b2, o2 + k * 2, none⟩ = some (.int .i64 (la)) := cellB hc2 BL.out
      clear c3x
      have c3x : V0.cell? ⟨b2, o2 + k * 2 + 1, none⟩ = some (.int .i64 (lb)) := cellB hc3 BL.out
      clear c4x
      have c4x : V0.cell? ⟨b3, o3 + k * 2, none⟩ = some (.int .i64 (ha)) := cellB hc4 BL.out
      clear c5x
      have c5x : V0.cell? ⟨b3, o3 + k * 2 + 1, none⟩ = some (.int .i64 (hb)) := cellB hc5 BL.out
      refine wpAnyT_take inv (by kernel_rfl) (by omega) (i := 0) (v := .pointer (some ⟨w.heap.size, 1, none⟩)) rfl (by kernel_rfl) (by kernel_rfl) (fun _ _ _ h => h) (Or.inl ⟨by kernel_rfl, ?_⟩) (by assumption) ?_
      · rintro W' ⟨s0, s1, s2, s3, s4, s5⟩
        go_simp
      intro inv2
      clear inv
      have inv := inv2
      clear inv2
      simp only [Act.put, List.setIfInBounds_toArray]
      refine wpAnyT_take inv (by kernel_rfl) (by omega) (i := 1) (v := .slice (some ⟨b2, o2, none⟩) r.low.length cap2) rfl (by kernel_rfl) (by kernel_rfl) (fun _ _ _ h => h) (Or.inl ⟨by kernel_rfl, ?_⟩) (by assumption) ?_
      · rintro W' ⟨s0, s1, s2, s3, s4, s5⟩
        go_simp
      intro inv2
      clear inv
      have inv := inv2
      clear inv2
      simp only [Act.put]
      refine wpAnyT_take inv (by kernel_rfl) (by omega) (i := 2) (v := .int .i64 (k : Int)) rfl (by kernel_rfl) (by kernel_rfl) (fun _ _ _ h => h) (Or.inl ⟨by kernel_rfl, ?_⟩) (by assumption) ?_
      · rintro W' ⟨s0, s1, s2, s3, s4, s5⟩
        go_simp
      intro inv2
      clear inv
      have inv := inv2
      clear inv2
      simp only [Act.put]
      refine wpAnyT_take inv (by kernel_rfl) (by omega) (i := 3) (v := .pointer (some ⟨b2, o2 + k * 2, none⟩)) rfl (by kernel_rfl) (by kernel_rfl) (fun _ _ _ h => h) (Or.inl ⟨by kernel_rfl, ?_⟩) (by assumption) ?_
      · rintro W' ⟨s0, s1, s2, s3, s4, s5⟩
        go_simp
      intro inv2
      clear inv
      have inv := inv2
      clear inv2
      simp only [Act.put]
      refine wpAnyT_take inv (by kernel_rfl) (by omega) (i := 4) (v := .pointer (some ⟨b2, o2 + k * 2 + 1, none⟩)) rfl (by kernel_rfl) (by kernel_rfl) (fun _ _ _ h => h) (Or.inl ⟨by kernel_rfl, ?_⟩) (by assumption) ?_
      · rintro W' ⟨s0, s1, s2, s3, s4, s5⟩
        go_simp
      intro inv2
      clear inv
      have inv := inv2
      clear inv2
      simp only [Act.put]
      refine wpAnyT_take inv (by kernel_rfl) (by omega) (i := 5) (v := .int .i64 (lb)) rfl (by kernel_rfl) (by kernel_rfl) (fun _ _ _ h => h) (Or.inl ⟨by kernel_rfl, ?_⟩) (by assumption) ?_
      · rintro W' ⟨s0, s1, s2, s3, s4, s5⟩
        go_simp
      intro inv2
      clear inv
      have inv := inv2
      clear inv2
      simp only [Act.put]
      refine wpAnyT_take inv (by kernel_rfl) (by omega) (i := 6) (v := .pointer (some ⟨w.heap.size, 2, none⟩)) rfl (by kernel_rfl) (by kernel_rfl) (fun _ _ _ h => h) (Or.inl ⟨by kernel_rfl, ?_⟩) (by assumption) ?_
      · rintro W' ⟨s0, s1, s2, s3, s4, s5⟩
        go_simp
      intro inv2
      clear inv
      have inv := inv2
      clear inv2
      simp only [Act.put]
      refine wpAnyT_take inv (by kernel_rfl) (by omega) (i := 7) (v := .slice (some ⟨b3, o3, none⟩) r.high.length cap3) rfl (by kernel_rfl) (by kernel_rfl) (fun _ _ _ h => h) (Or.inl ⟨by kernel_rfl, ?_⟩) (by assumption) ?_
      · rintro W' ⟨s0, s1, s2, s3, s4, s5⟩
        go_simp
      intro inv2
      clear inv
      have inv := inv2
      clear inv2
      simp only [Act.put]
      refine wpAnyT_take inv (by kernel_rfl) (by omega) (i := 8) (v := .int .i64 (k : Int)) rfl (by kernel_rfl) (by kernel_rfl) (fun _ _ _ h => h) (Or.inl ⟨by kernel_rfl, ?_⟩) (by assumption) ?_
      · rintro W' ⟨s0, s1, s2, s3, s4, s5⟩
        go_simp
      intro inv2
      clear inv
      have inv := inv2
      clear inv2
      simp only [Act.put]
      refine wpAnyT_take inv (by kernel_rfl) (by omega) (i := 9) (v := .pointer (some ⟨b3, o3 + k * 2, none⟩)) rfl (by kernel_rfl) (by kernel_rfl) (fun _ _ _ h => h) (Or.inl ⟨by kernel_rfl, ?_⟩) (by assumption) ?_
      · rintro W' ⟨s0, s1, s2, s3, s4, s5⟩
        go_simp
      intro inv2
      clear inv
      have inv := inv2
      clear inv2
      simp only [Act.put]
      refine wpAnyT_take inv (by kernel_rfl) (by omega) (i := 10) (v := .pointer (some ⟨b3, o3 + k * 2, none⟩)) rfl (by kernel_rfl) (by kernel_rfl) (fun _ _ _ h => h) (Or.inl ⟨by kernel_rfl, ?_⟩) (by assumption) ?_
      · rintro W' ⟨s0, s1, s2, s3, s4, s5⟩
        go_simp
      intro inv2
      clear inv
      have inv := inv2
      clear inv2
      simp only [Act.put]
      refine wpAnyT_take inv (by kernel_rfl) (by omega) (i := 11) (v := .int .i64 (ha)) rfl (by kernel_rfl) (by kernel_rfl) (fun _ _ _ h => h) (Or.inl ⟨by kernel_rfl, ?_⟩) (by assumption) ?_
      · rintro W' ⟨s0, s1, s2, s3, s4, s5⟩
        go_simp
      intro inv2
      clear inv
      have inv := inv2
      clear inv2
      simp only [Act.put]
      refine wpAnyT_take inv (by kernel_rfl) (by omega) (i := 12) (v := .agg #[.int .i64 lb, .int .i64 ha]) rfl (by kernel_rfl) (by kernel_rfl) (fun _ _ _ h => h) (Or.inl ⟨by kernel_rfl, ?_⟩) (by assumption) ?_
      · rintro W' ⟨s0, s1, s2, s3, s4, s5⟩
        go_simp
      intro inv2
      clear inv
      have inv := inv2
      clear inv2
      simp only [Act.put]
      refine wpAnyT_ready [13] (by kernel_rfl) (by simp) ?_
      refine AllReadyT.cons rfl (fun K hK => ?_) AllReadyT.nil
      go_simp
      have hbA := below1 V0 (.cells #[.int .i64 0, .int .i64 0] 69)
      have BN13 := Lib.hid (Blk.new V0 (.cells #[.int .i64 0, .int .i64 0] 69))
      have SN13 : w.heap.size ≤ V0.heap.size := BL.out.size
      have AN13RA := fun g (h : Value.ownBlock (.slice a4 n4 c4) = some g) (e : g = V0.heap.size) => show False by have := owns_block RA.out h; omega
      have AN13RE := fun g (h : Value.ownBlock (.slice a5 n5 c5) = some g) (e : g = V0.heap.size) => show False by have := owns_block RE.out h; omega
      generalize V0.alloc (.cells #[.int .i64 0, .int .i64 0] 69) = V1 at *
      replace RA := Lib.hid (owns_below RA.out hbA)
      replace RE := Lib.hid (owns_below RE.out hbA)
      replace Q := Lib.hid (Q.out.below hbA)
      replace Y := Lib.hid (Y.out.below hbA)
      replace X := Lib.hid (X.out.below hbA)
      replace BL := Lib.hid (bC BL.out hbA)
      clear hbA
      clear c0
      have c0 : V1.cell? ⟨w.heap.size, 1, none⟩ = some (.slice (some ⟨b2, o2, none⟩) r.low.length cap2) := by rw [Q.out.cell]; rfl
      clear c1x
      have c1x : V1.cell? ⟨w.heap.size, 2, none⟩ = some (.slice (some ⟨b3, o3, none⟩) r.high.length cap3) := by rw [Q.out.cell]; rfl
      clear c2x
      have c2x : V1.cell? ⟨b2, o2 + k * 2, none⟩ = some (.int .i64 (la)) := cellB hc2 BL.out
      clear c3x
      have c3x : V1.cell? ⟨b2, o2 + k * 2 + 1, none⟩ = some (.int .i64 (lb)) := cellB hc3 BL.out
      clear c4x
      have c4x : V1.cell? ⟨b3, o3 + k * 2, none⟩ = some (.int .i64 (ha)) := cellB hc4 BL.out
      clear c5x
      have c5x : V1.cell? ⟨b3, o3 + k * 2 + 1, none⟩ = some (.int .i64 (hb)) := cellB hc5 BL.out
      refine hK.out _ _ (fun _ => ⟨c0, c1x, c2x, c3x, c4x, c5x⟩) (fun _ => ?_)
      clear hK K
      try simp only [Act.put]
      refine wpAnyT_chain (fuel := 1) rfl (by kernel_rfl) ?_
      simp only [List.drop_succ_cons, List.drop_zero]
      clear hS inv c0 c1x c2x c3x c4x c5x
      have BE := BN13
      have AERA := Lib.hid (fun g (h : Value.ownBlock (.slice a4 n4 c4) = some g) => show g ≠ V0.heap.size from fun e => AN13RA g h e)
      have AERE := Lib.hid (fun g (h : Value.ownBlock (.slice a5 n5 c5) = some g) => show g ≠ V0.heap.size from fun e => AN13RE g h e)
      have NQ := Lib.hid (ne_types Q.out BE.out (by decide))
      have NY := Lib.hid (ne_types Y.out BE.out (by decide))
      have NX := Lib.hid (ne_types X.out BE.out (by decide))
      have SE := Lib.hid SN13
      clear BN13 AN13RA AN13RE SN13
      cases most
      · have xe0 := BE.out.cell 0
        have xe1 := BE.out.cell 1
        have ze0 := BE.out.frozen 0
        have ze1 := BE.out.frozen 1
        have xel := BE.out.lt
        simp at xe0 xe1
        have UE := (BE.out.set (j := 0) (.int .i64 (lb))).set (j := 1) (.int .i64 (ha))
        simp only [List.setIfInBounds_toArray, List.set_cons_zero, List.set_cons_succ] at UE
        replace RA := Lib.hid (owns_setA (owns_setA RA.out AERA.out 0 (.int .i64 (lb))) AERA.out 1 (.int .i64 (ha)))
        replace RE := Lib.hid (owns_setA (owns_setA RE.out AERE.out 0 (.int .i64 (lb))) AERE.out 1 (.int .i64 (ha)))
        replace Q := Lib.hid ((Q.out.other NQ.out (j := 0) (.int .i64 (lb))).other NQ.out (j := 1) (.int .i64 (ha)))
        replace Y := Lib.hid ((Y.out.other NY.out (j := 0) (.int .i64 (lb))).other NY.out (j := 1) (.int .i64 (ha)))
        replace X := Lib.hid ((X.out.other NX.out (j := 0) (.int .i64 (lb))).other NX.out (j := 1) (.int .i64 (ha)))
        replace BL := Lib.hid ((BL.out.setCell (p := ⟨V0.heap.size, 0, none⟩) SE.out (.int .i64 (lb))).setCell (p := ⟨V0.heap.size, 1, none⟩) SE.out (.int .i64 (ha)))
        replace BE := Lib.hid UE
        clear UE
        have HT' := HT.out
        simp only [Bool.false_eq_true, if_false] at HT'
        replace HT := Lib.hid HT'
        clear HT'
        have c7x := X.out.cell 1
        have c8x := BE.out.cell 0
        have c9x := BE.out.cell 1
        simp at c7x c8x c9x
        have lx := X.out.lt
        have lex := BE.out.lt
        have hszz : ((V1.setCell ⟨V0.heap.size, 0, none⟩ (.int .i64 (lb))).setCell ⟨V0.heap.size, 1, none⟩ (.int .i64 (ha))).heap.size = V1.heap.size := by simp
        have BN0 := Blk.new ((V1.setCell ⟨V0.heap.size, 0, none⟩ (.int .i64 (lb))).setCell ⟨V0.heap.size, 1, none⟩ (.int .i64 (ha))) (.cells #[.int .i64 (lb), .int .i64 (ha)] 69)
        rw [hszz] at BN0
        have BN := Lib.hid BN0
        have hbn := below1 ((V1.setCell ⟨V0.heap.size, 0, none⟩ (.int .i64 (lb))).setCell ⟨V0.heap.size, 1, none⟩ (.int .i64 (ha))) (.cells #[.int .i64 (lb), .int .i64 (ha)] 69)
        have HNN := Lib.hid (cells_pair (by rw [BN.out.cell]; rfl) (by rw [BN.out.cell]; rfl) : ∀ jj uu, ([.int .i64 (lb), .int .i64 (ha)] : List Value)[jj]? = some uu → (((V1.setCell ⟨V0.heap.size, 0, none⟩ (.int .i64 (lb))).setCell ⟨V0.heap.size, 1, none⟩ (.int .i64 (ha))).alloc (.cells #[.int .i64 (lb), .int .i64 (ha)] 69)).cell? (Addr.add ⟨V1.heap.size, 0, none⟩ jj) = some uu)
        have RE' := Lib.hid (owns_below RE.out hbn)
        have RA' := Lib.hid (owns_below RA.out hbn)
        have Q' := Lib.hid (Q.out.below hbn)
        have Y' := Lib.hid (Y.out.below hbn)
        have X' := Lib.hid (X.out.below hbn)
        have BL' := Lib.hid (bC BL.out hbn)
        have HSZ := Lib.hid BL'.out.size
        clear hbn BN0 BN RE RA Q Y X BL hszz
        go_wp2_with (at_builtin; refine wpList_append_own _ rfl (.tmp 48) (.tmp 50) 23 rfl w.heap.size 69 ir (.agg #[.int .i64 0, .int .i64 0]) 2 16 undR IR.out K0.out K1.out K2.out rfl (by decide) _ _ _ rfl RE'.out ⟨V1.heap.size, 0, none⟩ 1 1 [.int .i64 (lb), .int .i64 (ha)] rfl rfl HNN.out (by intro u hu; simp only [List.mem_cons, List.not_mem_nil, or_false] at hu; rcases hu with rfl | rfl <;> rfl) (by unfold maxLen; omega) (by omega) HSZ.out ?_)
        intro v7 V7 own gr _
        have Q := Lib.hid (Q'.out.grown RE'.out (by decide) gr)
        have Y := Lib.hid (Y'.out.grown RE'.out (by decide) gr)
        have X := Lib.hid (X'.out.grown RE'.out (by decide) gr)
        have RA := Lib.hid (owns_grown RE'.out RA'.out (by decide) gr)
        have BL := Lib.hid (below_owns RE'.out gr BL'.out HSZ.out)
        have RE := Lib.hid own
        clear own gr RE' RA' Q' Y' X' BL' HSZ HNN c7x c8x c9x lx lex BE
        obtain ⟨a7, n7, c7, rfl⟩ := (Row.of_owns RE.out).slice
        have x1 := X.out.cell 1
        have z1 := X.out.frozen 1
        have xl := X.out.lt
        simp at x1
        have U := (X.out.set (j := 1) (.slice a7 n7 c7))
        simp only [List.setIfInBounds_toArray, List.set_cons_zero, List.set_cons_succ] at U
        replace RE := Lib.hid (owns_set RE.out X.out (by decide) 1 (.slice a7 n7 c7))
        replace RA := Lib.hid (owns_set RA.out X.out (by decide) 1 (.slice a7 n7 c7))
        replace Q := Lib.hid (Q.out.other (b := VB.heap.size) (by omega) (j := 1) (.slice a7 n7 c7))
        replace Y := Lib.hid (Y.out.other (b := VB.heap.size) (by omega) (j := 1) (.slice a7 n7 c7))
        replace BL := Lib.hid (BL.out.setCell (p := ⟨VB.heap.size, 1, none⟩) BO0 (.slice a7 n7 c7))
        replace X := Lib.hid U
        clear U
        go_wp2
        go_roundw
        case rel =>
          refine ⟨k + 1, .slice a7 n7 c7, by go_num, by omega, RA.out, ?_, Q.out, Y.out, X.out, BL.out⟩
          rw [upto_snoc, pairCells_snoc, HT.out]
          exact RE.out
        case measure => first | (simp [intOf]; done) | (simp [intOf]; omega)
      · have xe0 := BE.out.cell 0
        have xe1 := BE.out.cell 1
        have ze0 := BE.out.frozen 0
        have ze1 := BE.out.frozen 1
        have xel := BE.out.lt
        simp at xe0 xe1
        have UE := (BE.out.set (j := 0) (.int .i64 (lb))).set (j := 1) (.int .i64 (ha))
        simp only [List.setIfInBounds_toArray, List.set_cons_zero, List.set_cons_succ] at UE
        replace RA := Lib.hid (owns_setA (owns_setA RA.out AERA.out 0 (.int .i64 (lb))) AERA.out 1 (.int .i64 (ha)))
        replace RE := Lib.hid (owns_setA (owns_setA RE.out AERE.out 0 (.int .i64 (lb))) AERE.out 1 (.int .i64 (ha)))
        replace Q := Lib.hid ((Q.out.other NQ.out (j := 0) (.int .i64 (lb))).other NQ.out (j := 1) (.int .i64 (ha)))
        replace Y := Lib.hid ((Y.out.other NY.out (j := 0) (.int .i64 (lb))).other NY.out (j := 1) (.int .i64 (ha)))
        replace X := Lib.hid ((X.out.other NX.out (j := 0) (.int .i64 (lb))).other NX.out (j := 1) (.int .i64 (ha)))
        replace BL := Lib.hid ((BL.out.setCell (p := ⟨V0.heap.size, 0, none⟩) SE.out (.int .i64 (lb))).setCell (p := ⟨V0.heap.size, 1, none⟩) SE.out (.int .i64 (ha)))
        replace BE := Lib.hid UE
        clear UE
        have HT' := HT.out
        simp only [if_true] at HT'
        replace HT := Lib.hid HT'
        clear HT'
        go_wp2_with fail
        clear xe0 xe1 ze0 ze1 xel
        generalize ((V1.setCell ⟨V0.heap.size, 0, none⟩ (.int .i64 (lb))).setCell ⟨V0.heap.size, 1, none⟩ (.int .i64 (ha))) = wz at *
        have c0 : wz.cell? ⟨w.heap.size, 1, none⟩ = some (.slice (some ⟨b2, o2, none⟩) r.low.length cap2) := by rw [Q.out.cell]; rfl
        have c1x : wz.cell? ⟨w.heap.size, 2, none⟩ = some (.slice (some ⟨b3, o3, none⟩) r.high.length cap3) := by rw [Q.out.cell]; rfl
        have c2x : wz.cell? ⟨b2, o2 + k * 2, none⟩ = some (.int .i64 (la)) := cellB hc2 BL.out
        have c3x : wz.cell? ⟨b2, o2 + k * 2 + 1, none⟩ = some (.int .i64 (lb)) := cellB hc3 BL.out
        have c4x : wz.cell? ⟨b3, o3 + k * 2, none⟩ = some (.int .i64 (ha)) := cellB hc4 BL.out
        have c5x : wz.cell? ⟨b3, o3 + k * 2 + 1, none⟩ = some (.int .i64 (hb)) := cellB hc5 BL.out
        refine wp_region_T 13 (fun W' => W'.cell? ⟨w.heap.size, 1, none⟩ = some (.slice (some ⟨b2, o2, none⟩) r.low.length cap2) ∧ W'.cell? ⟨w.heap.size, 2, none⟩ = some (.slice (some ⟨b3, o3, none⟩) r.high.length cap3) ∧ W'.cell? ⟨b2, o2 + k * 2, none⟩ = some (.int .i64 (la)) ∧ W'.cell? ⟨b2, o2 + k * 2 + 1, none⟩ = some (.int .i64 (lb)) ∧ W'.cell? ⟨b3, o3 + k * 2, none⟩ = some (.int .i64 (ha)) ∧ W'.cell? ⟨b3, o3 + k * 2 + 1, none⟩ = some (.int .i64 (hb))) (by kernel_rfl) (by kernel_rfl) ⟨c0, c1x, c2x, c3x, c4x, c5x⟩ ?_
        intro inv hS
        have hbD : Below wz.heap.size wz wz.drew := (Below.refl _ _).drew
        generalize wz.drew = U0 at *
        replace RA := Lib.hid (owns_below RA.out hbD)
        replace RE := Lib.hid (owns_below RE.out hbD)
        replace Q := Lib.hid (Q.out.below hbD)
        replace Y := Lib.hid (Y.out.below hbD)
        replace X := Lib.hid (X.out.below hbD)
        replace BE := Lib.hid (BE.out.below hbD)
        replace BL := Lib.hid (bC BL.out hbD)
        clear hbD
        clear c0
        have c0 : U0.cell? ⟨w.heap.size, 1, none⟩ = some (.slice (some ⟨b2, o2, none⟩) r.low.length cap2) := by rw [Q.out.cell]; rfl
        clear c1x
        have c1x : U0.cell? ⟨w.heap.size, 2, none⟩ = some (.slice (some ⟨b3, o3, none⟩) r.high.length cap3) := by rw [Q.out.cell]; rfl
        clear c2x
        have c2x : U0.cell? ⟨b2, o2 + k * 2, none⟩ = some (.int .i64 (la)) := cellB hc2 BL.out
        clear c3x
        have c3x : U0.cell? ⟨b2, o2 + k * 2 + 1, none⟩ = some (.int .i64 (lb)) := cellB hc3 BL.out
        clear c4x
        have c4x : U0.cell? ⟨b3, o3 + k * 2, none⟩ = some (.int .i64 (ha)) := cellB hc4 BL.out
        clear c5x
        have c5x : U0.cell? ⟨b3, o3 + k * 2 + 1, none⟩ = some (.int .i64 (hb)) := cellB hc5 BL.out
        refine wpAnyT_take inv (by kernel_rfl) (by omega) (i := 0) (v := .pointer (some ⟨w.heap.size, 1, none⟩)) rfl (by kernel_rfl) (by kernel_rfl) (fun _ _ _ h => h) (Or.inl ⟨by kernel_rfl, ?_⟩) (by assumption) ?_
        · rintro W' ⟨s0, s1, s2, s3, s4, s5⟩
          go_simp
        intro inv2
        clear inv
        have inv := inv2
        clear inv2
        simp only [Act.put, List.setIfInBounds_toArray]
        refine wpAnyT_take inv (by kernel_rfl) (by omega) (i := 1) (v := .slice (some ⟨b2, o2, none⟩) r.low.length cap2) rfl (by kernel_rfl) (by kernel_rfl) (fun _ _ _ h => h) (Or.inl ⟨by kernel_rfl, ?_⟩) (by assumption) ?_
        · rintro W' ⟨s0, s1, s2, s3, s4, s5⟩
          go_simp
        intro inv2
        clear inv
        have inv := inv2
        clear inv2
        simp only [Act.put]
        refine wpAnyT_take inv (by kernel_rfl) (by omega) (i := 2) (v := .int .i64 (k : Int)) rfl (by kernel_rfl) (by kernel_rfl) (fun _ _ _ h => h) (Or.inl ⟨by kernel_rfl, ?_⟩) (by assumption) ?_
        · rintro W' ⟨s0, s1, s2, s3, s4, s5⟩
          go_simp
        intro inv2
        clear inv
        have inv := inv2
        clear inv2
        simp only [Act.put]
        refine wpAnyT_take inv (by kernel_rfl) (by omega) (i := 3) (v := .pointer (some ⟨b2, o2 + k * 2, none⟩)) rfl (by kernel_rfl) (by kernel_rfl) (fun _ _ _ h => h) (Or.inl ⟨by kernel_rfl, ?_⟩) (by assumption) ?_
        · rintro W' ⟨s0, s1, s2, s3, s4, s5⟩
          go_simp
        intro inv2
        clear inv
        have inv := inv2
        clear inv2
        simp only [Act.put]
        refine wpAnyT_take inv (by kernel_rfl) (by omega) (i := 4) (v := .pointer (some ⟨b2, o2 + k * 2, none⟩)) rfl (by kernel_rfl) (by kernel_rfl) (fun _ _ _ h => h) (Or.inl ⟨by kernel_rfl, ?_⟩) (by assumption) ?_
        · rintro W' ⟨s0, s1, s2, s3, s4, s5⟩
          go_simp
        intro inv2
        clear inv
        have inv := inv2
        clear inv2
        simp only [Act.put]
        refine wpAnyT_take inv (by kernel_rfl) (by omega) (i := 5) (v := .int .i64 (la)) rfl (by kernel_rfl) (by kernel_rfl) (fun _ _ _ h => h) (Or.inl ⟨by kernel_rfl, ?_⟩) (by assumption) ?_
        · rintro W' ⟨s0, s1, s2, s3, s4, s5⟩
          go_simp
        intro inv2
        clear inv
        have inv := inv2
        clear inv2
        simp only [Act.put]
        refine wpAnyT_take inv (by kernel_rfl) (by omega) (i := 6) (v := .pointer (some ⟨w.heap.size, 2, none⟩)) rfl (by kernel_rfl) (by kernel_rfl) (fun _ _ _ h => h) (Or.inl ⟨by kernel_rfl, ?_⟩) (by assumption) ?_
        · rintro W' ⟨s0, s1, s2, s3, s4, s5⟩
          go_simp
        intro inv2
        clear inv
        have inv := inv2
        clear inv2
        simp only [Act.put]
        refine wpAnyT_take inv (by kernel_rfl) (by omega) (i := 7) (v := .slice (some ⟨b3, o3, none⟩) r.high.length cap3) rfl (by kernel_rfl) (by kernel_rfl) (fun _ _ _ h => h) (Or.inl ⟨by kernel_rfl, ?_⟩) (by assumption) ?_
        · rintro W' ⟨s0, s1, s2, s3, s4, s5⟩
          go_simp
        intro inv2
        clear inv
        have inv := inv2
        clear inv2
        simp only [Act.put]
        refine wpAnyT_take inv (by kernel_rfl) (by omega) (i := 8) (v := .int .i64 (k : Int)) rfl (by kernel_rfl) (by kernel_rfl) (fun _ _ _ h => h) (Or.inl ⟨by kernel_rfl, ?_⟩) (by assumption) ?_
        · rintro W' ⟨s0, s1, s2, s3, s4, s5⟩
          go_simp
        intro inv2
        clear inv
        have inv := inv2
        clear inv2
        simp only [Act.put]
        refine wpAnyT_take inv (by kernel_rfl) (by omega) (i := 9) (v := .pointer (some ⟨b3, o3 + k * 2, none⟩)) rfl (by kernel_rfl) (by kernel_rfl) (fun _ _ _ h => h) (Or.inl ⟨by kernel_rfl, ?_⟩) (by assumption) ?_
        · rintro W' ⟨s0, s1, s2, s3, s4, s5⟩
          go_simp
        intro inv2
        clear inv
        have inv := inv2
        clear inv2
        simp only [Act.put]
        refine wpAnyT_take inv (by kernel_rfl) (by omega) (i := 10) (v := .pointer (some ⟨b3, o3 + k * 2 + 1, none⟩)) rfl (by kernel_rfl) (by kernel_rfl) (fun _ _ _ h => h) (Or.inl ⟨by kernel_rfl, ?_⟩) (by assumption) ?_
        · rintro W' ⟨s0, s1, s2, s3, s4, s5⟩
          go_simp
        intro inv2
        clear inv
        have inv := inv2
        clear inv2
        simp only [Act.put]
        refine wpAnyT_take inv (by kernel_rfl) (by omega) (i := 11) (v := .int .i64 (hb)) rfl (by kernel_rfl) (by kernel_rfl) (fun _ _ _ h => h) (Or.inl ⟨by kernel_rfl, ?_⟩) (by assumption) ?_
        · rintro W' ⟨s0, s1, s2, s3, s4, s5⟩
          go_simp
        intro inv2
        clear inv
        have inv := inv2
        clear inv2
        simp only [Act.put]
        refine wpAnyT_take inv (by kernel_rfl) (by omega) (i := 12) (v := .agg #[.int .i64 la, .int .i64 hb]) rfl (by kernel_rfl) (by kernel_rfl) (fun _ _ _ h => h) (Or.inl ⟨by kernel_rfl, ?_⟩) (by assumption) ?_
        · rintro W' ⟨s0, s1, s2, s3, s4, s5⟩
          go_simp
        intro inv2
        clear inv
        have inv := inv2
        clear inv2
        simp only [Act.put]
        refine wpAnyT_chain (fuel := 1) rfl (by kernel_rfl) ?_
        simp only [List.drop_succ_cons, List.drop_zero]
        clear hS inv c0 c1x c2x c3x c4x c5x
        have xe0 := BE.out.cell 0
        have xe1 := BE.out.cell 1
        have ze0 := BE.out.frozen 0
        have ze1 := BE.out.frozen 1
        have xel := BE.out.lt
        simp at xe0 xe1
        have UE := (BE.out.set (j := 0) (.int .i64 (la))).set (j := 1) (.int .i64 (hb))
        simp only [List.setIfInBounds_toArray, List.set_cons_zero, List.set_cons_succ] at UE
        replace RA := Lib.hid (owns_setA (owns_setA RA.out AERA.out 0 (.int .i64 (la))) AERA.out 1 (.int .i64 (hb)))
        replace RE := Lib.hid (owns_setA (owns_setA RE.out AERE.out 0 (.int .i64 (la))) AERE.out 1 (.int .i64 (hb)))
        replace Q := Lib.hid ((Q.out.other NQ.out (j := 0) (.int .i64 (la))).other NQ.out (j := 1) (.int .i64 (hb)))
        replace Y := Lib.hid ((Y.out.other NY.out (j := 0) (.int .i64 (la))).other NY.out (j := 1) (.int .i64 (hb)))
        replace X := Lib.hid ((X.out.other NX.out (j := 0) (.int .i64 (la))).other NX.out (j := 1) (.int .i64 (hb)))
        replace BL := Lib.hid ((BL.out.setCell (p := ⟨V0.heap.size, 0, none⟩) SE.out (.int .i64 (la))).setCell (p := ⟨V0.heap.size, 1, none⟩) SE.out (.int .i64 (hb)))
        replace BE := Lib.hid UE
        clear UE
        have c7x := X.out.cell 1
        have c8x := BE.out.cell 0
        have c9x := BE.out.cell 1
        simp at c7x c8x c9x
        have lx := X.out.lt
        have lex := BE.out.lt
        have hszz : ((U0.setCell ⟨V0.heap.size, 0, none⟩ (.int .i64 (la))).setCell ⟨V0.heap.size, 1, none⟩ (.int .i64 (hb))).heap.size = U0.heap.size := by simp
        have BN0 := Blk.new ((U0.setCell ⟨V0.heap.size, 0, none⟩ (.int .i64 (la))).setCell ⟨V0.heap.size, 1, none⟩ (.int .i64 (hb))) (.cells #[.int .i64 (la), .int .i64 (hb)] 69)
        rw [hszz] at BN0
        have BN := Lib.hid BN0
        have hbn := below1 ((U0.setCell ⟨V0.heap.size, 0, none⟩ (.int .i64 (la))).setCell ⟨V0.heap.size, 1, none⟩ (.int .i64 (hb))) (.cells #[.int .i64 (la), .int .i64 (hb)] 69)
        have HNN := Lib.hid (cells_pair (by rw [BN.out.cell]; rfl) (by rw [BN.out.cell]; rfl) : ∀ jj uu, ([.int .i64 (la), .int .i64 (hb)] : List Value)[jj]? = some uu → (((U0.setCell ⟨V0.heap.size, 0, none⟩ (.int .i64 (la))).setCell ⟨V0.heap.size, 1, none⟩ (.int .i64 (hb))).alloc (.cells #[.int .i64 (la), .int .i64 (hb)] 69)).cell? (Addr.add ⟨U0.heap.size, 0, none⟩ jj) = some uu)
        have RE' := Lib.hid (owns_below RE.out hbn)
        have RA' := Lib.hid (owns_below RA.out hbn)
        have Q' := Lib.hid (Q.out.below hbn)
        have Y' := Lib.hid (Y.out.below hbn)
        have X' := Lib.hid (X.out.below hbn)
        have BL' := Lib.hid (bC BL.out hbn)
        have HSZ := Lib.hid BL'.out.size
        clear hbn BN0 BN RE RA Q Y X BL hszz
        go_wp2_with (at_builtin; refine wpList_append_own _ rfl (.tmp 48) (.tmp 50) 23 rfl w.heap.size 69 ir (.agg #[.int .i64 0, .int .i64 0]) 2 16 undR IR.out K0.out K1.out K2.out rfl (by decide) _ _ _ rfl RE'.out ⟨U0.heap.size, 0, none⟩ 1 1 [.int .i64 (la), .int .i64 (hb)] rfl rfl HNN.out (by intro u hu; simp only [List.mem_cons, List.not_mem_nil, or_false] at hu; rcases hu with rfl | rfl <;> rfl) (by unfold maxLen; omega) (by omega) HSZ.out ?_)
        intro v7 V7 own gr _
        have Q := Lib.hid (Q'.out.grown RE'.out (by decide) gr)
        have Y := Lib.hid (Y'.out.grown RE'.out (by decide) gr)
        have X := Lib.hid (X'.out.grown RE'.out (by decide) gr)
        have RA := Lib.hid (owns_grown RE'.out RA'.out (by decide) gr)
        have BL := Lib.hid (below_owns RE'.out gr BL'.out HSZ.out)
        have RE := Lib.hid own
        clear own gr RE' RA' Q' Y' X' BL' HSZ HNN c7x c8x c9x lx lex BE
        obtain ⟨a7, n7, c7, rfl⟩ := (Row.of_owns RE.out).slice
        have x1 := X.out.cell 1
        have z1 := X.out.frozen 1
        have xl := X.out.lt
        simp at x1
        have U := (X.out.set (j := 1) (.slice a7 n7 c7))
        simp only [List.setIfInBounds_toArray, List.set_cons_zero, List.set_cons_succ] at U
        replace RE := Lib.hid (owns_set RE.out X.out (by decide) 1 (.slice a7 n7 c7))
        replace RA := Lib.hid (owns_set RA.out X.out (by decide) 1 (.slice a7 n7 c7))
        replace Q := Lib.hid (Q.out.other (b := VB.heap.size) (by omega) (j := 1) (.slice a7 n7 c7))
        replace Y := Lib.hid (Y.out.other (b := VB.heap.size) (by omega) (j := 1) (.slice a7 n7 c7))
        replace BL := Lib.hid (BL.out.setCell (p := ⟨VB.heap.size, 1, none⟩) BO0 (.slice a7 n7 c7))
        replace X := Lib.hid U
        clear U
        go_wp2
        go_roundw
        case rel =>
          refine ⟨k + 1, .slice a7 n7 c7, by go_num, by omega, RA.out, ?_, Q.out, Y.out, X.out, BL.out⟩
          rw [upto_snoc, pairCells_snoc, HT.out]
          exact RE.out
        case measure => first | (simp [intOf]; done) | (simp [intOf]; omega)
    · obtain rfl : k = r.at_.length := by omega
      have tk : decide ((r.at_.length : Int) < (r.at_.length : Int)) = false := by simp
      have hsx := BO0
      have u0 := X.out.cell 0
      have u1 := X.out.cell 1
      have u2 := Y.out.cell 0
      have u3 := Y.out.cell 1
      have f0 := Y.out.frozen 0
      have f1 := Y.out.frozen 1
      have lt4 := Y.out.lt
      have lt5 := X.out.lt
      simp at u0 u1 u2 u3
      have hne : w.heap.size + 1 ≠ VB.heap.size := by omega
      have hne1 : (w.heap.size + 1 = VB.heap.size) = False := by simp; omega
      have hne2 : (VB.heap.size = w.heap.size + 1) = False := by simp; omega
      have U := (Y.out.set (j := 0) (.slice a4 n4 c4)).set (j := 1) (.slice a5 n5 c5)
      have v0 := U.cell 0
      have v1 := U.cell 1
      simp at v0 v1
      have HRE := Lib.hid (owns_set (owns_set RE.out Y.out (by decide) 0 (.slice a4 n4 c4)) (Y.out.set (j := 0) (.slice a4 n4 c4)) (by decide) 1 (.slice a5 n5 c5))
      have HRA2 := Lib.hid (owns_set (owns_set RA.out Y.out (by decide) 0 (.slice a4 n4 c4)) (Y.out.set (j := 0) (.slice a4 n4 c4)) (by decide) 1 (.slice a5 n5 c5))
      have HBB := Lib.hid ((BL.out.setCell (p := ⟨w.heap.size + 1, 0, none⟩) (by simp) (.slice a4 n4 c4)).setCell (p := ⟨w.heap.size + 1, 1, none⟩) (by simp) (.slice a5 n5 c5))
      clear U
      go_wp2
      refine bodyPost_ret (v := .agg #[.slice a4 n4 c4, .slice a5 n5 c5]) (by simp [results, Tryd.results86, go_sem, v0, v1]) rfl ?_
      refine ⟨_, rfl, ⟨_, _, rfl, ?_, ?_⟩, HBB.out⟩
      · have := Row.ints (l := r.at_) (Row.of_owns HRA2.out)
        exact this
      · have := Row.pairs (l := upto (truthF r most) r.at_.length) (by rw [upto_len]; exact Row.of_owns HRE.out)
        exact this
end Go.Proofs.YtlhldkiggmlegaaDoor
