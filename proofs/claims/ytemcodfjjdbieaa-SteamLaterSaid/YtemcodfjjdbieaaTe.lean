import Derived.Test.YtemcodfjjdbieaaTa
namespace Go.Proofs.Ytemcodfjjdbieaa
open Go.RowKit Go.Vat Go.Sort Go.Shelf
attribute [local go_sem] Oper.semAt_some

/-! ## All ranges as much later -/
def shL (d : Nat) (ls : List (Int × Int)) : List (Int × Int) := ls.map fun l => (l.1 + d, l.2 + d)
theorem shL_step {y : YardD} {d k : Nat} (h : k < y.logs.length) : shL d (y.logs.take (k + 1)) = shL d (y.logs.take k) ++ [(y.logs[k].1 + (d : Int), y.logs[k].2 + (d : Int))] := by
  unfold shL
  rw [List.take_succ_eq_append_getElem h, List.map_append]
  rfl
theorem later_get {A B : List Int} {d : Int} (h : B = A.map (· + d)) {i : Nat} {a : Int} (ha : A[i]? = some a) : B[i]? = some (a + d) := by
  rw [h, List.getElem?_map, ha]
  rfl
theorem later_len {A B : List Int} {d : Int} (h : B = A.map (· + d)) : B.length = A.length := by rw [h, List.length_map]
theorem bd_of {L : List Int} (h : ∀ i (h : i < L.length), 0 ≤ L[i]'h ∧ L[i]'h ≤ 100) : ∀ (i : Nat) (a : Int), L[i]? = some a → 0 ≤ a ∧ a ≤ 100 := by
  intro i a ha
  obtain ⟨h1, rfl⟩ := List.getElem?_eq_some_iff.1 ha
  exact h i h1
theorem bd_e (y : YardD) : ∀ (i : Nat) (a : Int), (earlyL y)[i]? = some a → 0 ≤ a ∧ a ≤ 100 := bd_of fun _ h => earlyL_bd h
theorem bd_l (y : YardD) : ∀ (i : Nat) (a : Int), (lateL y)[i]? = some a → 0 ≤ a ∧ a ≤ 100 := bd_of fun _ h => lateL_bd h
theorem shift_yard {w : World} {sv : Value} {y : YardD} {d : Nat} (h : Row w sv y.logs.length 2 (pairCells (shL d y.logs))) : YardAt w (.agg #[.int .i64 y.load, sv]) (shift y d) :=
  ⟨_, rfl, show PairsAt w sv (shL d y.logs) from Row.pairsN h (by simp [shL])⟩
theorem yard_pairs' {w : World} {a : Int} {sv : Value} {y : YardD} (h : YardAt w (.agg #[.int .i64 a, sv]) y) : PairsAt w sv y.logs := by
  obtain ⟨sv', e, hp⟩ := h
  simp at e
  obtain ⟨_, rfl⟩ := e
  exact hp
set_option maxRecDepth 100000 in
set_option maxHeartbeats 16000000 in
theorem SteamLater_any (v : Value) (m : Int) (y : YardD) (w : World) (hv : YardAt w v y) (hm : 0 ≤ m ∧ m ≤ 255) :
    Calls Try.prog 11 #[v, .int .u8 m] w fun e w' => e = .returned (.bool true) ∧ Below w.heap.size w w' := by
  obtain ⟨sv, rfl, hp⟩ := hv
  obtain ⟨sa, cap, rfl⟩ := hp.slice
  have hB0 := below1 w (.cells #[.int .i64 y.load, .slice sa y.logs.length cap] 24)
  have B0 := Lib.hid (Blk.new w (.cells #[.int .i64 y.load, .slice sa y.logs.length cap] 24))
  have HB := Lib.hid hB0
  have HV := Lib.hid (show YardAt _ (.agg #[.int .i64 y.load, .slice sa y.logs.length cap]) y from ⟨_, rfl, hp.below hB0⟩)
  clear hp hB0
  by_cases hyd : y.Ok
  case neg =>
    go_enter Try.func11, Try.ntmps11
    go_wp2_with fail
    generalize w.alloc (.cells #[.int .i64 y.load, .slice sa y.logs.length cap] 24) = W0 at *
    refine (fine_no (.agg #[.int .i64 y.load, .slice sa y.logs.length cap]) y _ HV.out hyd).mono ?_
    rintro e v1 ⟨rfl, hb⟩
    replace HV := Lib.hid (HV.out.below hb)
    replace B0 := Lib.hid (B0.out.below hb)
    replace HB := Lib.hid (bC HB.out hb)
    clear hb
    have B0c0 := B0.out.cell 0
    have B0c1 := B0.out.cell 1
    simp at B0c0 B0c1
    go_wp2_with fail
    clear B0c0 B0c1
    refine (Works_any _).mono ?_
    rintro e v2 ⟨rfl, hb⟩
    replace HV := Lib.hid (HV.out.below hb)
    replace B0 := Lib.hid (B0.out.below hb)
    replace HB := Lib.hid (bC HB.out hb)
    clear hb
    go_wp2
    go_ret
    exact ⟨rfl, HB.out⟩
  have HYD := Lib.hid hyd
  have hl10 := hyd.count
  clear hyd
  go_enter Try.func11, Try.ntmps11
  go_wp2_with fail
  generalize w.alloc (.cells #[.int .i64 y.load, .slice sa y.logs.length cap] 24) = W0 at *
  refine (fine_yes (.agg #[.int .i64 y.load, .slice sa y.logs.length cap]) y _ HV.out HYD.out).mono ?_
  rintro e v1 ⟨rfl, hb⟩
  replace HV := Lib.hid (HV.out.below hb)
  replace B0 := Lib.hid (B0.out.below hb)
  replace HB := Lib.hid (bC HB.out hb)
  clear hb
  obtain ⟨d, hd⟩ : ∃ d : Nat, m = (d : Int) := ⟨m.toNat, by omega⟩
  subst hd
  have hd2 : d ≤ 255 := by omega
  have q0 : IntKind.i64.wrap (d : Int) = (d : Int) := IntWalk.i64_in _ (by omega)
  have q0' : wrap64 (d : Int) = (d : Int) := IntWalk.wrap64_in _ (by omega)
  have hPP := yard_pairs' HV.out
  have HPG := Lib.hid (fun k (hk : k < y.logs.length) => PairsAt.get0 hPP hk)
  clear hPP
  have B0c0 := B0.out.cell 0
  have B0c1 := B0.out.cell 1
  simp at B0c0 B0c1
  go_wp2_with fail
  clear B0c0 B0c1
  have hb := below1 v1 (.cells #[.int .i64 y.load, .slice none 0 0] 24)
  have BL0 := Lib.hid (Blk.new v1 (.cells #[.int .i64 y.load, .slice none 0 0] 24))
  have hLz := B0.out.lt
  have HCZ := Lib.hid (show (v1.alloc (.cells #[.int .i64 y.load, .slice none 0 0] 24)).heap.size = v1.heap.size + 1 by simp)
  have HBL0 := Lib.hid hb
  replace B0 := Lib.hid (B0.out.below hb)
  have HVC := Lib.hid (HV.out)
  replace HV := Lib.hid (HV.out.below hb)
  replace HB := Lib.hid (bC HB.out hb)
  have HSZ := Lib.hid (show w.heap.size < v1.heap.size from hLz)
  have HPG2 := Lib.hid (fun k (hk : k < y.logs.length) => (HPG.out k hk))
  clear hb hLz
  obtain ⟨L, hL⟩ : ∃ L, v1.heap.size = L := ⟨_, rfl⟩
  obtain ⟨Wz, hWz⟩ : ∃ Wz, v1.alloc (.cells #[.int .i64 y.load, .slice none 0 0] 24) = Wz := ⟨_, rfl⟩
  rw [hL] at BL0 HCZ HSZ ⊢
  rw [hWz] at BL0 HCZ B0 HV HB ⊢
  have HWB : Hid (Below v1.heap.size v1 Wz) := Lib.hid (by rw [← hWz]; exact HBL0.out)
  have HLL := Lib.hid hL
  clear hL hWz HBL0
  go_loopw [7] (fun i wr => ∃ (k : Nat) (s : Value), k ≤ y.logs.length ∧ i = .int .i64 k ∧ Blk wr L (.cells #[.int .i64 y.load, s] 24) ∧ wr.ownsRow Wz.heap.size 27 2 s k (pairCells (shL d (y.logs.take k))) ∧ FrL Wz L wr) (fun i _ => y.logs.length - (intOf i).toNat)
  case atStart => exact ⟨0, _, Nat.zero_le _, rfl, BL0.out, by simpa [shL, pairCells] using owns_nil _ _ _ _, FrL.of_below (Below.refl _ _)⟩
  case round =>
    clear BL0
    obtain ⟨k, s, hk, rfl, hbL, hown, hF⟩ := hrel
    obtain ⟨ra, rc, rfl⟩ := owns_slice hown
    have HOWN := Lib.hid hown
    have HF := Lib.hid hF
    have HBL := Lib.hid hbL
    have hzL := hbL.lt
    have hfz := hF.size
    have hBw := HB.out.trans (hF.under (B := w.heap.size) (by have := HCZ.out; have := HSZ.out; omega) (by have := HSZ.out; omega))
    have HBW := Lib.hid hBw
    have hBc := HWB.out.trans (hF.under (B := v1.heap.size) (by have := HCZ.out; have := HLL.out; omega) (by have := HLL.out; omega))
    have HBC := Lib.hid hBc
    have hXX := B0.out.fr' hF (show w.heap.size ≠ L by have := HSZ.out; omega)
    have x1 := hXX.cell 1
    have x0 := hXX.cell 0
    simp at x1 x0
    have cL1 := hbL.cell 1
    simp at cL1
    have HXX := Lib.hid hXX
    clear hown hbL hBw hXX hBc
    by_cases hlt : k < y.logs.length
    · obtain ⟨pb, off, rfl, hpw, hc, hd⟩ := HPG.out k hlt
      replace hc := cellB hc HBC.out
      replace hd := cellB hd HBC.out
      have hlg := HYD.out.log _ (List.getElem_mem hlt)
      have HST := Lib.hid (shL_step (d := d) hlt)
      obtain ⟨l1, hl1⟩ : ∃ x, y.logs[k].1 = x := ⟨_, rfl⟩
      obtain ⟨l2, hl2⟩ : ∃ x, y.logs[k].2 = x := ⟨_, rfl⟩
      rw [hl1] at hc hlg HST
      rw [hl2] at hd hlg HST
      have q1 : IntKind.i64.wrap (l1 + (d : Int)) = l1 + (d : Int) := IntWalk.i64_in _ (by omega)
      have q2 : IntKind.i64.wrap (l2 + (d : Int)) = l2 + (d : Int) := IntWalk.i64_in _ (by omega)
      have q3 : (k : Int) < (y.logs.length : Int) := by omega
      clear hl1 hl2 hlg hF
      go_wp2_with fail
      have y0 : wr.drew.cell? ⟨L, 1, none⟩ = some (.slice ra k rc) := cL1
      have y1 : wr.drew.cell? ⟨w.heap.size, 1, none⟩ = some (.slice (some ⟨pb, off, none⟩) y.logs.length cap) := x1
      have y2 : wr.drew.cell? ⟨pb, off + k * 2, none⟩ = some (.int .i64 l1) := hc
      have y3 : wr.drew.cell? ⟨pb, off + k * 2 + 1, none⟩ = some (.int .i64 l2) := hd
      have own : wr.drew.ownsRow Wz.heap.size 27 2 (.slice ra k rc) k (pairCells (shL d (y.logs.take k))) := HOWN.out
      have BL : Blk wr.drew L (.cells #[.int .i64 y.load, .slice ra k rc] 24) := HBL.out
      have FF : FrL Wz L wr.drew := HF.out.below ((Below.refl _ _).drew)
      clear HOWN HBL HF HBW HXX cL1 x0 x1 hc hd hzL hfz
      refine (wp_region_T 20 (fun W' => W'.cell? ⟨L, 1, none⟩ = some (.slice ra k rc) ∧ W'.cell? ⟨w.heap.size, 1, none⟩ = some (.slice (some ⟨pb, off, none⟩) y.logs.length cap) ∧ W'.cell? ⟨pb, off + k * 2, none⟩ = some (.int .i64 l1) ∧ W'.cell? ⟨pb, off + k * 2 + 1, none⟩ = some (.int .i64 l2)) (by kernel_rfl) (by kernel_rfl) ⟨y0, y1, y2, y3⟩ ?_)
      intro inv hS
      clear y0 y1 y2 y3
      generalize wr.drew = V0 at *
      refine wpAnyT_take inv (by kernel_rfl) (by omega) (i := 0) (v := .pointer (some ⟨L, 1, none⟩)) rfl (by kernel_rfl) (by kernel_rfl) (fun _ _ _ h => h) (Or.inl ⟨by kernel_rfl, ?_⟩) (by assumption) ?_
      · rintro W' ⟨q0, q1, q2, q3⟩
        go_simp
      intro inv2
      clear inv
      have inv := inv2
      clear inv2
      simp only [Act.put, List.setIfInBounds_toArray]
      refine wpAnyT_take inv (by kernel_rfl) (by omega) (i := 1) (v := .slice ra k rc) rfl (by kernel_rfl) (by kernel_rfl) (fun _ _ _ h => h) (Or.inl ⟨by kernel_rfl, ?_⟩) (by assumption) ?_
      · rintro W' ⟨q0, q1, q2, q3⟩
        go_simp
      intro inv2
      clear inv
      have inv := inv2
      clear inv2
      simp only [Act.put]
      refine wpAnyT_take inv (by kernel_rfl) (by omega) (i := 2) (v := .pointer (some ⟨w.heap.size, 1, none⟩)) rfl (by kernel_rfl) (by kernel_rfl) (fun _ _ _ h => h) (Or.inl ⟨by kernel_rfl, ?_⟩) (by assumption) ?_
      · rintro W' ⟨q0, q1, q2, q3⟩
        go_simp
      intro inv2
      clear inv
      have inv := inv2
      clear inv2
      simp only [Act.put]
      refine wpAnyT_take inv (by kernel_rfl) (by omega) (i := 3) (v := .slice (some ⟨pb, off, none⟩) y.logs.length cap) rfl (by kernel_rfl) (by kernel_rfl) (fun _ _ _ h => h) (Or.inl ⟨by kernel_rfl, ?_⟩) (by assumption) ?_
      · rintro W' ⟨q0, q1, q2, q3⟩
        go_simp
      intro inv2
      clear inv
      have inv := inv2
      clear inv2
      simp only [Act.put]
      refine wpAnyT_take inv (by kernel_rfl) (by omega) (i := 4) (v := .int .i64 (k : Int)) rfl (by kernel_rfl) (by kernel_rfl) (fun _ _ _ h => h) (Or.inl ⟨by kernel_rfl, ?_⟩) (by assumption) ?_
      · rintro W' ⟨q0, q1, q2, q3⟩
        go_simp
      intro inv2
      clear inv
      have inv := inv2
      clear inv2
      simp only [Act.put]
      refine wpAnyT_take inv (by kernel_rfl) (by omega) (i := 5) (v := .pointer (some ⟨pb, off + k * 2, none⟩)) rfl (by kernel_rfl) (by kernel_rfl) (fun _ _ _ h => h) (Or.inl ⟨by kernel_rfl, ?_⟩) (by assumption) ?_
      · rintro W' ⟨q0, q1, q2, q3⟩
        go_simp
      intro inv2
      clear inv
      have inv := inv2
      clear inv2
      simp only [Act.put]
      refine wpAnyT_take inv (by kernel_rfl) (by omega) (i := 6) (v := .pointer (some ⟨pb, off + k * 2, none⟩)) rfl (by kernel_rfl) (by kernel_rfl) (fun _ _ _ h => h) (Or.inl ⟨by kernel_rfl, ?_⟩) (by assumption) ?_
      · rintro W' ⟨q0, q1, q2, q3⟩
        go_simp
      intro inv2
      clear inv
      have inv := inv2
      clear inv2
      simp only [Act.put]
      refine wpAnyT_take inv (by kernel_rfl) (by omega) (i := 7) (v := .int .i64 l1) rfl (by kernel_rfl) (by kernel_rfl) (fun _ _ _ h => h) (Or.inl ⟨by kernel_rfl, ?_⟩) (by assumption) ?_
      · rintro W' ⟨q0, q1, q2, q3⟩
        go_simp
      intro inv2
      clear inv
      have inv := inv2
      clear inv2
      simp only [Act.put]
      refine wpAnyT_take inv (by kernel_rfl) (by omega) (i := 8) (v := .int .i64 (d : Int)) rfl (by kernel_rfl) (by kernel_rfl) (fun _ _ _ h => h) (Or.inl ⟨by kernel_rfl, ?_⟩) (by assumption) ?_
      · rintro W' ⟨q0, q1, q2, q3⟩
        go_simp
      intro inv2
      clear inv
      have inv := inv2
      clear inv2
      simp only [Act.put]
      refine wpAnyT_take inv (by kernel_rfl) (by omega) (i := 9) (v := .int .i64 (l1 + d)) rfl (by kernel_rfl) (by kernel_rfl) (fun _ _ _ h => h) (Or.inl ⟨by kernel_rfl, ?_⟩) (by assumption) ?_
      · rintro W' ⟨q0, q1, q2, q3⟩
        go_simp
      intro inv2
      clear inv
      have inv := inv2
      clear inv2
      simp only [Act.put]
      refine wpAnyT_take inv (by kernel_rfl) (by omega) (i := 10) (v := .pointer (some ⟨w.heap.size, 1, none⟩)) rfl (by kernel_rfl) (by kernel_rfl) (fun _ _ _ h => h) (Or.inl ⟨by kernel_rfl, ?_⟩) (by assumption) ?_
      · rintro W' ⟨q0, q1, q2, q3⟩
        go_simp
      intro inv2
      clear inv
      have inv := inv2
      clear inv2
      simp only [Act.put]
      refine wpAnyT_take inv (by kernel_rfl) (by omega) (i := 11) (v := .slice (some ⟨pb, off, none⟩) y.logs.length cap) rfl (by kernel_rfl) (by kernel_rfl) (fun _ _ _ h => h) (Or.inl ⟨by kernel_rfl, ?_⟩) (by assumption) ?_
      · rintro W' ⟨q0, q1, q2, q3⟩
        go_simp
      intro inv2
      clear inv
      have inv := inv2
      clear inv2
      simp only [Act.put]
      refine wpAnyT_take inv (by kernel_rfl) (by omega) (i := 12) (v := .int .i64 (k : Int)) rfl (by kernel_rfl) (by kernel_rfl) (fun _ _ _ h => h) (Or.inl ⟨by kernel_rfl, ?_⟩) (by assumption) ?_
      · rintro W' ⟨q0, q1, q2, q3⟩
        go_simp
      intro inv2
      clear inv
      have inv := inv2
      clear inv2
      simp only [Act.put]
      refine wpAnyT_take inv (by kernel_rfl) (by omega) (i := 13) (v := .pointer (some ⟨pb, off + k * 2, none⟩)) rfl (by kernel_rfl) (by kernel_rfl) (fun _ _ _ h => h) (Or.inl ⟨by kernel_rfl, ?_⟩) (by assumption) ?_
      · rintro W' ⟨q0, q1, q2, q3⟩
        go_simp
      intro inv2
      clear inv
      have inv := inv2
      clear inv2
      simp only [Act.put]
      refine wpAnyT_take inv (by kernel_rfl) (by omega) (i := 14) (v := .pointer (some ⟨pb, off + k * 2 + 1, none⟩)) rfl (by kernel_rfl) (by kernel_rfl) (fun _ _ _ h => h) (Or.inl ⟨by kernel_rfl, ?_⟩) (by assumption) ?_
      · rintro W' ⟨q0, q1, q2, q3⟩
        go_simp
      intro inv2
      clear inv
      have inv := inv2
      clear inv2
      simp only [Act.put]
      refine wpAnyT_take inv (by kernel_rfl) (by omega) (i := 15) (v := .int .i64 l2) rfl (by kernel_rfl) (by kernel_rfl) (fun _ _ _ h => h) (Or.inl ⟨by kernel_rfl, ?_⟩) (by assumption) ?_
      · rintro W' ⟨q0, q1, q2, q3⟩
        go_simp
      intro inv2
      clear inv
      have inv := inv2
      clear inv2
      simp only [Act.put]
      refine wpAnyT_take inv (by kernel_rfl) (by omega) (i := 16) (v := .int .i64 (d : Int)) rfl (by kernel_rfl) (by kernel_rfl) (fun _ _ _ h => h) (Or.inl ⟨by kernel_rfl, ?_⟩) (by assumption) ?_
      · rintro W' ⟨q0, q1, q2, q3⟩
        go_simp
      intro inv2
      clear inv
      have inv := inv2
      clear inv2
      simp only [Act.put]
      refine wpAnyT_take inv (by kernel_rfl) (by omega) (i := 17) (v := .int .i64 (l2 + d)) rfl (by kernel_rfl) (by kernel_rfl) (fun _ _ _ h => h) (Or.inl ⟨by kernel_rfl, ?_⟩) (by assumption) ?_
      · rintro W' ⟨q0, q1, q2, q3⟩
        go_simp
      intro inv2
      clear inv
      have inv := inv2
      clear inv2
      simp only [Act.put]
      refine wpAnyT_ready [18] (by kernel_rfl) (by simp) ?_
      refine AllReadyT.cons rfl (fun K hK => ?_) AllReadyT.nil
      go_simp
      refine (to_any (l1 + d) (l2 + d) _).mono ?_
      rintro e z1 ⟨rfl, hb⟩
      refine hK.out _ _ (fun _ => ⟨cellB hS.1 hb, cellB hS.2.1 hb, cellB hS.2.2.1 hb, cellB hS.2.2.2 hb⟩) (fun _ => ?_)
      replace inv := HeadM.step inv 18 (by kernel_rfl) (by omega)
      clear hK K
      try simp only [Act.put]
      replace hS := And.intro (cellB hS.1 hb) (And.intro (cellB hS.2.1 hb) (And.intro (cellB hS.2.2.1 hb) (cellB hS.2.2.2 hb)))
      replace own := owns_below own hb
      replace BL := BL.below hb
      replace FF := FF.below hb
      clear hb
      refine wpAnyT_ready [19] (by kernel_rfl) (by simp) ?_
      refine AllReadyT.cons rfl (fun K hK => ?_) AllReadyT.nil
      go_simp
      have hA := below1 z1 (.cells #[.int .i64 (l1 + d), .int .i64 (l2 + d)] 27)
      refine hK.out _ _ (fun _ => ⟨cellB hS.1 hA, cellB hS.2.1 hA, cellB hS.2.2.1 hA, cellB hS.2.2.2 hA⟩) (fun _ => ?_)
      clear hK K hS inv
      try simp only [Act.put]
      have bN := Blk.new z1 (.cells #[.int .i64 (l1 + d), .int .i64 (l2 + d)] 27)
      replace own := owns_below own hA
      replace BL := BL.below hA
      replace FF := FF.below hA
      obtain ⟨bx, hbx⟩ : ∃ bx, z1.heap.size = bx := ⟨_, rfl⟩
      rw [hbx] at bN ⊢
      clear hA hbx
      generalize z1.alloc (.cells #[.int .i64 (l1 + d), .int .i64 (l2 + d)] 27) = V9 at *
      refine wpAnyT_chain (fuel := 3) rfl (by kernel_rfl) ?_
      simp only [List.drop_succ_cons, List.drop_zero]
      go_wp2_with (at_builtin; refine wp_appR rfl (.tmp 40) (.tmp 58) rfl _ _ _ _ rfl own _ _ _ _ rfl bN (by omega) (Below.refl _ _) (by have := FF.size; omega) ?_; intro a2 c2 w3 own3 bel3 gr3; have BL3 := Blk.grown BL own (by decide) gr3; have FF3 := FF.grown own gr3 (Nat.le_refl _); have o1 := BL3.cell 1; have of := BL3.frozen 1; have ol := BL3.lt; simp at o1)
      go_roundw
      case rel => exact ⟨k + 1, _, by omega, by go_num, BL3.set (j := 1) (.slice a2 (k + 1) c2), by rw [HST.out, pairCells_snoc]; exact owns_set own3 BL3 (by decide) 1 _, FF3.set 1 _⟩
      case measure => simp [intOf] <;> omega
    · obtain rfl : k = y.logs.length := by omega
      rw [List.take_length] at HOWN
      have cL0 := HBL.out.cell 0
      simp at cL0
      have HX := Lib.hid (shift_yard (Row.of_owns HOWN.out))
      have BX := Lib.hid HBL.out
      replace B0 := Lib.hid HXX.out
      replace HV := Lib.hid (HVC.out.below HBC.out)
      replace HB := Lib.hid HBW.out
      have HUT := Lib.hid (fun hz => U_later (y := y) (d := d) HYD.out hz)
      have HES := Lib.hid (fun hz => earlyL_shift (y := y) (d := d) HYD.out hz)
      have HLS := Lib.hid (fun hz => lateL_shift (y := y) (d := d) HYD.out hz)
      obtain ⟨Z, hZ⟩ : ∃ Z, shift y d = Z := ⟨_, rfl⟩
      rw [hZ] at HX HUT HES HLS
      clear hZ HVC HBC HBW HXX HBL HOWN HF hF x0 x1 cL1 cL0 hzL hfz HPG HPG2 HWB HCZ HSZ HLL
      generalize wr = v50 at *
      by_cases hz : Z.Ok
      case neg =>
        have B0c0 := B0.out.cell 0
        have B0c1 := B0.out.cell 1
        have BXc0 := BX.out.cell 0
        have BXc1 := BX.out.cell 1
        simp at B0c0 B0c1 BXc0 BXc1
        go_wp2_with fail
        clear B0c0 B0c1 BXc0 BXc1
        refine (fine_no (.agg #[.int .i64 y.load, .slice ra y.logs.length rc]) Z _ HX.out hz).mono ?_
        rintro e v51 ⟨rfl, hb⟩
        replace HV := Lib.hid (HV.out.below hb)
        replace HX := Lib.hid (HX.out.below hb)
        replace B0 := Lib.hid (B0.out.below hb)
        replace BX := Lib.hid (BX.out.below hb)
        replace HB := Lib.hid (bC HB.out hb)
        clear hb
        have B0c0 := B0.out.cell 0
        have B0c1 := B0.out.cell 1
        have BXc0 := BX.out.cell 0
        have BXc1 := BX.out.cell 1
        simp at B0c0 B0c1 BXc0 BXc1
        go_wp2_with fail
        clear B0c0 B0c1 BXc0 BXc1
        refine (Works_any _).mono ?_
        rintro e v52 ⟨rfl, hb⟩
        replace HV := Lib.hid (HV.out.below hb)
        replace HX := Lib.hid (HX.out.below hb)
        replace B0 := Lib.hid (B0.out.below hb)
        replace BX := Lib.hid (BX.out.below hb)
        replace HB := Lib.hid (bC HB.out hb)
        clear hb
        go_wp2
        go_ret
        exact ⟨rfl, HB.out⟩
      have HZO := Lib.hid hz
      replace HUT := Lib.hid (HUT.out hz)
      replace HES := Lib.hid (HES.out hz)
      replace HLS := Lib.hid (HLS.out hz)
      have HEB := Lib.hid (bd_e y)
      have HLB := Lib.hid (bd_l y)
      have HU10 := Lib.hid (U_len HYD.out 101)
      have HEL := Lib.hid (earlyL_length HYD.out)
      have HLL := Lib.hid (lateL_length y)
      clear hz
      obtain ⟨EL, hEL⟩ : ∃ EL, earlyL y = EL := ⟨_, rfl⟩
      obtain ⟨EZ, hEZ⟩ : ∃ EZ, earlyL Z = EZ := ⟨_, rfl⟩
      obtain ⟨LT, hLT⟩ : ∃ LT, lateL y = LT := ⟨_, rfl⟩
      obtain ⟨LZ, hLZ⟩ : ∃ LZ, lateL Z = LZ := ⟨_, rfl⟩
      rw [hEL, hEZ] at HES
      rw [hLT, hLZ] at HLS
      rw [hEL] at HEB HEL
      rw [hLT] at HLB HLL
      have H1E := Lib.hid hEL
      have H2E := Lib.hid hEZ
      have H1L := Lib.hid hLT
      have H2L := Lib.hid hLZ
      clear hEL hEZ hLT hLZ
      have B0c0 := B0.out.cell 0
      have B0c1 := B0.out.cell 1
      have BXc0 := BX.out.cell 0
      have BXc1 := BX.out.cell 1
      simp at B0c0 B0c1 BXc0 BXc1
      go_wp2_with fail
      clear B0c0 B0c1 BXc0 BXc1
      refine (fine_yes (.agg #[.int .i64 y.load, .slice ra y.logs.length rc]) Z _ HX.out HZO.out).mono ?_
      rintro e v51 ⟨rfl, hb⟩
      replace HV := Lib.hid (HV.out.below hb)
      replace HX := Lib.hid (HX.out.below hb)
      replace B0 := Lib.hid (B0.out.below hb)
      replace BX := Lib.hid (BX.out.below hb)
      replace HB := Lib.hid (bC HB.out hb)
      clear hb
      have B0c0 := B0.out.cell 0
      have B0c1 := B0.out.cell 1
      have BXc0 := BX.out.cell 0
      have BXc1 := BX.out.cell 1
      simp at B0c0 B0c1 BXc0 BXc1
      go_wp2_with fail
      clear B0c0 B0c1 BXc0 BXc1
      refine (fewest_law (.agg #[.int .i64 y.load, .slice sa y.logs.length cap]) y _ HV.out HYD.out).mono ?_
      rintro e v52 ⟨vh1, xs1, rfl, hi0, hf0, hn0, hb⟩
      replace HV := Lib.hid (HV.out.below hb)
      replace HX := Lib.hid (HX.out.below hb)
      replace B0 := Lib.hid (B0.out.below hb)
      replace BX := Lib.hid (BX.out.below hb)
      replace HB := Lib.hid (bC HB.out hb)
      clear hb
      clear hi0 hf0 hn0
      obtain ⟨F, hF⟩ : ∃ F, U y 101 = F := ⟨_, rfl⟩
      rw [hF] at HUT HU10 HEL HLL ⊢
      clear hF
      have B0c0 := B0.out.cell 0
      have B0c1 := B0.out.cell 1
      have BXc0 := BX.out.cell 0
      have BXc1 := BX.out.cell 1
      simp at B0c0 B0c1 BXc0 BXc1
      go_wp2_with fail
      clear B0c0 B0c1 BXc0 BXc1
      refine (fewest_law (.agg #[.int .i64 y.load, .slice ra y.logs.length rc]) Z _ HX.out HZO.out).mono ?_
      rintro e v53 ⟨vh2, xs2, rfl, hi0, hf0, hn0, hb⟩
      replace HV := Lib.hid (HV.out.below hb)
      replace HX := Lib.hid (HX.out.below hb)
      replace B0 := Lib.hid (B0.out.below hb)
      replace BX := Lib.hid (BX.out.below hb)
      replace HB := Lib.hid (bC HB.out hb)
      clear hb
      clear hi0 hf0 hn0
      rw [HUT.out]
      have B0c0 := B0.out.cell 0
      have B0c1 := B0.out.cell 1
      have BXc0 := BX.out.cell 0
      have BXc1 := BX.out.cell 1
      simp at B0c0 B0c1 BXc0 BXc1
      go_wp2_with fail
      clear B0c0 B0c1 BXc0 BXc1
      refine (Early_ok (.agg #[.int .i64 y.load, .slice sa y.logs.length cap]) y _ HV.out HYD.out).mono ?_
      rintro e v54 ⟨vv, rfl, hi, hb⟩
      replace HV := Lib.hid (HV.out.below hb)
      replace HX := Lib.hid (HX.out.below hb)
      replace B0 := Lib.hid (B0.out.below hb)
      replace BX := Lib.hid (BX.out.below hb)
      replace HB := Lib.hid (bC HB.out hb)
      clear hb
      rw [H1E.out] at hi
      obtain ⟨pa, pac, rfl⟩ := hi.slice
      have HI0 := Lib.hid hi
      clear hi
      have B0c0 := B0.out.cell 0
      have B0c1 := B0.out.cell 1
      have BXc0 := BX.out.cell 0
      have BXc1 := BX.out.cell 1
      simp at B0c0 B0c1 BXc0 BXc1
      go_wp2_with fail
      clear B0c0 B0c1 BXc0 BXc1
      refine (Early_ok (.agg #[.int .i64 y.load, .slice ra y.logs.length rc]) Z _ HX.out HZO.out).mono ?_
      rintro e v55 ⟨vv, rfl, hi, hb⟩
      replace HV := Lib.hid (HV.out.below hb)
      replace HX := Lib.hid (HX.out.below hb)
      replace HI0 := Lib.hid (HI0.out.below hb)
      replace B0 := Lib.hid (B0.out.below hb)
      replace BX := Lib.hid (BX.out.below hb)
      replace HB := Lib.hid (bC HB.out hb)
      clear hb
      rw [H2E.out] at hi
      obtain ⟨pb, pbc, rfl⟩ := hi.slice
      have HI1 := Lib.hid hi
      clear hi
      have B0c0 := B0.out.cell 0
      have B0c1 := B0.out.cell 1
      have BXc0 := BX.out.cell 0
      have BXc1 := BX.out.cell 1
      simp at B0c0 B0c1 BXc0 BXc1
      go_wp2_with fail
      clear B0c0 B0c1 BXc0 BXc1
      refine (Late_ok (.agg #[.int .i64 y.load, .slice sa y.logs.length cap]) y _ HV.out HYD.out).mono ?_
      rintro e v56 ⟨vv, rfl, hi, hb⟩
      replace HV := Lib.hid (HV.out.below hb)
      replace HX := Lib.hid (HX.out.below hb)
      replace HI0 := Lib.hid (HI0.out.below hb)
      replace HI1 := Lib.hid (HI1.out.below hb)
      replace B0 := Lib.hid (B0.out.below hb)
      replace BX := Lib.hid (BX.out.below hb)
      replace HB := Lib.hid (bC HB.out hb)
      clear hb
      rw [H1L.out] at hi
      obtain ⟨pc, pcc, rfl⟩ := hi.slice
      have HI2 := Lib.hid hi
      clear hi
      have B0c0 := B0.out.cell 0
      have B0c1 := B0.out.cell 1
      have BXc0 := BX.out.cell 0
      have BXc1 := BX.out.cell 1
      simp at B0c0 B0c1 BXc0 BXc1
      go_wp2_with fail
      clear B0c0 B0c1 BXc0 BXc1
      refine (Late_ok (.agg #[.int .i64 y.load, .slice ra y.logs.length rc]) Z _ HX.out HZO.out).mono ?_
      rintro e v57 ⟨vv, rfl, hi, hb⟩
      replace HV := Lib.hid (HV.out.below hb)
      replace HX := Lib.hid (HX.out.below hb)
      replace HI0 := Lib.hid (HI0.out.below hb)
      replace HI1 := Lib.hid (HI1.out.below hb)
      replace HI2 := Lib.hid (HI2.out.below hb)
      replace B0 := Lib.hid (B0.out.below hb)
      replace BX := Lib.hid (BX.out.below hb)
      replace HB := Lib.hid (bC HB.out hb)
      clear hb
      rw [H2L.out] at hi
      obtain ⟨pd, pdc, rfl⟩ := hi.slice
      have HI3 := Lib.hid hi
      clear hi
      have HN1 := Lib.hid (later_len HES.out)
      have HN2 := Lib.hid (later_len HLS.out)
      have HN3 := Lib.hid (show EL.length = LT.length by have := HEL.out; have := HLL.out; omega)
      have hel10 : EL.length ≤ 10 := by have := HEL.out; have := HU10.out; omega
      have e0a : ((EL.length : Int) != (EZ.length : Int)) = false := by rw [show EL.length = EZ.length from HN1.out.symm]; simp
      have e0b : (EL.length != EZ.length) = false := by rw [show EL.length = EZ.length from HN1.out.symm]; simp
      have e0c : decide (EL.length = EZ.length) = true := decide_eq_true (HN1.out.symm)
      have e0d : decide ((EL.length : Int) = (EZ.length : Int)) = true := decide_eq_true (by rw [show EL.length = EZ.length from HN1.out.symm])
      have e1a : ((LT.length : Int) != (LZ.length : Int)) = false := by rw [show LT.length = LZ.length from HN2.out.symm]; simp
      have e1b : (LT.length != LZ.length) = false := by rw [show LT.length = LZ.length from HN2.out.symm]; simp
      have e1c : decide (LT.length = LZ.length) = true := decide_eq_true (HN2.out.symm)
      have e1d : decide ((LT.length : Int) = (LZ.length : Int)) = true := decide_eq_true (by rw [show LT.length = LZ.length from HN2.out.symm])
      have e2a : ((EL.length : Int) != (LT.length : Int)) = false := by rw [show EL.length = LT.length from HN3.out]; simp
      have e2b : (EL.length != LT.length) = false := by rw [show EL.length = LT.length from HN3.out]; simp
      have e2c : decide (EL.length = LT.length) = true := decide_eq_true (HN3.out)
      have e2d : decide ((EL.length : Int) = (LT.length : Int)) = true := decide_eq_true (by rw [show EL.length = LT.length from HN3.out])
      have B0c0 := B0.out.cell 0
      have B0c1 := B0.out.cell 1
      have BXc0 := BX.out.cell 0
      have BXc1 := BX.out.cell 1
      simp at B0c0 B0c1 BXc0 BXc1
      go_wp2_with fail
      clear B0c0 B0c1 BXc0 BXc1
      clear e0a e0b e0c e0d e1a e1b e1c e1d e2a e2b e2c e2d
      go_loopw [22] (fun s wr => ∃ i : Nat, i ≤ EL.length ∧ s = .int .i64 i ∧ Below v57.heap.size v57 wr) (fun s _ => EL.length - (intOf s).toNat)
      case atStart => exact ⟨0, Nat.zero_le _, rfl, Below.refl _ _⟩
      case round =>
        obtain ⟨i, hi, rfl, hbw⟩ := hrel
        have HBW := Lib.hid hbw
        clear hbw
        by_cases hit : i < EL.length
        · have k1 : i < EZ.length := by have := HN1.out; omega
          have k2 : i < LT.length := by have := HN3.out; omega
          have k3 : i < LZ.length := by have := HN2.out; have := HN3.out; omega
          obtain ⟨b1, o1, c1, e, x1⟩ := (HI0.out.below HBW.out).get i hit
          cases e
          obtain ⟨b2, o2, c2, e, x2⟩ := (HI1.out.below HBW.out).get i k1
          cases e
          obtain ⟨b3, o3, c3, e, x3⟩ := (HI2.out.below HBW.out).get i k2
          cases e
          obtain ⟨b4, o4, c4, e, x4⟩ := (HI3.out.below HBW.out).get i k3
          cases e
          have p1 := List.getElem?_eq_getElem (l := EL) (i := i) hit
          have p3 := List.getElem?_eq_getElem (l := LT) (i := i) k2
          have q2 := later_get HES.out p1
          have q4 := later_get HLS.out p3
          have r1 := HEB.out _ _ p1
          have r3 := HLB.out _ _ p3
          rw [List.getElem?_eq_getElem (l := EZ) (i := i) k1] at q2
          rw [List.getElem?_eq_getElem (l := LZ) (i := i) k3] at q4
          replace q2 := Option.some.inj q2
          replace q4 := Option.some.inj q4
          clear p1 p3
          obtain ⟨z1, hz1⟩ : ∃ a, EL[i] = a := ⟨_, rfl⟩
          obtain ⟨z2, hz2⟩ : ∃ a, EZ[i] = a := ⟨_, rfl⟩
          obtain ⟨z3, hz3⟩ : ∃ a, LT[i] = a := ⟨_, rfl⟩
          obtain ⟨z4, hz4⟩ : ∃ a, LZ[i] = a := ⟨_, rfl⟩
          rw [hz1] at x1 q2 r1
          rw [hz2] at x2 q2
          rw [hz3] at x3 q4 r3
          rw [hz4] at x4 q4
          have w1 : IntKind.i64.wrap (z2 - (d : Int)) = z1 := by rw [show z2 - (d : Int) = z1 by omega]; exact IntWalk.i64_in _ (by omega)
          have w2 : IntKind.i64.wrap (z4 - (d : Int)) = z3 := by rw [show z4 - (d : Int) = z3 by omega]; exact IntWalk.i64_in _ (by omega)
          have j0 : (i : Int) < (EL.length : Int) := by omega
          have j1 : (i : Int) < (EZ.length : Int) := by omega
          have j2 : (i : Int) < (LT.length : Int) := by omega
          have j3 : (i : Int) < (LZ.length : Int) := by omega
          have g1 := fun d os => cell_regrown x1 d os
          have g2 := fun d os => cell_regrown x2 d os
          have g3 := fun d os => cell_regrown x3 d os
          have g4 := fun d os => cell_regrown x4 d os
          clear x1 x2 x3 x4 q2 q4 r1 r3 hz1 hz2 hz3 hz4
          go_wp2_with fail
          refine wp_region_quiet_below (by kernel_rfl) (by kernel_rfl) ?_
          repeat (with_reducible refine wpQuiet_step (fun K hK => ?_); go_simp; with_reducible refine hK _ ?_; clear hK K)
          refine wpQuiet_nil ?_
          intro _ hw'
          obtain ⟨⟨dq, osq⟩, hw''⟩ := hw'
          subst hw''
          have HB9 := Lib.hid (bC HBW.out (below_regrown wr dq osq))
          clear g1 g2 g3 g4
          generalize grow (redrawn wr dq) osq = w9 at *
          go_wp2
          go_roundw
          case rel => exact ⟨i + 1, by omega, by go_num, HB9.out⟩
          case measure => simp [intOf] <;> omega
        · obtain rfl : i = EL.length := by omega
          go_wp2_with fail
          refine (Works_any _).mono ?_
          rintro e vq ⟨rfl, hb⟩
          have HBQ := Lib.hid (bC (bC HB.out HBW.out) hb)
          clear hb
          go_wp2
          go_ret
          exact ⟨rfl, HBQ.out⟩
end Go.Proofs.Ytemcodfjjdbieaa
