import Derived.Test.YtjbeoakikdkdaaaSm
namespace Go.Proofs.Ytjbeoakikdkdaaa
open Go.RowKit Go.Vat Go.Sort Go.Shelf
attribute [local go_sem] Oper.semAt_some

/-! ## The reference: how many loads there are at least -/
def ndL (y : YardD) (ws : List (Int × Int)) : List Int := ws.map fun x => need y x.1 x.2
def fW (y : YardD) (x : Int × Int) : Int := U y x.1.toNat + need y x.1 x.2
def curM (y : YardD) (ws : List (Int × Int)) (h i : Nat) : Int := mxL (fW y) ((ws.take i).filter fun x => decide (x.2 = ((h : Int) - 1))) (U y (h - 1))
theorem curM_yes {y : YardD} {ws : List (Int × Int)} {h i : Nat} (hi : i < ws.length) (q : ws[i].2 = (h : Int) - 1) : curM y ws h (i + 1) = max (curM y ws h i) (fW y ws[i]) := by
  unfold curM
  rw [List.take_succ_eq_append_getElem hi, List.filter_append, List.filter_cons, if_pos (by simpa using q), List.filter_nil, mxL_snoc]
theorem curM_no {y : YardD} {ws : List (Int × Int)} {h i : Nat} (hi : i < ws.length) (q : ¬ ws[i].2 = (h : Int) - 1) : curM y ws h (i + 1) = curM y ws h i := by
  unfold curM
  rw [List.take_succ_eq_append_getElem hi, List.filter_append, List.filter_cons, if_neg (by simpa using q)]
  simp
theorem curM_zero (y : YardD) (ws : List (Int × Int)) (h : Nat) : curM y ws h 0 = U y (h - 1) := by simp [curM, mxL]
theorem curM_end (y : YardD) {h : Nat} (hh : 1 ≤ h) : curM y (allW y.logs y.logs.length) h (allW y.logs y.logs.length).length = U y h := by
  obtain ⟨k, rfl⟩ : ∃ k, h = k + 1 := ⟨h - 1, by omega⟩
  unfold curM
  rw [List.take_length, U_succ, show k + 1 - 1 = k by omega, show (((k + 1 : Nat) : Int) - 1) = (k : Int) by omega]
  exact (mxL_same _ (fun x => wins_allW) _).symm
theorem curM_bd {y : YardD} (hy : y.Ok) {ws : List (Int × Int)} {h i : Nat} : 0 ≤ curM y ws h i ∧ curM y ws h i ≤ 1000 := by
  have h0 := U_nonneg y (h - 1)
  have h1 := U_len hy (h - 1)
  have h2 := hy.count
  have h3 : ∀ x, 0 ≤ fW y x ∧ fW y x ≤ 1000 := fun x => by
    have := U_nonneg y x.1.toNat
    have := U_len hy x.1.toNat
    have := need_bd hy x.1 x.2
    unfold fW
    omega
  unfold curM
  rcases mxL_cases (fW y) ((ws.take i).filter fun x => decide (x.2 = ((h : Int) - 1))) (U y (h - 1)) with e | ⟨x, _, e⟩
  · rw [e]; omega
  · rw [e]; exact h3 x
theorem ndL_snoc {y : YardD} {ws : List (Int × Int)} {i : Nat} (hi : i < ws.length) : (ndL y (ws.take (i + 1))).map (Value.int .i64) = (ndL y (ws.take i)).map (Value.int .i64) ++ [.int .i64 (need y ws[i].1 ws[i].2)] := by
  unfold ndL
  rw [List.take_succ_eq_append_getElem hi, List.map_append, List.map_append]
  rfl
/-- make([]int64, 102). -/
theorem make102 (w : World) : (Instr.makeSlice 25 (.int .i64 102) (.int .i64 102)).run Try.prog w =
    .ok (.slice (some ⟨w.heap.size, 0, none⟩) 102 102) (w.alloc (.cells (madeCells #[.int .i64 0] 102) 2)) := make64 102 w (by omega)
def uptF (f : Nat → Int) (h p : Nat) : Int := if p < h then f p else 0
theorem uptF_step (f : Nat → Int) (h : Nat) : updF (uptF f h) h (f h) = uptF f (h + 1) := by
  funext p
  unfold updF uptF
  by_cases e : p = h
  · subst e; rw [if_pos rfl, if_pos (by omega)]
  · rw [if_neg e]
    by_cases c : p < h
    · rw [if_pos c, if_pos (by omega)]
    · rw [if_neg c, if_neg (by omega)]
theorem uptF_lt {f : Nat → Int} {h p : Nat} (c : p < h) : uptF f h p = f p := if_pos c
theorem updF_upd (f : Nat → Int) (i : Nat) (a b : Int) : updF (updF f i a) i b = updF f i b := by
  funext p
  unfold updF
  split <;> rfl
set_option maxRecDepth 100000 in
set_option maxHeartbeats 8000000 in
theorem rLeast_any (v : Value) (y : YardD) (w : World) (hv : YardAt w v y) (hy : y.Ok) :
    Calls Try.prog 72 #[v] w fun e w' => ∃ g, e = .returned (.slice (some ⟨g, 0, none⟩) 102 102) ∧ ArrAt w' g 102 2 (U y) ∧ w.heap.size ≤ g ∧ Below w.heap.size w w' := by
  obtain ⟨sv, rfl, hp⟩ := hv
  obtain ⟨sa, cap, rfl⟩ := hp.slice
  have hB0 := below1 w (.cells #[.int .i64 y.load, .slice sa y.logs.length cap] 24)
  have B0 := Lib.hid (Blk.new w (.cells #[.int .i64 y.load, .slice sa y.logs.length cap] 24))
  have HB := Lib.hid hB0
  have HV := Lib.hid (show YardAt _ (.agg #[.int .i64 y.load, .slice sa y.logs.length cap]) y from ⟨_, rfl, hp.below hB0⟩)
  have HYD := Lib.hid hy
  have hl10 := hy.count
  have hl1 := hy.l1
  have hl2 := hy.l2
  have hWlen := allW_len y.logs hy.count y.logs.length
  have HWIN := Lib.hid (show ∀ x ∈ allW y.logs y.logs.length, 0 ≤ x.1 ∧ x.1 ≤ x.2 ∧ x.2 ≤ 100 from fun x hx => by
    obtain ⟨l, hl, q, hq, h1, rfl⟩ := mem_allW.1 hx
    have := hy.log l hl
    have := hy.log q hq
    simp only
    omega)
  have HMEND := Lib.hid (fun h (hh : 1 ≤ h) => curM_end y (h := h) hh)
  clear hy
  clear hp hB0
  go_enter Try.func72, Try.ntmps72
  have hmk := make102
  go_wp2_with fail
  have hz0 : (w.alloc (.cells #[.int .i64 y.load, .slice sa y.logs.length cap] 24)).heap.size = w.heap.size + 1 := by simp
  generalize w.alloc (.cells #[.int .i64 y.load, .slice sa y.logs.length cap] 24) = W0 at *
  clear hmk
  have HA := Lib.hid (ArrAt.alloc0 W0 102)
  have hb1 := below1 W0 (.cells (madeCells #[.int .i64 0] 102) 2)
  rw [hz0] at HA
  have hw0 : w.heap.size ≤ w.heap.size + 1 := by omega
  have hgs : w.heap.size + 1 < (W0.alloc (.cells (madeCells #[.int .i64 0] 102) 2)).heap.size := by simp [hz0]
  obtain ⟨g, hg⟩ : ∃ g, w.heap.size + 1 = g := ⟨_, rfl⟩
  rw [hg] at HA hgs hw0 ⊢
  have HG := Lib.hid hg
  have HB1 := Lib.hid (bC HB.out hb1)
  have HV1 := Lib.hid (HV.out.below hb1)
  have B1 := Lib.hid (B0.out.below hb1)
  clear hb1 hg HB HV B0 hz0
  generalize W0.alloc (.cells (madeCells #[.int .i64 0] 102) 2) = W1 at *
  refine (rWindows_any _ y _ HV1.out HYD.out).mono ?_
  rintro e w2 ⟨wa, wc, rfl, hown, hb2⟩
  obtain ⟨WL, hWL⟩ : ∃ WL, allW y.logs y.logs.length = WL := ⟨_, rfl⟩
  rw [hWL] at hown hWlen HWIN HMEND ⊢
  have HWB := Lib.hid (fun b o k c (e : Value.slice wa WL.length wc = .slice (some ⟨b, o, none⟩) k c) => owns_base hown e)
  have HWP := Lib.hid (Row.of_owns hown).pairs
  have HA2 := Lib.hid (HA.out.below hb2)
  have HB2 := Lib.hid (bC HB1.out hb2)
  have HV2 := Lib.hid (HV1.out.below hb2)
  have B2 := Lib.hid (B1.out.below hb2)
  have hs2 := hb2.size
  have hwl : WL.length ≤ 100 := by omega
  clear hown hb2 HA HB1 HV1 B1 hWL hWlen
  go_wp2_with fail
  go_loopw [5, 6] (fun o s wr => ∃ i : Nat, i ≤ WL.length ∧ s = .int .i64 i ∧ wr.ownsRow w2.heap.size 2 1 o i ((ndL y (WL.take i)).map (Value.int .i64)) ∧ Below w2.heap.size w2 wr) (fun _ s _ => WL.length - (intOf s).toNat)
  case atStart => exact ⟨0, Nat.zero_le _, rfl, owns_nil _ _ _ _, Below.refl _ _⟩
  case round =>
    obtain ⟨i, hi, rfl, hown, hbw⟩ := hrel
    have HOWN := Lib.hid hown
    obtain ⟨oa, oc, rfl⟩ := owns_slice hown
    have HBW := Lib.hid hbw
    clear hown
    by_cases hit : i < WL.length
    · have hc0 := (B2.out.below hbw).cell 0
      have hc1 := (B2.out.below hbw).cell 1
      simp at hc0 hc1
      obtain ⟨wb, woff, rfl, hwb, hx0, hx1⟩ := PairsAt.get0 (HWP.out.below hbw) hit
      have HSN := Lib.hid (ndL_snoc (y := y) hit)
      obtain ⟨l1, hl1'⟩ : ∃ x, WL[i].1 = x := ⟨_, rfl⟩
      obtain ⟨l2, hl2'⟩ : ∃ x, WL[i].2 = x := ⟨_, rfl⟩
      rw [hl1'] at hx0 HSN
      rw [hl2'] at hx1 HSN
      have hii : (i : Int) < (WL.length : Int) := by omega
      have HVW : Hid (YardAt wr (.agg #[.int .i64 y.load, .slice sa y.logs.length cap]) y) := Lib.hid (HV2.out.below hbw)
      clear hl1' hl2' hbw
      go_wp2_with fail
      have y0 : wr.drew.cell? ⟨w.heap.size, 0, none⟩ = some (.int .i64 y.load) := hc0
      have y1 : wr.drew.cell? ⟨w.heap.size, 1, none⟩ = some (.slice sa y.logs.length cap) := hc1
      have y2 : wr.drew.cell? ⟨wb, woff + i * 2, none⟩ = some (.int .i64 l1) := hx0
      have y3 : wr.drew.cell? ⟨wb, woff + i * 2 + 1, none⟩ = some (.int .i64 l2) := hx1
      have own : wr.drew.ownsRow w2.heap.size 2 1 (.slice oa i oc) i ((ndL y (WL.take i)).map (Value.int .i64)) := HOWN.out
      have bel : Below w2.heap.size w2 wr.drew := HBW.out.drew
      have hvw : YardAt wr.drew (.agg #[.int .i64 y.load, .slice sa y.logs.length cap]) y := HVW.out.below ((Below.refl _ _).drew)
      clear HOWN HBW hc0 hc1 hx0 hx1 HVW
      refine (wp_region_T 8 (fun W' => W'.cell? ⟨w.heap.size, 0, none⟩ = some (.int .i64 y.load) ∧ W'.cell? ⟨w.heap.size, 1, none⟩ = some (.slice sa y.logs.length cap) ∧ W'.cell? ⟨wb, woff + i * 2, none⟩ = some (.int .i64 l1) ∧ W'.cell? ⟨wb, woff + i * 2 + 1, none⟩ = some (.int .i64 l2)) (by kernel_rfl) (by kernel_rfl) ⟨y0, y1, y2, y3⟩ ?_)
      intro inv hS
      clear y0 y1 y2 y3
      generalize wr.drew = V0 at *
      refine wpAnyT_take inv (by kernel_rfl) (by omega) (i := 0) (v := .slice oa i oc) rfl (by kernel_rfl) (by kernel_rfl) (fun _ _ _ h => h) (Or.inl ⟨by kernel_rfl, ?_⟩) (by assumption) ?_
      · rintro W' ⟨q0, q1, q2, q3⟩
        go_simp
      intro inv2
      clear inv
      have inv := inv2
      clear inv2
      simp only [Act.put, List.setIfInBounds_toArray]
      refine wpAnyT_take inv (by kernel_rfl) (by omega) (i := 1) (v := .agg #[.int .i64 y.load, .slice sa y.logs.length cap]) rfl (by kernel_rfl) (by kernel_rfl) (fun _ _ _ h => h) (Or.inl ⟨by kernel_rfl, ?_⟩) (by assumption) ?_
      · rintro W' ⟨q0, q1, q2, q3⟩
        go_simp
      intro inv2
      clear inv
      have inv := inv2
      clear inv2
      simp only [Act.put]
      refine wpAnyT_take inv (by kernel_rfl) (by omega) (i := 2) (v := .slice (some ⟨wb, woff, none⟩) WL.length wc) rfl (by kernel_rfl) (by kernel_rfl) (fun _ _ _ h => h) (Or.inl ⟨by kernel_rfl, ?_⟩) (by assumption) ?_
      · rintro W' ⟨q0, q1, q2, q3⟩
        go_simp
      intro inv2
      clear inv
      have inv := inv2
      clear inv2
      simp only [Act.put]
      refine wpAnyT_take inv (by kernel_rfl) (by omega) (i := 3) (v := .int .i64 (i : Int)) rfl (by kernel_rfl) (by kernel_rfl) (fun _ _ _ h => h) (Or.inl ⟨by kernel_rfl, ?_⟩) (by assumption) ?_
      · rintro W' ⟨q0, q1, q2, q3⟩
        go_simp
      intro inv2
      clear inv
      have inv := inv2
      clear inv2
      simp only [Act.put]
      refine wpAnyT_take inv (by kernel_rfl) (by omega) (i := 4) (v := .pointer (some ⟨wb, woff + i * 2, none⟩)) rfl (by kernel_rfl) (by kernel_rfl) (fun _ _ _ h => h) (Or.inl ⟨by kernel_rfl, ?_⟩) (by assumption) ?_
      · rintro W' ⟨q0, q1, q2, q3⟩
        go_simp
      intro inv2
      clear inv
      have inv := inv2
      clear inv2
      simp only [Act.put]
      refine wpAnyT_take inv (by kernel_rfl) (by omega) (i := 5) (v := .agg #[.int .i64 l1, .int .i64 l2]) rfl (by kernel_rfl) (by kernel_rfl) (fun _ _ _ h => h) (Or.inl ⟨by kernel_rfl, ?_⟩) (by assumption) ?_
      · rintro W' ⟨q0, q1, q2, q3⟩
        go_simp
      intro inv2
      clear inv
      have inv := inv2
      clear inv2
      simp only [Act.put]
      refine wpAnyT_ready [6] (by kernel_rfl) (by simp) ?_
      refine AllReadyT.cons rfl (fun K hK => ?_) AllReadyT.nil
      go_simp
      refine (rNeedOf_any _ y l1 l2 _ hvw HYD.out).mono ?_
      rintro e z1 ⟨rfl, hb⟩
      refine hK.out _ _ (fun _ => ⟨cellB hS.1 hb, cellB hS.2.1 hb, cellB hS.2.2.1 hb, cellB hS.2.2.2 hb⟩) (fun _ => ?_)
      replace inv := HeadM.step inv 6 (by kernel_rfl) (by omega)
      clear hK K
      try simp only [Act.put]
      replace hS := And.intro (cellB hS.1 hb) (And.intro (cellB hS.2.1 hb) (And.intro (cellB hS.2.2.1 hb) (cellB hS.2.2.2 hb)))
      replace own := owns_below own hb
      replace bel := bel.trans (hb.mono (by have := bel.size; omega))
      replace hvw := hvw.below hb
      clear hb
      refine wpAnyT_ready [7] (by kernel_rfl) (by simp) ?_
      refine AllReadyT.cons rfl (fun K hK => ?_) AllReadyT.nil
      go_simp
      have hA := below1 z1 (.cells #[.int .i64 (need y l1 l2)] 2)
      refine hK.out _ _ (fun _ => ⟨cellB hS.1 hA, cellB hS.2.1 hA, cellB hS.2.2.1 hA, cellB hS.2.2.2 hA⟩) (fun _ => ?_)
      clear hK K hS inv
      try simp only [Act.put]
      have bN := Blk.new z1 (.cells #[.int .i64 (need y l1 l2)] 2)
      replace own := owns_below own hA
      replace bel := bel.trans (hA.mono (by have := bel.size; omega))
      replace hvw := hvw.below hA
      obtain ⟨bx, hbx⟩ : ∃ bx, z1.heap.size = bx := ⟨_, rfl⟩
      rw [hbx] at bN ⊢
      clear hA hbx
      generalize z1.alloc (.cells #[.int .i64 (need y l1 l2)] 2) = V9 at *
      refine wpAnyT_chain (fuel := 2) rfl (by kernel_rfl) ?_
      simp only [List.drop_succ_cons, List.drop_zero]
      go_wp2_with (at_builtin; refine wp_app64 rfl (.tmp 18) (.tmp 25) rfl _ _ _ _ rfl own _ _ _ rfl bN (by omega) bel (by have := bel.size; omega) ?_; intro a2 c2 w3 own3 bel3 gr3)
      go_roundw
      case rel => exact ⟨i + 1, by omega, by go_num, by rw [HSN.out]; exact own3, bel3⟩
      case measure => simp [intOf] <;> omega
    · obtain rfl : i = WL.length := by omega
      generalize wr = w4 at *
      rw [List.take_length] at HOWN
      have HNB := Lib.hid (fun b o k c (e : Value.slice oa WL.length oc = .slice (some ⟨b, o, none⟩) k c) => owns_base HOWN.out e)
      have HNI : Hid (IntsAt w4 (.slice oa WL.length oc) (ndL y WL)) := Lib.hid (by
        have h := Row.of_owns HOWN.out
        have e : WL.length = (ndL y WL).length := by simp [ndL]
        rw [e] at h ⊢
        exact h.ints)
      have HA3 := Lib.hid (HA2.out.below hbw)
      have HB3 := Lib.hid (bC HB2.out hbw)
      have HWP3 := Lib.hid (HWP.out.below hbw)
      have hg3 : g < w2.heap.size := HA2.out.lt
      have hu0 : U y 0 = 0 := rfl
      have HU0 := Lib.hid hu0
      clear hbw HOWN HBW HA2 HB2 HWP HV2 B2 hu0
      go_wp2
      go_loopw [7, 8] (fun s _ w5 => ∃ h : Nat, 1 ≤ h ∧ h ≤ 102 ∧ s = .int .i64 h ∧ ArrAt w5 g 102 2 (uptF (U y) h) ∧ FrL w4 g w5) (fun s _ _ => 102 - (intOf s).toNat)
      case atStart => exact ⟨1, by omega, by omega, rfl, HA3.out.same fun p hp => by
        unfold uptF
        by_cases e : p < 1
        · obtain rfl : p = 0 := by omega
          rw [if_pos e, HU0.out]
        · rw [if_neg e], FrL.of_below (Below.refl _ _)⟩
      case round =>
        clear HA3
        generalize wr = w5 at *
        obtain ⟨h, hh1, hh2, rfl, hA, hF⟩ := hrel
        by_cases hlt : h < 102
        · have d1 : decide ((h : Int) ≤ 101) = true := by simp; omega
          have q1 : IntKind.i64.wrap ((h : Int) - 1) = (h : Int) - 1 := IntWalk.i64_in _ (by omega)
          have q2 : 0 ≤ (h : Int) - 1 := by omega
          have q3 : (h : Int) - 1 < 102 := by omega
          have q4 : ((h : Int) - 1).toNat = h - 1 := by omega
          have q5 : (h : Int) < 102 := by omega
          have a1 := hA.cell (i := h - 1) (by omega)
          rw [uptF_lt (by omega)] at a1
          obtain ⟨ua, hua⟩ : ∃ x, U y (h - 1) = x := ⟨_, rfl⟩
          rw [hua] at a1
          have HUA := Lib.hid hua
          have af := hA.frozen h
          have ac := hA.cell (i := h) (by omega)
          have HAA := Lib.hid hA
          have HFF := Lib.hid hF
          have hgl := hA.lt
          clear hA hF hua
          go_wp2
          clear a1 af ac
          go_loopw [8] (fun s w6 => ∃ i : Nat, i ≤ WL.length ∧ s = .int .i64 i ∧ ArrAt w6 g 102 2 (updF (uptF (U y) h) h (curM y WL h i)) ∧ FrL w4 g w6) (fun s _ => WL.length - (intOf s).toNat)
          case atStart => exact ⟨0, Nat.zero_le _, rfl, by rw [curM_zero, HUA.out]; exact HAA.out.set h ua, HFF.out.set h _⟩
          case round =>
            clear HAA HFF
            generalize wr = w6 at *
            obtain ⟨i, hi, rfl, hA, hF⟩ := hrel
            by_cases hit : i < WL.length
            · obtain ⟨wb, woff, hwa, hwb, hx0, hx1⟩ := PairsAt.get0 HWP3.out hit
              subst hwa
              have hwg : wb ≠ g := by have := HWB.out wb woff _ _ rfl; omega
              replace hx0 := cellF hx0 hF hwg
              replace hx1 := cellF hx1 hF hwg
              obtain ⟨nb, noff, nc', e, hnd⟩ := HNI.out.get i (by unfold ndL; rw [List.length_map]; exact hit)
              have hng : nb ≠ g := by
                have := HNB.out nb noff (ndL y WL).length nc' e
                omega
              replace hnd := cellF hnd hF hng
              obtain ⟨rfl, rfl⟩ : oa = some ⟨nb, noff, none⟩ ∧ oc = nc' := by
                injection e with e1 e2 e3
                exact ⟨e1, e3⟩
              have hwin := HWIN.out _ (List.getElem_mem hit)
              have HY1 := Lib.hid (curM_yes (y := y) (h := h) hit)
              have HN1 := Lib.hid (curM_no (y := y) (h := h) hit)
              have hcb := curM_bd HYD.out (ws := WL) (h := h) (i := i)
              have hnb := need_bd HYD.out WL[i].1 WL[i].2
              have hul := U_nonneg y WL[i].1.toNat
              have hul2 := U_len HYD.out WL[i].1.toNat
              have hndv : (ndL y WL)[i]'(by unfold ndL; rw [List.length_map]; exact hit) = need y WL[i].1 WL[i].2 := by simp [ndL]
              rw [hndv] at hnd
              have hfv : fW y WL[i] = U y WL[i].1.toNat + need y WL[i].1 WL[i].2 := rfl
              rw [hfv] at HY1
              obtain ⟨lo, hlo⟩ : ∃ lo : Nat, WL[i].1 = (lo : Int) := ⟨WL[i].1.toNat, by omega⟩
              obtain ⟨l2, hl2'⟩ : ∃ x, WL[i].2 = x := ⟨_, rfl⟩
              obtain ⟨nd, hnd'⟩ : ∃ x, need y WL[i].1 WL[i].2 = x := ⟨_, rfl⟩
              rw [hnd'] at hnd hnb HY1
              rw [hl2'] at hx1 hwin HY1 HN1
              rw [hlo] at hx0 hwin hul hul2 HY1
              rw [Int.toNat_natCast] at hul hul2 HY1
              obtain ⟨M, hM⟩ : ∃ x, curM y WL h i = x := ⟨_, rfl⟩
              rw [hM] at hA hcb HY1 HN1
              clear hlo hl2' hnd' hM hndv hfv e
              by_cases q : l2 = (h : Int) - 1
              · have d2 : (l2 == (h : Int) - 1) = true := by simpa using q
                have HS := Lib.hid (HY1.out q)
                have hloh : lo < h := by omega
                have a0 := hA.cell (i := h) (by omega)
                rw [updF_same] at a0
                have a1 := hA.cell (i := lo) (by omega)
                rw [updF_other _ (by omega), uptF_lt hloh] at a1
                obtain ⟨Ul, hUl⟩ : ∃ x, U y lo = x := ⟨_, rfl⟩
                rw [hUl] at a1 hul hul2 HS
                obtain ⟨C, hC⟩ : ∃ C, max M (Ul + nd) = C := ⟨_, rfl⟩
                have w1 : IntKind.i64.wrap (Ul + nd) = Ul + nd := IntWalk.i64_in _ (by omega)
                have q7 : (lo : Int) < 102 := by omega
                have q8 : (i : Int) < (WL.length : Int) := by omega
                have hmx : ∀ (ts : Array TypeId) (t : TypeId) (w : World), (Builtin.max_ ts t #[.int .i64 M, .int .i64 (Ul + nd)]).run Try.prog w = .ok (.int .i64 C) w := fun ts t w => by rw [run_max_w, hC]
                have HC := Lib.hid hC
                have af := hA.frozen h
                have HAA := Lib.hid hA
                have HFF := Lib.hid hF
                have hgl := hA.lt
                clear hA hF hUl hC HY1 HN1 q
                go_wp2_with fail
                clear d2 hx1
                have y0 : w6.drew.cell? ⟨g, h, none⟩ = some (.int .i64 M) := a0
                have y1 : w6.drew.cell? ⟨g, lo, none⟩ = some (.int .i64 Ul) := a1
                have y2 : w6.drew.cell? ⟨wb, woff + i * 2, none⟩ = some (.int .i64 (lo : Int)) := hx0
                have y3 : w6.drew.cell? ⟨nb, noff + i, none⟩ = some (.int .i64 nd) := hnd
                have fr : w6.drew.frozen? ⟨g, h, none⟩ = false := af
                have AA : ArrAt w6.drew g 102 2 (updF (uptF (U y) h) h M) := HAA.out.below ((Below.refl _ _).drew)
                have FF : FrL w4 g w6.drew := HFF.out.below ((Below.refl _ _).drew)
                clear af a0 a1 hx0 hnd HAA HFF
                refine (wp_region_T 21 (fun W' => W'.cell? ⟨g, h, none⟩ = some (.int .i64 M) ∧ W'.cell? ⟨g, lo, none⟩ = some (.int .i64 Ul) ∧ W'.cell? ⟨wb, woff + i * 2, none⟩ = some (.int .i64 (lo : Int)) ∧ W'.cell? ⟨nb, noff + i, none⟩ = some (.int .i64 nd)) (by kernel_rfl) (by kernel_rfl) ⟨y0, y1, y2, y3⟩ ?_)
                intro inv hS
                clear y0 y1 y2 y3
                generalize w6.drew = V0 at *
                refine wpAnyT_take inv (by kernel_rfl) (by omega) (i := 0) (v := .slice (some ⟨g, 0, none⟩) 102 102) rfl (by kernel_rfl) (by kernel_rfl) (fun _ _ _ h => h) (Or.inl ⟨by kernel_rfl, ?_⟩) (by assumption) ?_
                · rintro W' ⟨q0, q1, q2, q3⟩
                  go_simp
                intro inv2
                clear inv
                have inv := inv2
                clear inv2
                simp only [Act.put, List.setIfInBounds_toArray]
                refine wpAnyT_take inv (by kernel_rfl) (by omega) (i := 1) (v := .int .i64 (h : Int)) rfl (by kernel_rfl) (by kernel_rfl) (fun _ _ _ h => h) (Or.inl ⟨by kernel_rfl, ?_⟩) (by assumption) ?_
                · rintro W' ⟨q0, q1, q2, q3⟩
                  go_simp
                intro inv2
                clear inv
                have inv := inv2
                clear inv2
                simp only [Act.put]
                refine wpAnyT_take inv (by kernel_rfl) (by omega) (i := 2) (v := .slice (some ⟨g, 0, none⟩) 102 102) rfl (by kernel_rfl) (by kernel_rfl) (fun _ _ _ h => h) (Or.inl ⟨by kernel_rfl, ?_⟩) (by assumption) ?_
                · rintro W' ⟨q0, q1, q2, q3⟩
                  go_simp
                intro inv2
                clear inv
                have inv := inv2
                clear inv2
                simp only [Act.put]
                refine wpAnyT_take inv (by kernel_rfl) (by omega) (i := 3) (v := .int .i64 (h : Int)) rfl (by kernel_rfl) (by kernel_rfl) (fun _ _ _ h => h) (Or.inl ⟨by kernel_rfl, ?_⟩) (by assumption) ?_
                · rintro W' ⟨q0, q1, q2, q3⟩
                  go_simp
                intro inv2
                clear inv
                have inv := inv2
                clear inv2
                simp only [Act.put]
                refine wpAnyT_take inv (by kernel_rfl) (by omega) (i := 4) (v := .pointer (some ⟨g, h, none⟩)) rfl (by kernel_rfl) (by kernel_rfl) (fun _ _ _ h => h) (Or.inl ⟨by kernel_rfl, ?_⟩) (by assumption) ?_
                · rintro W' ⟨q0, q1, q2, q3⟩
                  go_simp
                intro inv2
                clear inv
                have inv := inv2
                clear inv2
                simp only [Act.put]
                refine wpAnyT_take inv (by kernel_rfl) (by omega) (i := 5) (v := .int .i64 M) rfl (by kernel_rfl) (by kernel_rfl) (fun _ _ _ h => h) (Or.inl ⟨by kernel_rfl, ?_⟩) (by assumption) ?_
                · rintro W' ⟨q0, q1, q2, q3⟩
                  go_simp
                intro inv2
                clear inv
                have inv := inv2
                clear inv2
                simp only [Act.put]
                refine wpAnyT_take inv (by kernel_rfl) (by omega) (i := 6) (v := .slice (some ⟨g, 0, none⟩) 102 102) rfl (by kernel_rfl) (by kernel_rfl) (fun _ _ _ h => h) (Or.inl ⟨by kernel_rfl, ?_⟩) (by assumption) ?_
                · rintro W' ⟨q0, q1, q2, q3⟩
                  go_simp
                intro inv2
                clear inv
                have inv := inv2
                clear inv2
                simp only [Act.put]
                refine wpAnyT_take inv (by kernel_rfl) (by omega) (i := 7) (v := .slice (some ⟨wb, woff, none⟩) WL.length wc) rfl (by kernel_rfl) (by kernel_rfl) (fun _ _ _ h => h) (Or.inl ⟨by kernel_rfl, ?_⟩) (by assumption) ?_
                · rintro W' ⟨q0, q1, q2, q3⟩
                  go_simp
                intro inv2
                clear inv
                have inv := inv2
                clear inv2
                simp only [Act.put]
                refine wpAnyT_take inv (by kernel_rfl) (by omega) (i := 8) (v := .int .i64 (i : Int)) rfl (by kernel_rfl) (by kernel_rfl) (fun _ _ _ h => h) (Or.inl ⟨by kernel_rfl, ?_⟩) (by assumption) ?_
                · rintro W' ⟨q0, q1, q2, q3⟩
                  go_simp
                intro inv2
                clear inv
                have inv := inv2
                clear inv2
                simp only [Act.put]
                refine wpAnyT_take inv (by kernel_rfl) (by omega) (i := 9) (v := .pointer (some ⟨wb, woff + i * 2, none⟩)) rfl (by kernel_rfl) (by kernel_rfl) (fun _ _ _ h => h) (Or.inl ⟨by kernel_rfl, ?_⟩) (by assumption) ?_
                · rintro W' ⟨q0, q1, q2, q3⟩
                  go_simp
                intro inv2
                clear inv
                have inv := inv2
                clear inv2
                simp only [Act.put]
                refine wpAnyT_take inv (by kernel_rfl) (by omega) (i := 10) (v := .pointer (some ⟨wb, woff + i * 2, none⟩)) rfl (by kernel_rfl) (by kernel_rfl) (fun _ _ _ h => h) (Or.inl ⟨by kernel_rfl, ?_⟩) (by assumption) ?_
                · rintro W' ⟨q0, q1, q2, q3⟩
                  go_simp
                intro inv2
                clear inv
                have inv := inv2
                clear inv2
                simp only [Act.put]
                refine wpAnyT_take inv (by kernel_rfl) (by omega) (i := 11) (v := .int .i64 (lo : Int)) rfl (by kernel_rfl) (by kernel_rfl) (fun _ _ _ h => h) (Or.inl ⟨by kernel_rfl, ?_⟩) (by assumption) ?_
                · rintro W' ⟨q0, q1, q2, q3⟩
                  go_simp
                intro inv2
                clear inv
                have inv := inv2
                clear inv2
                simp only [Act.put]
                refine wpAnyT_take inv (by kernel_rfl) (by omega) (i := 12) (v := .pointer (some ⟨g, lo, none⟩)) rfl (by kernel_rfl) (by kernel_rfl) (fun _ _ _ h => h) (Or.inl ⟨by kernel_rfl, ?_⟩) (by assumption) ?_
                · rintro W' ⟨q0, q1, q2, q3⟩
                  go_simp
                intro inv2
                clear inv
                have inv := inv2
                clear inv2
                simp only [Act.put]
                refine wpAnyT_take inv (by kernel_rfl) (by omega) (i := 13) (v := .int .i64 Ul) rfl (by kernel_rfl) (by kernel_rfl) (fun _ _ _ h => h) (Or.inl ⟨by kernel_rfl, ?_⟩) (by assumption) ?_
                · rintro W' ⟨q0, q1, q2, q3⟩
                  go_simp
                intro inv2
                clear inv
                have inv := inv2
                clear inv2
                simp only [Act.put]
                refine wpAnyT_take inv (by kernel_rfl) (by omega) (i := 14) (v := .slice (some ⟨nb, noff, none⟩) WL.length oc) rfl (by kernel_rfl) (by kernel_rfl) (fun _ _ _ h => h) (Or.inl ⟨by kernel_rfl, ?_⟩) (by assumption) ?_
                · rintro W' ⟨q0, q1, q2, q3⟩
                  go_simp
                intro inv2
                clear inv
                have inv := inv2
                clear inv2
                simp only [Act.put]
                refine wpAnyT_take inv (by kernel_rfl) (by omega) (i := 15) (v := .int .i64 (i : Int)) rfl (by kernel_rfl) (by kernel_rfl) (fun _ _ _ h => h) (Or.inl ⟨by kernel_rfl, ?_⟩) (by assumption) ?_
                · rintro W' ⟨q0, q1, q2, q3⟩
                  go_simp
                intro inv2
                clear inv
                have inv := inv2
                clear inv2
                simp only [Act.put]
                refine wpAnyT_take inv (by kernel_rfl) (by omega) (i := 16) (v := .pointer (some ⟨nb, noff + i, none⟩)) rfl (by kernel_rfl) (by kernel_rfl) (fun _ _ _ h => h) (Or.inl ⟨by kernel_rfl, ?_⟩) (by assumption) ?_
                · rintro W' ⟨q0, q1, q2, q3⟩
                  go_simp
                intro inv2
                clear inv
                have inv := inv2
                clear inv2
                simp only [Act.put]
                refine wpAnyT_take inv (by kernel_rfl) (by omega) (i := 17) (v := .int .i64 nd) rfl (by kernel_rfl) (by kernel_rfl) (fun _ _ _ h => h) (Or.inl ⟨by kernel_rfl, ?_⟩) (by assumption) ?_
                · rintro W' ⟨q0, q1, q2, q3⟩
                  go_simp
                intro inv2
                clear inv
                have inv := inv2
                clear inv2
                simp only [Act.put]
                refine wpAnyT_take inv (by kernel_rfl) (by omega) (i := 18) (v := .int .i64 (Ul + nd)) rfl (by kernel_rfl) (by kernel_rfl) (fun _ _ _ h => h) (Or.inl ⟨by kernel_rfl, ?_⟩) (by assumption) ?_
                · rintro W' ⟨q0, q1, q2, q3⟩
                  go_simp
                intro inv2
                clear inv
                have inv := inv2
                clear inv2
                simp only [Act.put]
                refine wpAnyT_take inv (by kernel_rfl) (by omega) (i := 19) (v := .int .i64 C) rfl (by kernel_rfl) (by kernel_rfl) (fun _ _ _ h => h) (Or.inl ⟨by kernel_rfl, ?_⟩) (by assumption) ?_
                · rintro W' ⟨q0, q1, q2, q3⟩
                  go_simp
                intro inv2
                clear inv
                have inv := inv2
                clear inv2
                simp only [Act.put]
                refine wpAnyT_take inv (by kernel_rfl) (by omega) (i := 20) (v := .pointer (some ⟨g, h, none⟩)) rfl (by kernel_rfl) (by kernel_rfl) (fun _ _ _ h => h) (Or.inl ⟨by kernel_rfl, ?_⟩) (by assumption) ?_
                · rintro W' ⟨q0, q1, q2, q3⟩
                  go_simp
                intro inv2
                clear inv
                have inv := inv2
                clear inv2
                simp only [Act.put]
                have a0 := AA.cell (i := h) (by omega)
                have hgV := AA.lt
                clear inv hS
                refine wpAnyT_chain (fuel := 1) rfl (by kernel_rfl) ?_
                simp only [List.drop_succ_cons, List.drop_zero]
                go_wp2
                go_roundw
                case rel => exact ⟨i + 1, by omega, by go_num, by rw [HS.out, HC.out, ← updF_upd _ h M C]; exact AA.set h C, FF.set h _⟩
                case measure => simp [intOf] <;> omega
              · have d2 : (l2 == (h : Int) - 1) = false := by simpa using q
                have HS := Lib.hid (HN1.out q)
                have HAA := Lib.hid hA
                have HFF := Lib.hid hF
                have q8 : (i : Int) < (WL.length : Int) := by omega
                clear hA hF HY1 HN1 q
                go_wp2
                go_roundw
                case rel => exact ⟨i + 1, by omega, by go_num, by rw [HS.out]; exact HAA.out, HFF.out⟩
                case measure => simp [intOf] <;> omega
            · obtain rfl : i = WL.length := by omega
              have HE := Lib.hid (HMEND.out h hh1)
              have HAA := Lib.hid hA
              have HFF := Lib.hid hF
              clear hA hF
              go_wp2
              go_roundw
              case rel => exact ⟨h + 1, by omega, by omega, by go_num, by rw [← uptF_step, ← HE.out]; exact HAA.out, HFF.out⟩
              case measure => simp [intOf] <;> omega
        · obtain rfl : h = 102 := by omega
          have d1 : decide (((102 : Nat) : Int) ≤ 101) = false := by decide
          go_wp2
          go_ret
          exact ⟨g, rfl, hA.same fun p hp => by rw [uptF_lt hp], hw0, HB3.out.trans (hF.under (B := w.heap.size) HB3.out.size hw0)⟩
end Go.Proofs.Ytjbeoakikdkdaaa
