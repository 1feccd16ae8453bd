import Derived.Test.YtjbeoakikdkdaaaSo
namespace Go.Proofs.Ytjbeoakikdkdaaa
open Go.RowKit Go.Vat Go.Sort Go.Shelf
attribute [local go_sem] Oper.semAt_some

/-! ## The reference: early loads, what proofs prove -/
theorem earlyL_at {y : YardD} {k : Nat} (hk : k < (lateL (back y)).length) : (earlyL y).take (k + 1) = (earlyL y).take k ++ [100 - (lateL (back y)).getD ((lateL (back y)).length - 1 - k) 0] := by
  have hl : k < (earlyL y).length := by rw [earlyL_len]; omega
  rw [List.take_succ_eq_append_getElem hl, earlyL_get hl, List.getD_eq_getElem?_getD, List.getElem?_eq_getElem (by omega)]
  rfl
set_option maxRecDepth 100000 in
set_option maxHeartbeats 8000000 in
theorem rEarly_err (v : Value) (y : YardD) (w : World) (hv : YardAt w v y) (hl : y.logs.length ≤ 1000000) (he : yardErr y ≠ 0) :
    Calls Try.prog 32 #[v] w fun e w' => e = .returned (.tuple #[.slice none 0 0, .int .i64 (yardErr y)]) ∧ Below w.heap.size w w' := by
  obtain ⟨sv, rfl, hp⟩ := hv
  obtain ⟨sa, cap, rfl⟩ := hp.slice
  have hB0 := below1 w (.cells #[.int .i64 y.load, .slice sa y.logs.length cap] 24)
  have B0 := Lib.hid (Blk.new w (.cells #[.int .i64 y.load, .slice sa y.logs.length cap] 24))
  have HB := Lib.hid hB0
  have HV := Lib.hid (show YardAt _ (.agg #[.int .i64 y.load, .slice sa y.logs.length cap]) y from ⟨_, rfl, hp.below hB0⟩)
  obtain ⟨E, hE⟩ : ∃ E, yardErr y = E := ⟨_, rfl⟩
  have d1 : (E != 0) = true := by rw [← hE]; simpa using he
  have HE := Lib.hid hE
  clear he hE
  rw [HE.out]
  clear hp hB0
  go_enter Try.func32, Try.ntmps32
  go_wp2_with fail
  generalize w.alloc (.cells #[.int .i64 y.load, .slice sa y.logs.length cap] 24) = W0 at *
  refine (rCheckYard_any (.agg #[.int .i64 y.load, .slice sa y.logs.length cap]) y _ HV.out hl).mono ?_
  rintro e v1 ⟨rfl, hb⟩
  replace HV := Lib.hid (HV.out.below hb)
  replace B0 := Lib.hid (B0.out.below hb)
  replace HB := Lib.hid (bC HB.out hb)
  clear hb
  rw [HE.out]
  have B0c0 := B0.out.cell 0
  have B0c1 := B0.out.cell 1
  simp at B0c0 B0c1
  go_wp2_with fail
  clear B0c0 B0c1
  refine (rCheckYard_any (.agg #[.int .i64 y.load, .slice sa y.logs.length cap]) y _ HV.out hl).mono ?_
  rintro e v2 ⟨rfl, hb⟩
  replace HV := Lib.hid (HV.out.below hb)
  replace B0 := Lib.hid (B0.out.below hb)
  replace HB := Lib.hid (bC HB.out hb)
  clear hb
  rw [HE.out]
  have B0c0 := B0.out.cell 0
  have B0c1 := B0.out.cell 1
  simp at B0c0 B0c1
  go_wp2
  go_ret2
  exact ⟨rfl, HB.out⟩
set_option maxRecDepth 100000 in
set_option maxHeartbeats 8000000 in
theorem rEarly_ok (v : Value) (y : YardD) (w : World) (hv : YardAt w v y) (hy : y.Ok) :
    Calls Try.prog 32 #[v] w fun e w' => ∃ v, e = .returned (.tuple #[v, .int .i64 0]) ∧ IntsAt w' v (earlyL y) ∧ Below w.heap.size w w' := by
  obtain ⟨sv, rfl, hp⟩ := hv
  obtain ⟨sa, cap, rfl⟩ := hp.slice
  have hB0 := below1 w (.cells #[.int .i64 y.load, .slice sa y.logs.length cap] 24)
  have B0 := Lib.hid (Blk.new w (.cells #[.int .i64 y.load, .slice sa y.logs.length cap] 24))
  have HB := Lib.hid hB0
  have HV := Lib.hid (show YardAt _ (.agg #[.int .i64 y.load, .slice sa y.logs.length cap]) y from ⟨_, rfl, hp.below hB0⟩)
  have HYD := Lib.hid hy
  have HE := Lib.hid (yardErr_of hy)
  have hl10 := hy.count
  clear hy
  clear hp hB0
  go_enter Try.func32, Try.ntmps32
  go_wp2_with fail
  generalize w.alloc (.cells #[.int .i64 y.load, .slice sa y.logs.length cap] 24) = W0 at *
  refine (rCheckYard_any (.agg #[.int .i64 y.load, .slice sa y.logs.length cap]) y _ HV.out (by omega)).mono ?_
  rintro e v1 ⟨rfl, hb⟩
  replace HV := Lib.hid (HV.out.below hb)
  replace B0 := Lib.hid (B0.out.below hb)
  replace HB := Lib.hid (bC HB.out hb)
  clear hb
  rw [HE.out]
  have B0c0 := B0.out.cell 0
  have B0c1 := B0.out.cell 1
  simp at B0c0 B0c1
  go_wp2_with fail
  clear B0c0 B0c1
  refine (rBack_any (.agg #[.int .i64 y.load, .slice sa y.logs.length cap]) y _ HV.out HYD.out).mono ?_
  rintro e v2 ⟨vb, rfl, hvb, hb⟩
  replace HV := Lib.hid (HV.out.below hb)
  replace B0 := Lib.hid (B0.out.below hb)
  replace HB := Lib.hid (bC HB.out hb)
  clear hb
  have HVB := Lib.hid hvb
  clear hvb
  have B0c0 := B0.out.cell 0
  have B0c1 := B0.out.cell 1
  simp at B0c0 B0c1
  go_wp2_with fail
  clear B0c0 B0c1
  refine (rLate_ok vb (back y) _ HVB.out (back_ok HYD.out)).mono ?_
  rintro e v3 ⟨vl, rfl, hI, hb⟩
  replace HV := Lib.hid (HV.out.below hb)
  replace HVB := Lib.hid (HVB.out.below hb)
  replace B0 := Lib.hid (B0.out.below hb)
  replace HB := Lib.hid (bC HB.out hb)
  clear hb
  have HI := Lib.hid hI
  clear hI
  obtain ⟨ia, ic, rfl⟩ := HI.out.slice
  have HLN := Lib.hid (earlyL_len y)
  have hl20 : (lateL (back y)).length ≤ 10 := by
    have h1 := lateL_length (back y)
    have h2 := U_len (back_ok HYD.out) 101
    have h3 : (back y).logs.length = y.logs.length := by simp [back]
    omega
  have HAT := Lib.hid (fun k (hk : k < (lateL (back y)).length) => earlyL_at (y := y) hk)
  have HBD := Lib.hid (show ∀ x ∈ lateL (back y), 0 ≤ x ∧ x ≤ 100 from fun x hx => by
    obtain ⟨i, hi, rfl⟩ := List.mem_iff_getElem.1 hx
    exact lateL_bd hi)
  obtain ⟨IL, hIL⟩ : ∃ IL, lateL (back y) = IL := ⟨_, rfl⟩
  replace HI := Lib.hid (show IntsAt v3 (.slice ia (lateL (back y)).length ic) (lateL (back y)) from HI.out)
  simp only [hIL] at HI HLN hl20 HAT HBD
  rw [hIL]
  clear hIL
  obtain ⟨n, hn⟩ : ∃ n, IL.length = n := ⟨_, rfl⟩
  have HN := Lib.hid hn
  rw [hn] at hl20 ⊢
  clear hn
  have q0 : IntKind.i64.wrap ((n : Int) - 1) = (n : Int) - 1 := IntWalk.i64_in _ (by omega)
  go_wp2
  clear q0
  go_loopw [6, 7] (fun o s wr => ∃ (k : Nat) (iv : Int), k ≤ n ∧ iv = (n : Int) - 1 - (k : Int) ∧ s = .int .i64 iv ∧ wr.ownsRow v3.heap.size 2 1 o k (((earlyL y).take k).map (Value.int .i64)) ∧ Below v3.heap.size v3 wr) (fun _ s _ => (intOf s + 1).toNat)
  case atStart => exact ⟨0, _, Nat.zero_le _, rfl, by simp, by simpa using owns_nil _ _ _ _, Below.refl _ _⟩
  case round =>
    obtain ⟨k, iv, hk, hiv, rfl, hown, hbw⟩ := hrel
    have HIV := Lib.hid hiv
    have HOWN := Lib.hid hown
    obtain ⟨oa, oc, rfl⟩ := owns_slice hown
    have HBW := Lib.hid hbw
    clear hown
    by_cases hlt : k < n
    · have hidx : n - 1 - k < IL.length := by have := HN.out; omega
      obtain ⟨ib, ioff, ic', e, hx⟩ := (HI.out.below hbw).get (n - 1 - k) hidx
      have HT := Lib.hid (show (earlyL y).take (k + 1) = (earlyL y).take k ++ [100 - IL[n - 1 - k]] by
        rw [HAT.out k (by have := HN.out; omega), List.getD_eq_getElem?_getD, HN.out, List.getElem?_eq_getElem hidx]
        rfl)
      have hbd := HBD.out _ (List.getElem_mem hidx)
      obtain ⟨x, hx0⟩ : ∃ x, IL[n - 1 - k] = x := ⟨_, rfl⟩
      rw [hx0] at hx HT hbd
      rw [HN.out] at e
      cases e
      have d1 : decide (iv ≥ 0) = true := by simp; omega
      have d2 : decide (0 ≤ iv) = true := by simp; omega
      have q1 : iv.toNat = n - 1 - k := by omega
      have q2 : iv < (n : Int) := by omega
      have q3 : (0 : Int) ≤ iv := by omega
      have q4 : IntKind.i64.wrap (iv - 1) = iv - 1 := IntWalk.i64_in _ (by omega)
      clear hiv
      have q5 : IntKind.i64.wrap (100 - x) = 100 - x := IntWalk.i64_in _ (by omega)
      have HOA := Lib.hid (owns_below HOWN.out (below1 wr (.cells #[.int .i64 (100 - x)] 2)))
      have HBA := Lib.hid (bC hbw (below1 wr (.cells #[.int .i64 (100 - x)] 2)))
      have HBN := Lib.hid (Blk.new wr (.cells #[.int .i64 (100 - x)] 2))
      have hsz := HBA.out.size
      clear hbw hx0 HOWN HBW
      go_wp2_with (at_builtin; refine wp_app64 rfl (.tmp 26) (.tmp 32) rfl _ _ _ _ rfl HOA.out _ _ _ rfl HBN.out (by omega) HBA.out (by exact hsz) ?_; intro a2 c2 w3 own3 bel3 gr3)
      go_roundw
      case rel => exact ⟨k + 1, _, by omega, by have := HIV.out; omega, rfl, by rw [HT.out, List.map_append]; exact own3, bel3⟩
      case measure => simp [intOf] <;> omega
    · obtain rfl : k = n := by omega
      have d1 : decide (iv ≥ 0) = false := by simp; omega
      have d2 : decide (0 ≤ iv) = false := by simp; omega
      clear hiv
      have HLE := Lib.hid (show (earlyL y).length = k by rw [HLN.out]; exact HN.out)
      have HR : Hid (IntsAt wr (.slice oa k oc) (earlyL y)) := Lib.hid (by
        have h := Row.of_owns HOWN.out
        rw [List.take_of_length_le (by rw [HLE.out]; exact Nat.le_refl _)] at h
        rw [← HLE.out] at h ⊢
        exact h.ints)
      clear hbw
      go_wp2
      go_ret2
      exact ⟨_, rfl, HR.out, bC HB.out HBW.out⟩
set_option maxRecDepth 100000 in
set_option maxHeartbeats 8000000 in
theorem rCheckProof_err (v : Value) (wv : Value) (y : YardD) (w : World) (hv : YardAt w v y) (hl : y.logs.length ≤ 1000000) (he : yardErr y ≠ 0) :
    Calls Try.prog 28 #[v, wv] w fun e w' => e = .returned (.tuple #[.int .i64 0, .int .i64 (yardErr y)]) ∧ Below w.heap.size w w' := by
  obtain ⟨sv, rfl, hp⟩ := hv
  obtain ⟨sa, cap, rfl⟩ := hp.slice
  have hB0 := below1 w (.cells #[.int .i64 y.load, .slice sa y.logs.length cap] 24)
  have B0 := Lib.hid (Blk.new w (.cells #[.int .i64 y.load, .slice sa y.logs.length cap] 24))
  have HB := Lib.hid hB0
  have HV := Lib.hid (show YardAt _ (.agg #[.int .i64 y.load, .slice sa y.logs.length cap]) y from ⟨_, rfl, hp.below hB0⟩)
  obtain ⟨E, hE⟩ : ∃ E, yardErr y = E := ⟨_, rfl⟩
  have d1 : (E != 0) = true := by rw [← hE]; simpa using he
  have HE := Lib.hid hE
  clear he hE
  rw [HE.out]
  clear hp hB0
  go_enter Try.func28, Try.ntmps28
  go_wp2_with fail
  generalize w.alloc (.cells #[.int .i64 y.load, .slice sa y.logs.length cap] 24) = W0 at *
  refine (rCheckYard_any (.agg #[.int .i64 y.load, .slice sa y.logs.length cap]) y _ HV.out hl).mono ?_
  rintro e v1 ⟨rfl, hb⟩
  replace HV := Lib.hid (HV.out.below hb)
  replace B0 := Lib.hid (B0.out.below hb)
  replace HB := Lib.hid (bC HB.out hb)
  clear hb
  rw [HE.out]
  have B0c0 := B0.out.cell 0
  have B0c1 := B0.out.cell 1
  simp at B0c0 B0c1
  go_wp2_with fail
  clear B0c0 B0c1
  refine (rCheckYard_any (.agg #[.int .i64 y.load, .slice sa y.logs.length cap]) y _ HV.out hl).mono ?_
  rintro e v2 ⟨rfl, hb⟩
  replace HV := Lib.hid (HV.out.below hb)
  replace B0 := Lib.hid (B0.out.below hb)
  replace HB := Lib.hid (bC HB.out hb)
  clear hb
  rw [HE.out]
  have B0c0 := B0.out.cell 0
  have B0c1 := B0.out.cell 1
  simp at B0c0 B0c1
  go_wp2
  go_ret2
  exact ⟨rfl, HB.out⟩
set_option maxRecDepth 100000 in
set_option maxHeartbeats 8000000 in
theorem rCheckProof_6 (v : Value) (wv : Value) (ws : List (Int × Int)) (y : YardD) (w : World) (hv : YardAt w v y) (hy : y.Ok) (hw : PairsAt w wv ws) (h10 : 10 < ws.length) :
    Calls Try.prog 28 #[v, wv] w fun e w' => e = .returned (.tuple #[.int .i64 0, .int .i64 6]) ∧ Below w.heap.size w w' := by
  obtain ⟨sv, rfl, hp⟩ := hv
  obtain ⟨sa, cap, rfl⟩ := hp.slice
  obtain ⟨wa, wc, rfl⟩ := hw.slice
  have hB0 := below1 w (.cells #[.int .i64 y.load, .slice sa y.logs.length cap] 24)
  have B0 := Lib.hid (Blk.new w (.cells #[.int .i64 y.load, .slice sa y.logs.length cap] 24))
  have HB := Lib.hid hB0
  have HV := Lib.hid (show YardAt _ (.agg #[.int .i64 y.load, .slice sa y.logs.length cap]) y from ⟨_, rfl, hp.below hB0⟩)
  have HW := Lib.hid (hw.below hB0)
  have HYD := Lib.hid hy
  have HE := Lib.hid (yardErr_of hy)
  have hl10 := hy.count
  clear hy
  have d1 : decide ((ws.length : Int) > 10) = true := by simp; omega
  have d2 : decide ((10 : Int) < (ws.length : Int)) = true := by simp; omega
  clear hp hB0 hw
  go_enter Try.func28, Try.ntmps28
  go_wp2_with fail
  generalize w.alloc (.cells #[.int .i64 y.load, .slice sa y.logs.length cap] 24) = W0 at *
  refine (rCheckYard_any (.agg #[.int .i64 y.load, .slice sa y.logs.length cap]) y _ HV.out (by omega)).mono ?_
  rintro e v1 ⟨rfl, hb⟩
  replace HV := Lib.hid (HV.out.below hb)
  replace HW := Lib.hid (HW.out.below hb)
  replace B0 := Lib.hid (B0.out.below hb)
  replace HB := Lib.hid (bC HB.out hb)
  clear hb
  rw [HE.out]
  have B0c0 := B0.out.cell 0
  have B0c1 := B0.out.cell 1
  simp at B0c0 B0c1
  go_wp2
  go_ret2
  exact ⟨rfl, HB.out⟩
set_option maxRecDepth 100000 in
set_option maxHeartbeats 8000000 in
theorem rCheckProof_3 (v : Value) (wv : Value) (ws : List (Int × Int)) (y : YardD) (w : World) (hv : YardAt w v y) (hy : y.Ok) (hw : PairsAt w wv ws) (h10 : ws.length ≤ 10) (hall : ws.all okWin = false) :
    Calls Try.prog 28 #[v, wv] w fun e w' => e = .returned (.tuple #[.int .i64 0, .int .i64 3]) ∧ Below w.heap.size w w' := by
  obtain ⟨sv, rfl, hp⟩ := hv
  obtain ⟨sa, cap, rfl⟩ := hp.slice
  obtain ⟨wa, wc, rfl⟩ := hw.slice
  have hB0 := below1 w (.cells #[.int .i64 y.load, .slice sa y.logs.length cap] 24)
  have B0 := Lib.hid (Blk.new w (.cells #[.int .i64 y.load, .slice sa y.logs.length cap] 24))
  have HB := Lib.hid hB0
  have HV := Lib.hid (show YardAt _ (.agg #[.int .i64 y.load, .slice sa y.logs.length cap]) y from ⟨_, rfl, hp.below hB0⟩)
  have HW := Lib.hid (hw.below hB0)
  have HYD := Lib.hid hy
  have HE := Lib.hid (yardErr_of hy)
  have hl10 := hy.count
  clear hy
  have d1 : decide ((ws.length : Int) > 10) = false := by simp; omega
  have d2 : decide ((10 : Int) < (ws.length : Int)) = false := by simp; omega
  have HALL := Lib.hid hall
  clear hall
  clear hp hB0 hw
  go_enter Try.func28, Try.ntmps28
  go_wp2_with fail
  generalize w.alloc (.cells #[.int .i64 y.load, .slice sa y.logs.length cap] 24) = W0 at *
  refine (rCheckYard_any (.agg #[.int .i64 y.load, .slice sa y.logs.length cap]) y _ HV.out (by omega)).mono ?_
  rintro e v1 ⟨rfl, hb⟩
  replace HV := Lib.hid (HV.out.below hb)
  replace HW := Lib.hid (HW.out.below hb)
  replace B0 := Lib.hid (B0.out.below hb)
  replace HB := Lib.hid (bC HB.out hb)
  clear hb
  rw [HE.out]
  have B0c0 := B0.out.cell 0
  have B0c1 := B0.out.cell 1
  simp at B0c0 B0c1
  go_wp2
  clear B0c0 B0c1
  clear d1 d2
  go_loopw [6] (fun i wr => ∃ k : Nat, k ≤ ws.length ∧ i = .int .i64 k ∧ (ws.take k).all okWin = true ∧ Below v1.heap.size v1 wr) (fun i _ => ws.length - (intOf i).toNat)
  case atStart => exact ⟨0, Nat.zero_le _, rfl, by simp, Below.refl _ _⟩
  case round =>
    obtain ⟨k, hk, rfl, hok, hB⟩ := hrel
    have HO := Lib.hid hok
    clear hok
    by_cases hlt : k < ws.length
    · obtain ⟨pb, off, rfl, hpw, hc, hd⟩ := PairsAt.get0 (HW.out.below hB) hlt
      have HNF := Lib.hid (all_false (p := okWin) hlt)
      have HSN := Lib.hid (all_snoc (p := okWin) hlt HO.out)
      obtain ⟨l1, hl1⟩ : ∃ x, ws[k].1 = x := ⟨_, rfl⟩
      obtain ⟨l2, hl2⟩ : ∃ x, ws[k].2 = x := ⟨_, rfl⟩
      have HLK := Lib.hid (show ws[k] = (l1, l2) from Prod.ext hl1 hl2)
      rw [hl1] at hc
      rw [hl2] at hd
      clear hl1 hl2
      have q3 : (k : Int) < (ws.length : Int) := by omega
      go_wp2_with fail
      refine (rIsWindow_any l1 l2 _).mono ?_
      rintro e w2 ⟨rfl, hb2⟩
      by_cases q : okWin (l1, l2) = true
      · have HSK := Lib.hid (HSN.out (by rw [HLK.out]; exact q))
        rw [q]
        clear q hc hd
        go_wp2
        go_roundw
        case rel => exact ⟨k + 1, by omega, by go_num, HSK.out, bC hB hb2⟩
        case measure => simp [intOf] <;> omega
      · rw [Bool.not_eq_true] at q
        have HSK := Lib.hid (HNF.out (by rw [HLK.out]; exact q))
        rw [q]
        clear q hc hd
        go_wp2
        go_ret2
        exact ⟨rfl, bC HB.out (bC hB hb2)⟩
    · obtain rfl : k = ws.length := by omega
      have HO2 := Lib.hid (show ws.all okWin = true by have := HO.out; rwa [List.take_length] at this)
      exact absurd HO2.out (by rw [HALL.out]; simp)
set_option maxRecDepth 100000 in
set_option maxHeartbeats 8000000 in
theorem rCheckProof_0 (v : Value) (wv : Value) (ws : List (Int × Int)) (y : YardD) (w : World) (hv : YardAt w v y) (hy : y.Ok) (hw : PairsAt w wv ws) (h10 : ws.length ≤ 10) (hall : ws.all okWin = true) (PV PE : Int) (hok : pfB 0 ws = true → PV = pfSum y ws ∧ PE = 0) (hno : pfB 0 ws = false → PV = 0 ∧ PE = 16) :
    Calls Try.prog 28 #[v, wv] w fun e w' => e = .returned (.tuple #[.int .i64 PV, .int .i64 PE]) ∧ Below w.heap.size w w' := by
  obtain ⟨sv, rfl, hp⟩ := hv
  obtain ⟨sa, cap, rfl⟩ := hp.slice
  obtain ⟨wa, wc, rfl⟩ := hw.slice
  have hB0 := below1 w (.cells #[.int .i64 y.load, .slice sa y.logs.length cap] 24)
  have B0 := Lib.hid (Blk.new w (.cells #[.int .i64 y.load, .slice sa y.logs.length cap] 24))
  have HB := Lib.hid hB0
  have HV := Lib.hid (show YardAt _ (.agg #[.int .i64 y.load, .slice sa y.logs.length cap]) y from ⟨_, rfl, hp.below hB0⟩)
  have HW := Lib.hid (hw.below hB0)
  have HYD := Lib.hid hy
  have HE := Lib.hid (yardErr_of hy)
  have hl10 := hy.count
  clear hy
  have d1 : decide ((ws.length : Int) > 10) = false := by simp; omega
  have d2 : decide ((10 : Int) < (ws.length : Int)) = false := by simp; omega
  have HALL := Lib.hid hall
  have HOK := Lib.hid hok
  have HNO := Lib.hid hno
  clear hall hok hno
  clear hp hB0 hw
  go_enter Try.func28, Try.ntmps28
  go_wp2_with fail
  generalize w.alloc (.cells #[.int .i64 y.load, .slice sa y.logs.length cap] 24) = W0 at *
  refine (rCheckYard_any (.agg #[.int .i64 y.load, .slice sa y.logs.length cap]) y _ HV.out (by omega)).mono ?_
  rintro e v1 ⟨rfl, hb⟩
  replace HV := Lib.hid (HV.out.below hb)
  replace HW := Lib.hid (HW.out.below hb)
  replace B0 := Lib.hid (B0.out.below hb)
  replace HB := Lib.hid (bC HB.out hb)
  clear hb
  rw [HE.out]
  have B0c0 := B0.out.cell 0
  have B0c1 := B0.out.cell 1
  simp at B0c0 B0c1
  go_wp2
  clear B0c0 B0c1
  clear d1 d2
  go_loopw [6] (fun i wr => ∃ k : Nat, k ≤ ws.length ∧ i = .int .i64 k ∧ (ws.take k).all okWin = true ∧ Below v1.heap.size v1 wr) (fun i _ => ws.length - (intOf i).toNat)
  case atStart => exact ⟨0, Nat.zero_le _, rfl, by simp, Below.refl _ _⟩
  case round =>
    obtain ⟨k, hk, rfl, hok, hB⟩ := hrel
    have HO := Lib.hid hok
    clear hok
    by_cases hlt : k < ws.length
    · obtain ⟨pb, off, rfl, hpw, hc, hd⟩ := PairsAt.get0 (HW.out.below hB) hlt
      have HNF := Lib.hid (all_false (p := okWin) hlt)
      have HSN := Lib.hid (all_snoc (p := okWin) hlt HO.out)
      obtain ⟨l1, hl1⟩ : ∃ x, ws[k].1 = x := ⟨_, rfl⟩
      obtain ⟨l2, hl2⟩ : ∃ x, ws[k].2 = x := ⟨_, rfl⟩
      have HLK := Lib.hid (show ws[k] = (l1, l2) from Prod.ext hl1 hl2)
      rw [hl1] at hc
      rw [hl2] at hd
      clear hl1 hl2
      have q3 : (k : Int) < (ws.length : Int) := by omega
      go_wp2_with fail
      refine (rIsWindow_any l1 l2 _).mono ?_
      rintro e w2 ⟨rfl, hb2⟩
      by_cases q : okWin (l1, l2) = true
      · have HSK := Lib.hid (HSN.out (by rw [HLK.out]; exact q))
        rw [q]
        clear q hc hd
        go_wp2
        go_roundw
        case rel => exact ⟨k + 1, by omega, by go_num, HSK.out, bC hB hb2⟩
        case measure => simp [intOf] <;> omega
      · rw [Bool.not_eq_true] at q
        have HSK := Lib.hid (HNF.out (by rw [HLK.out]; exact q))
        exact absurd HSK.out (by rw [HALL.out]; simp)
    · obtain rfl : k = ws.length := by omega
      have HO2 := Lib.hid (show ws.all okWin = true by have := HO.out; rwa [List.take_length] at this)
      clear HO
      generalize wr = w4 at *
      have HB4 := Lib.hid (bC HB.out hB)
      have HW4 := Lib.hid (HW.out.below hB)
      have HV4 := Lib.hid (HV.out.below hB)
      have B4 := Lib.hid (B0.out.below hB)
      clear hB HB HW HV B0
      go_wp2
      go_loopw [7, 8] (fun s i wr => ∃ k : Nat, k ≤ ws.length ∧ i = .int .i64 k ∧ s = .int .i64 (pfSum y (ws.take k)) ∧ pfB 0 ws = pfB (nxt ws k) (ws.drop k) ∧ Below w4.heap.size w4 wr) (fun _ i _ => ws.length - (intOf i).toNat)
      case atStart => exact ⟨0, Nat.zero_le _, rfl, rfl, rfl, Below.refl _ _⟩
      case round =>
        obtain ⟨k, hk, rfl, rfl, hpf, hB⟩ := hrel
        have HPF := Lib.hid hpf
        have hsb := pfSum_bd HYD.out (ws.take k)
        rw [List.length_take, Nat.min_eq_left hk] at hsb
        clear hpf
        by_cases hlt : k < ws.length
        · obtain ⟨pb, off, hwa, hpw, hc, hd⟩ := PairsAt.get0 (HW4.out.below hB) hlt
          subst hwa
          have HD := Lib.hid (pfB_drop (nx := nxt ws k) hlt)
          have HT := Lib.hid (pfSum_take (y := y) hlt)
          have HX := Lib.hid (nxt_succ hlt)
          have hwn := (okWin_iff ws[k].1 ws[k].2).1 (List.all_eq_true.1 HALL.out _ (List.getElem_mem hlt))
          have hnd := need_bd HYD.out ws[k].1 ws[k].2
          obtain ⟨sn, hsn⟩ : ∃ x, pfSum y (ws.take k) = x := ⟨_, rfl⟩
          obtain ⟨nd, hnd0⟩ : ∃ x, need y ws[k].1 ws[k].2 = x := ⟨_, rfl⟩
          obtain ⟨lo, hlo⟩ : ∃ x, ws[k].1 = x := ⟨_, rfl⟩
          obtain ⟨hi, hhi⟩ : ∃ x, ws[k].2 = x := ⟨_, rfl⟩
          rw [hnd0] at hnd
          rw [hlo, hhi] at hnd0 hwn
          rw [hlo] at hc
          rw [hhi] at hd
          rw [hsn] at hsb ⊢
          have HN := Lib.hid (And.intro hsn (And.intro hnd0 (And.intro hlo hhi)))
          obtain ⟨hs0, hs1⟩ := hsb
          obtain ⟨hn0, hn1⟩ := hnd
          obtain ⟨hw0, hw1, hw2⟩ := hwn
          have ww : IntKind.i64.wrap (sn + nd) = sn + nd := IntWalk.i64_in _ (by omega)
          have q3 : (k : Int) < (ws.length : Int) := by omega
          clear hsn hnd0 hlo hhi
          by_cases hk0 : 0 < k
          · obtain ⟨pb2, off2, e, hpw2, hc2, hd2⟩ := PairsAt.get0 (HW4.out.below hB) (k := k - 1) (by omega)
            obtain ⟨rfl, rfl⟩ : pb = pb2 ∧ off = off2 := by simpa using e
            obtain ⟨ph, hph⟩ : ∃ x, ws[k - 1].2 = x := ⟨_, rfl⟩
            rw [hph] at hd2
            have HNX := Lib.hid (show nxt ws k = ph + 1 by
              unfold nxt
              rw [if_neg (by omega), List.getD_eq_getElem?_getD, List.getElem?_eq_getElem (by omega), ← hph]; rfl)
            have e1 : decide ((k : Int) > 0) = true := by simp; omega
            have e2 : decide ((0 : Int) < (k : Int)) = true := by simp; omega
            have e3 : IntKind.i64.wrap ((k : Int) - 1) = (k : Int) - 1 := IntWalk.i64_in _ (by omega)
            have e4 : ((k : Int) - 1).toNat = k - 1 := by omega
            have e5 : (0 : Int) ≤ (k : Int) - 1 := by omega
            have e6 : (k : Int) - 1 < (ws.length : Int) := by omega
            clear hph e hc2
            by_cases q : lo ≤ ph
            · have q1 : decide (lo ≤ ph) = true := by simpa using q
              have HF := Lib.hid (HNO.out (by rw [HPF.out, HD.out, HNX.out, HN.out.2.2.1, decide_eq_false (by omega)]; rfl))
              obtain ⟨rfl, rfl⟩ := HF.out
              clear q HF
              go_wp2_with fail
              go_quiet (fail)
              clear e1 e2 e3 e4 e5 e6 q1 hc hd hd2
              go_wp2
              go_ret2
              exact ⟨rfl, below_drewN (bC HB4.out hB) _⟩
            · have q1 : decide (lo ≤ ph) = false := by simpa using q
              have HG := Lib.hid (show pfB (nxt ws k) (ws.drop k) = pfB (hi + 1) (ws.drop (k + 1)) by
                rw [HD.out, HNX.out, HN.out.2.2.1, HN.out.2.2.2, decide_eq_true (show ph + 1 ≤ lo by omega), Bool.true_and])
              clear q
              go_wp2_with fail
              go_quiet (fail)
              clear e1 e2 e3 e4 e5 e6 q1 hd2
              go_wp2_with fail
              rename_i nq
              have hq := below_drewN (Below.refl wr.heap.size wr) nq
              replace hc := cellB hc hq
              replace hd := cellB hd hq
              have hB5 := bC hB hq
              generalize wr.drewN nq = w5 at *
              have x0 := (B4.out.below hB5).cell 0
              have x1 := (B4.out.below hB5).cell 1
              simp at x0 x1
              have HV5 : Hid (YardAt w5 (.agg #[.int .i64 y.load, .slice sa y.logs.length cap]) y) := Lib.hid (HV4.out.below hB5)
              clear hq hB
              have y0 : w5.drew.cell? ⟨w.heap.size, 0, none⟩ = some (.int .i64 y.load) := x0
              have y1 : w5.drew.cell? ⟨w.heap.size, 1, none⟩ = some (.slice sa y.logs.length cap) := x1
              have y2 : w5.drew.cell? ⟨pb, off + k * 2, none⟩ = some (.int .i64 lo) := hc
              have y3 : w5.drew.cell? ⟨pb, off + k * 2 + 1, none⟩ = some (.int .i64 hi) := hd
              have bel : Below w4.heap.size w4 w5.drew := hB5.drew
              have hvw : YardAt w5.drew (.agg #[.int .i64 y.load, .slice sa y.logs.length cap]) y := HV5.out.below ((Below.refl _ _).drew)
              clear hB5 x0 x1 hc hd HV5
              refine (wp_region_T 7 (fun W' => W'.cell? ⟨w.heap.size, 0, none⟩ = some (.int .i64 y.load) ∧ W'.cell? ⟨w.heap.size, 1, none⟩ = some (.slice sa y.logs.length cap) ∧ W'.cell? ⟨pb, off + k * 2, none⟩ = some (.int .i64 lo) ∧ W'.cell? ⟨pb, off + k * 2 + 1, none⟩ = some (.int .i64 hi)) (by kernel_rfl) (by kernel_rfl) ⟨y0, y1, y2, y3⟩ ?_)
              intro inv hS
              clear y0 y1 y2 y3
              generalize w5.drew = V0 at *
              refine wpAnyT_take inv (by kernel_rfl) (by omega) (i := 0) (v := .int .i64 sn) rfl (by kernel_rfl) (by kernel_rfl) (fun _ _ _ h => h) (Or.inl ⟨by kernel_rfl, ?_⟩) (by assumption) ?_
              · rintro W' ⟨q0, q1, q2, q3⟩
                go_simp
              intro inv2
              clear inv
              have inv := inv2
              clear inv2
              simp only [Act.put, List.setIfInBounds_toArray]
              refine wpAnyT_take inv (by kernel_rfl) (by omega) (i := 1) (v := .agg #[.int .i64 y.load, .slice sa y.logs.length cap]) rfl (by kernel_rfl) (by kernel_rfl) (fun _ _ _ h => h) (Or.inl ⟨by kernel_rfl, ?_⟩) (by assumption) ?_
              · rintro W' ⟨q0, q1, q2, q3⟩
                go_simp
              intro inv2
              clear inv
              have inv := inv2
              clear inv2
              simp only [Act.put]
              refine wpAnyT_take inv (by kernel_rfl) (by omega) (i := 2) (v := .slice (some ⟨pb, off, none⟩) ws.length wc) rfl (by kernel_rfl) (by kernel_rfl) (fun _ _ _ h => h) (Or.inl ⟨by kernel_rfl, ?_⟩) (by assumption) ?_
              · rintro W' ⟨q0, q1, q2, q3⟩
                go_simp
              intro inv2
              clear inv
              have inv := inv2
              clear inv2
              simp only [Act.put]
              refine wpAnyT_take inv (by kernel_rfl) (by omega) (i := 3) (v := .int .i64 (k : Int)) rfl (by kernel_rfl) (by kernel_rfl) (fun _ _ _ h => h) (Or.inl ⟨by kernel_rfl, ?_⟩) (by assumption) ?_
              · rintro W' ⟨q0, q1, q2, q3⟩
                go_simp
              intro inv2
              clear inv
              have inv := inv2
              clear inv2
              simp only [Act.put]
              refine wpAnyT_take inv (by kernel_rfl) (by omega) (i := 4) (v := .pointer (some ⟨pb, off + k * 2, none⟩)) rfl (by kernel_rfl) (by kernel_rfl) (fun _ _ _ h => h) (Or.inl ⟨by kernel_rfl, ?_⟩) (by assumption) ?_
              · rintro W' ⟨q0, q1, q2, q3⟩
                go_simp
              intro inv2
              clear inv
              have inv := inv2
              clear inv2
              simp only [Act.put]
              refine wpAnyT_take inv (by kernel_rfl) (by omega) (i := 5) (v := .agg #[.int .i64 lo, .int .i64 hi]) rfl (by kernel_rfl) (by kernel_rfl) (fun _ _ _ h => h) (Or.inl ⟨by kernel_rfl, ?_⟩) (by assumption) ?_
              · rintro W' ⟨q0, q1, q2, q3⟩
                go_simp
              intro inv2
              clear inv
              have inv := inv2
              clear inv2
              simp only [Act.put]
              refine wpAnyT_ready [6] (by kernel_rfl) (by simp) ?_
              refine AllReadyT.cons rfl (fun K hK => ?_) AllReadyT.nil
              go_simp
              refine (rNeedOf_any _ y lo hi _ hvw HYD.out).mono ?_
              rintro e z1 ⟨rfl, hb⟩
              rw [HN.out.2.1]
              refine hK.out _ _ (fun _ => ⟨cellB hS.1 hb, cellB hS.2.1 hb, cellB hS.2.2.1 hb, cellB hS.2.2.2 hb⟩) (fun _ => ?_)
              replace inv := HeadM.step inv 6 (by kernel_rfl) (by omega)
              clear hK K
              try simp only [Act.put]
              replace hS := And.intro (cellB hS.1 hb) (And.intro (cellB hS.2.1 hb) (And.intro (cellB hS.2.2.1 hb) (cellB hS.2.2.2 hb)))
              replace bel := bel.trans (hb.mono (by have := bel.size; omega))
              replace hvw := hvw.below hb
              clear hb
              clear inv hS
              refine wpAnyT_chain (fuel := 2) rfl (by kernel_rfl) ?_
              simp only [List.drop_succ_cons, List.drop_zero]
              go_wp2
              go_roundw
              case rel => exact ⟨k + 1, by omega, by go_num, by rw [HT.out, HN.out.1, HN.out.2.2.1, HN.out.2.2.2, HN.out.2.1], by rw [HX.out, HPF.out, HG.out, HN.out.2.2.2], bel⟩
              case measure => simp [intOf] <;> omega
          · have e1 : decide ((k : Int) > 0) = false := by simp; omega
            have e2 : decide ((0 : Int) < (k : Int)) = false := by simp; omega
            have HNX := Lib.hid (show nxt ws k = 0 by unfold nxt; rw [if_pos (by omega)])
            have HG := Lib.hid (show pfB (nxt ws k) (ws.drop k) = pfB (hi + 1) (ws.drop (k + 1)) by
              rw [HD.out, HNX.out, HN.out.2.2.1, HN.out.2.2.2, decide_eq_true (show 0 ≤ lo by omega), Bool.true_and])
            go_wp2_with fail
            go_quiet (fail)
            clear e1 e2
            go_wp2_with fail
            rename_i nq
            have hq := below_drewN (Below.refl wr.heap.size wr) nq
            replace hc := cellB hc hq
            replace hd := cellB hd hq
            have hB5 := bC hB hq
            generalize wr.drewN nq = w5 at *
            have x0 := (B4.out.below hB5).cell 0
            have x1 := (B4.out.below hB5).cell 1
            simp at x0 x1
            have HV5 : Hid (YardAt w5 (.agg #[.int .i64 y.load, .slice sa y.logs.length cap]) y) := Lib.hid (HV4.out.below hB5)
            clear hq hB
            have y0 : w5.drew.cell? ⟨w.heap.size, 0, none⟩ = some (.int .i64 y.load) := x0
            have y1 : w5.drew.cell? ⟨w.heap.size, 1, none⟩ = some (.slice sa y.logs.length cap) := x1
            have y2 : w5.drew.cell? ⟨pb, off + k * 2, none⟩ = some (.int .i64 lo) := hc
            have y3 : w5.drew.cell? ⟨pb, off + k * 2 + 1, none⟩ = some (.int .i64 hi) := hd
            have bel : Below w4.heap.size w4 w5.drew := hB5.drew
            have hvw : YardAt w5.drew (.agg #[.int .i64 y.load, .slice sa y.logs.length cap]) y := HV5.out.below ((Below.refl _ _).drew)
            clear hB5 x0 x1 hc hd HV5
            refine (wp_region_T 7 (fun W' => W'.cell? ⟨w.heap.size, 0, none⟩ = some (.int .i64 y.load) ∧ W'.cell? ⟨w.heap.size, 1, none⟩ = some (.slice sa y.logs.length cap) ∧ W'.cell? ⟨pb, off + k * 2, none⟩ = some (.int .i64 lo) ∧ W'.cell? ⟨pb, off + k * 2 + 1, none⟩ = some (.int .i64 hi)) (by kernel_rfl) (by kernel_rfl) ⟨y0, y1, y2, y3⟩ ?_)
            intro inv hS
            clear y0 y1 y2 y3
            generalize w5.drew = V0 at *
            refine wpAnyT_take inv (by kernel_rfl) (by omega) (i := 0) (v := .int .i64 sn) rfl (by kernel_rfl) (by kernel_rfl) (fun _ _ _ h => h) (Or.inl ⟨by kernel_rfl, ?_⟩) (by assumption) ?_
            · rintro W' ⟨q0, q1, q2, q3⟩
              go_simp
            intro inv2
            clear inv
            have inv := inv2
            clear inv2
            simp only [Act.put, List.setIfInBounds_toArray]
            refine wpAnyT_take inv (by kernel_rfl) (by omega) (i := 1) (v := .agg #[.int .i64 y.load, .slice sa y.logs.length cap]) rfl (by kernel_rfl) (by kernel_rfl) (fun _ _ _ h => h) (Or.inl ⟨by kernel_rfl, ?_⟩) (by assumption) ?_
            · rintro W' ⟨q0, q1, q2, q3⟩
              go_simp
            intro inv2
            clear inv
            have inv := inv2
            clear inv2
            simp only [Act.put]
            refine wpAnyT_take inv (by kernel_rfl) (by omega) (i := 2) (v := .slice (some ⟨pb, off, none⟩) ws.length wc) rfl (by kernel_rfl) (by kernel_rfl) (fun _ _ _ h => h) (Or.inl ⟨by kernel_rfl, ?_⟩) (by assumption) ?_
            · rintro W' ⟨q0, q1, q2, q3⟩
              go_simp
            intro inv2
            clear inv
            have inv := inv2
            clear inv2
            simp only [Act.put]
            refine wpAnyT_take inv (by kernel_rfl) (by omega) (i := 3) (v := .int .i64 (k : Int)) rfl (by kernel_rfl) (by kernel_rfl) (fun _ _ _ h => h) (Or.inl ⟨by kernel_rfl, ?_⟩) (by assumption) ?_
            · rintro W' ⟨q0, q1, q2, q3⟩
              go_simp
            intro inv2
            clear inv
            have inv := inv2
            clear inv2
            simp only [Act.put]
            refine wpAnyT_take inv (by kernel_rfl) (by omega) (i := 4) (v := .pointer (some ⟨pb, off + k * 2, none⟩)) rfl (by kernel_rfl) (by kernel_rfl) (fun _ _ _ h => h) (Or.inl ⟨by kernel_rfl, ?_⟩) (by assumption) ?_
            · rintro W' ⟨q0, q1, q2, q3⟩
              go_simp
            intro inv2
            clear inv
            have inv := inv2
            clear inv2
            simp only [Act.put]
            refine wpAnyT_take inv (by kernel_rfl) (by omega) (i := 5) (v := .agg #[.int .i64 lo, .int .i64 hi]) rfl (by kernel_rfl) (by kernel_rfl) (fun _ _ _ h => h) (Or.inl ⟨by kernel_rfl, ?_⟩) (by assumption) ?_
            · rintro W' ⟨q0, q1, q2, q3⟩
              go_simp
            intro inv2
            clear inv
            have inv := inv2
            clear inv2
            simp only [Act.put]
            refine wpAnyT_ready [6] (by kernel_rfl) (by simp) ?_
            refine AllReadyT.cons rfl (fun K hK => ?_) AllReadyT.nil
            go_simp
            refine (rNeedOf_any _ y lo hi _ hvw HYD.out).mono ?_
            rintro e z1 ⟨rfl, hb⟩
            rw [HN.out.2.1]
            refine hK.out _ _ (fun _ => ⟨cellB hS.1 hb, cellB hS.2.1 hb, cellB hS.2.2.1 hb, cellB hS.2.2.2 hb⟩) (fun _ => ?_)
            replace inv := HeadM.step inv 6 (by kernel_rfl) (by omega)
            clear hK K
            try simp only [Act.put]
            replace hS := And.intro (cellB hS.1 hb) (And.intro (cellB hS.2.1 hb) (And.intro (cellB hS.2.2.1 hb) (cellB hS.2.2.2 hb)))
            replace bel := bel.trans (hb.mono (by have := bel.size; omega))
            replace hvw := hvw.below hb
            clear hb
            clear inv hS
            refine wpAnyT_chain (fuel := 2) rfl (by kernel_rfl) ?_
            simp only [List.drop_succ_cons, List.drop_zero]
            go_wp2
            go_roundw
            case rel => exact ⟨k + 1, by omega, by go_num, by rw [HT.out, HN.out.1, HN.out.2.2.1, HN.out.2.2.2, HN.out.2.1], by rw [HX.out, HPF.out, HG.out, HN.out.2.2.2], bel⟩
            case measure => simp [intOf] <;> omega
        · obtain rfl : k = ws.length := by omega
          have HF := Lib.hid (HOK.out (by rw [HPF.out, List.drop_length]; rfl))
          obtain ⟨hf1, rfl⟩ := HF.out
          have HF1 := Lib.hid hf1
          rw [List.take_length] at hsb
          rw [List.take_length, ← HF1.out]
          clear hf1 HF
          go_wp2
          go_ret2
          exact ⟨rfl, bC HB4.out hB⟩
/-- What the reference answers for a proof, for a valid yard. -/
theorem rCheckProof_ok (v wv : Value) (y : YardD) (ws : List (Int × Int)) (w : World) (hv : YardAt w v y) (hy : y.Ok) (hw : PairsAt w wv ws) :
    Calls Try.prog 28 #[v, wv] w fun e w' => e = .returned (.tuple #[.int .i64 (proofV y ws), .int .i64 (proofErr y ws)]) ∧ Below w.heap.size w w' := by
  have he := proofErr_ok hy ws
  by_cases h1 : 10 < ws.length
  · have h2 : proofErr y ws = 6 := by rw [he]; unfold proofErr0; rw [if_pos h1]
    rw [proofV_no (by rw [h2]; decide), h2]
    exact rCheckProof_6 v wv ws y w hv hy hw h1
  · cases hall : ws.all okWin with
    | false =>
      have h2 : proofErr y ws = 3 := by rw [he]; unfold proofErr0; rw [if_neg h1, hall, if_neg (by simp)]
      rw [proofV_no (by rw [h2]; decide), h2]
      exact rCheckProof_3 v wv ws y w hv hy hw (by omega) hall
    | true =>
      have h2 : proofErr y ws = if pfB 0 ws = true then 0 else 16 := by rw [he]; unfold proofErr0; rw [if_neg h1, hall, if_pos rfl]
      refine rCheckProof_0 v wv ws y w hv hy hw (by omega) hall _ _ (fun h => ?_) (fun h => ?_)
      · rw [h, if_pos rfl] at h2
        exact ⟨by unfold proofV; rw [if_pos h2], h2⟩
      · rw [h, if_neg (by simp)] at h2
        exact ⟨proofV_no (by rw [h2]; decide), h2⟩
end Go.Proofs.Ytjbeoakikdkdaaa
