import Derived.Test.YtnkeikhkafbokaaRf
namespace Go.Proofs.Ytnkeikhkafbokaa
open Go.RowKit Go.Dag Go.Sort Go.Shelf
attribute [local go_sem] Oper.semAt_some

/-! ## A ribbon with one fault more, and without one -/
theorem more_take (r : RibD) (u : Int) (k : Nat) : ((((List.range (k + 1)).map fun (n : Nat) => (n : Int)).filter fun x => decide (x = u) || isF r x)) = ((((List.range k).map fun (n : Nat) => (n : Int)).filter fun x => decide (x = u) || isF r x)) ++ (if decide ((k : Int) = u) || isF r (k : Int) then [(k : Int)] else []) := by
  rw [List.range_succ, List.map_append, List.filter_append]
  congr 1
  simp only [List.map_cons, List.map_nil, List.filter_cons, List.filter_nil]
def mfl (r : RibD) (u : Int) (k : Nat) : List Int := ((List.range k).map fun (n : Nat) => (n : Int)).filter fun x => decide (x = u) || isF r x
theorem mfl_yes {r : RibD} {u : Int} {k : Nat} (h : (k : Int) = u ∨ isF r (k : Int) = true) : mfl r u (k + 1) = mfl r u k ++ [(k : Int)] := by
  unfold mfl
  rw [more_take, if_pos (by simpa using h)]
theorem mfl_no {r : RibD} {u : Int} {k : Nat} (h : ¬ ((k : Int) = u ∨ isF r (k : Int) = true)) : mfl r u (k + 1) = mfl r u k := by
  unfold mfl
  rw [more_take, if_neg (by simpa using h), List.append_nil]
theorem mfl_len (r : RibD) (u : Int) (k : Nat) : (mfl r u k).length ≤ k := by
  unfold mfl
  have := List.length_filter_le (fun x => decide (x = u) || isF r x) ((List.range k).map fun (n : Nat) => (n : Int))
  rw [List.length_map, List.length_range] at this
  exact this
theorem isF_bare (r : RibD) (u : Int) : isF (bare r) u = false := by simp [isF, bare]
theorem bare_nil {r : RibD} (h : r.fs.length = 0) : bare r = r := by
  obtain ⟨len, fs⟩ := r
  obtain rfl := List.length_eq_zero_iff.1 h
  rfl
theorem fault_facts {r : RibD} {ks : List KindD} (hr : RibOk r) (hks : KindsOk ks) (u : Int) :
    dn (tabOf (moreF r u) ks) 0 ≤ dn (tabOf r ks) 0 ∧ dn (tabOf r ks) 0 ≤ dn (tabOf (bare r) ks) 0 ∧ (∀ i, dn (tabOf (without r i) ks) 0 ≤ dn (tabOf (bare r) ks) 0) ∧ (∀ i, dn (tabOf r ks) 0 ≤ dn (tabOf (without r i) ks) 0) ∧
    (∀ i, 0 ≤ dn (tabOf (without r i) ks) 0 ∧ dn (tabOf (without r i) ks) 0 ≤ 24000) ∧ 0 ≤ dn (tabOf r ks) 0 ∧ (r.fs.length = 0 → dn (tabOf (bare r) ks) 0 = dn (tabOf r ks) 0) := by
  have h0 : 0 ≤ r.len := by have := hr.l1; omega
  have hb : ∀ r' : RibD, ∀ u : Int, isF (bare r) u = true → isF r' u = true := fun r' u h => by rw [isF_bare] at h; cases h
  exact ⟨fewer_faults (r := r) (r' := moreF r u) h0 hks rfl (fun _ h => isF_more hr h) 0, fewer_faults (r := bare r) (r' := r) h0 hks rfl (hb r) 0, fun i => fewer_faults (r := bare r) (r' := without r i) h0 hks rfl (hb _) 0,
    fun i => fewer_faults (r := without r i) (r' := r) h0 hks rfl (fun _ h => without_sub h) 0, fun i => tabOf_dn (r := without r i) h0 hr.l2 hks 0, (tabOf_dn h0 hr.l2 hks 0).1, fun h => by rw [bare_nil h]⟩
/-- A ribbon whose faults are appended one by one. -/
def MoreSt (v : World) (len : Int) (fl : List Int) (wr : World) : Prop :=
  (∃ ov, Blk wr v.heap.size (.cells #[.int .i64 len, ov] 24) ∧ wr.ownsRow (v.heap.size + 1) 3 1 ov fl.length (fl.map (Value.int .i64))) ∧ Below v.heap.size v wr ∧ v.heap.size + 1 ≤ wr.heap.size
theorem MoreSt.start (v : World) (len : Int) : MoreSt v len [] (v.alloc (.cells #[.int .i64 len, .slice none 0 0] 24)) :=
  ⟨⟨_, Blk.new _ _, rfl, .inl ⟨rfl, rfl⟩⟩, below1 _ _, by simp⟩
theorem MoreSt.after {v : World} {len : Int} {fl : List Int} {wr w' : World} (h : MoreSt v len fl wr) (hb : Below wr.heap.size wr w') : MoreSt v len fl w' := by
  obtain ⟨⟨ov, h1, h2⟩, h3, h4⟩ := h
  have := hb.size
  exact ⟨⟨ov, h1.below hb, owns_below h2 hb⟩, h3.trans (hb.mono h3.size), by omega⟩
set_option maxRecDepth 100000 in
set_option maxHeartbeats 16000000 in
theorem ClipFaults_any (v kv : Value) (un wn : Int) (r : RibD) (ks : List KindD) (w : World) (hv : RibAt w v r) (hk : KindsAt w kv ks) (hun : 0 ≤ un ∧ un ≤ 255) (hwn : 0 ≤ wn ∧ wn ≤ 255) :
    Calls Try.prog 11 #[v, kv, .int .u8 un, .int .u8 wn] w fun e w' => e = .returned (.bool true) ∧ Below w.heap.size w w' := by
  obtain ⟨sv, rfl, hi⟩ := hv
  obtain ⟨sa, cap, rfl⟩ := hi.slice
  obtain ⟨ka, kcap, rfl⟩ := hk.slice
  have hB0 := below1 w (.cells #[.int .i64 r.len, .slice sa r.fs.length cap] 24)
  have HB := Lib.hid hB0
  have B0 := Lib.hid (Blk.new w (.cells #[.int .i64 r.len, .slice sa r.fs.length cap] 24))
  have HV := Lib.hid (show RibAt _ (.agg #[.int .i64 r.len, .slice sa r.fs.length cap]) r from ⟨_, rfl, hi.below hB0⟩)
  have HK := Lib.hid (hk.below hB0)
  clear hi hk hB0
  obtain ⟨un, rfl⟩ : ∃ n : Nat, un = (n : Int) := ⟨un.toNat, by omega⟩
  obtain ⟨wn, rfl⟩ : ∃ n : Nat, wn = (n : Int) := ⟨wn.toNat, by omega⟩
  by_cases hok : RibOk r ∧ KindsOk ks
  case neg =>
    have HN := Lib.hid hok
    clear hok hun hwn
    go_enter Try.func11, Try.ntmps11
    go_wp2_with fail
    generalize w.alloc (.cells #[.int .i64 r.len, .slice sa r.fs.length cap] 24) = W0 at *
    refine (fine_no (.agg #[.int .i64 r.len, .slice sa r.fs.length cap]) (.slice ka ks.length kcap) r ks _ HV.out HK.out HN.out).mono ?_
    rintro e v1 ⟨rfl, hb⟩
    replace HV := Lib.hid (HV.out.below hb)
    replace HK := Lib.hid (HK.out.below hb)
    replace B0 := Lib.hid (B0.out.below hb)
    replace HB := Lib.hid (bC HB.out hb)
    clear hb
    have B0c0 := B0.out.cell 0
    have B0c1 := B0.out.cell 1
    simp at B0c0 B0c1
    go_wp2_with fail
    clear B0c0 B0c1
    refine (Works_any _).mono ?_
    rintro e v2 ⟨rfl, hb⟩
    replace HV := Lib.hid (HV.out.below hb)
    replace HK := Lib.hid (HK.out.below hb)
    replace B0 := Lib.hid (B0.out.below hb)
    replace HB := Lib.hid (bC HB.out hb)
    clear hb
    go_wp2
    go_ret
    exact ⟨rfl, HB.out⟩
  have HR := Lib.hid hok
  obtain ⟨i0, hif, hz0, hz1, hz2⟩ := info_parts infoI
  have HIF := Lib.hid hif
  have HZ0 := Lib.hid hz0
  have HZ1 := Lib.hid hz1
  have HZ2 := Lib.hid hz2
  have hfc := hok.1.count
  have hk6 := hok.2.1.2
  have hL24 := hok.1.l2
  have hL1 := hok.1.l1
  obtain ⟨u, hu⟩ : ∃ u, (wrap64 (un : Int)).tmod r.len = u := ⟨_, rfl⟩
  obtain ⟨D, hD⟩ : ∃ D, dn (tabOf r ks) 0 = D := ⟨_, rfl⟩
  obtain ⟨X, hX⟩ : ∃ X, dn (tabOf (moreF r u) ks) 0 = X := ⟨_, rfl⟩
  obtain ⟨Bv, hBv⟩ : ∃ Bv, dn (tabOf (bare r) ks) 0 = Bv := ⟨_, rfl⟩
  have hff := fault_facts hok.1 hok.2 u
  rw [hX, hD, hBv] at hff
  obtain ⟨hXD, hDB, hYB, hDY, hY0, hD0, hE0⟩ := hff
  have HYB := Lib.hid hYB
  have HDY := Lib.hid hDY
  have HY0 := Lib.hid hY0
  have HEQ0 := Lib.hid hE0
  have HMO := Lib.hid (more_ok hok.1 u)
  have HBO := Lib.hid (bare_ok hok.1)
  have HWO := Lib.hid (fun i => without_ok hok.1 i)
  have HU := Lib.hid hu
  have HD := Lib.hid hD
  have HX := Lib.hid hX
  have HBV := Lib.hid hBv
  have x1 : decide (X > D) = false := by simp; omega
  have x2 : decide (D < X) = false := by simp; omega
  have x3 : decide (Bv < D) = false := by simp; omega
  have hw0 : wn ≤ 255 := by omega
  clear hok hun hwn hif hz0 hz1 hz2 hu hD hX hBv hYB hDY hY0 hE0
  go_enter Try.func11, Try.ntmps11
  go_wp2_with fail
  generalize w.alloc (.cells #[.int .i64 r.len, .slice sa r.fs.length cap] 24) = W0 at *
  refine (fine_yes (.agg #[.int .i64 r.len, .slice sa r.fs.length cap]) (.slice ka ks.length kcap) r ks _ HV.out HK.out HR.out.1 HR.out.2).mono ?_
  rintro e v1 ⟨rfl, hb⟩
  replace HV := Lib.hid (HV.out.below hb)
  replace HK := Lib.hid (HK.out.below hb)
  replace B0 := Lib.hid (B0.out.below hb)
  replace HB := Lib.hid (bC HB.out hb)
  clear hb
  have B0c0 := B0.out.cell 0
  have B0c1 := B0.out.cell 1
  simp at B0c0 B0c1
  go_wp2_with fail
  clear B0c0 B0c1
  rw [HU.out]
  have HM0 := Lib.hid (MoreSt.start v1 r.len)
  generalize v1.alloc (.cells #[.int .i64 r.len, .slice none 0 0] 24) = W1 at *
  go_loopw [11] (fun s wr => ∃ k : Nat, k ≤ r.len.toNat ∧ s = .int .i64 k ∧ MoreSt v1 r.len (mfl r u k) wr) (fun s _ => r.len.toNat - (intOf s).toNat)
  case atStart => exact ⟨0, Nat.zero_le _, rfl, HM0.out⟩
  case round =>
    clear HM0
    obtain ⟨k, hk, rfl, hst⟩ := hrel
    have HST := Lib.hid hst
    obtain ⟨⟨ov, hO, hown⟩, hbw, hsz⟩ := hst
    obtain ⟨oa, on, oc, rfl⟩ := (Row.of_owns hown).slice
    have HO := Lib.hid hO
    have HOWN := Lib.hid hown
    have HBW := Lib.hid hbw
    have B0w := B0.out.below hbw
    have c0 := B0w.cell 0
    have c1 := B0w.cell 1
    simp at c0 c1
    clear hO hown hbw
    by_cases hlt : (k : Int) < r.len
    · by_cases p : (k : Int) = u
      · have d1 : ((k : Int) == u) = true := by simpa using p
        have HFL := Lib.hid (mfl_yes (r := r) (Or.inl p))
        clear p
        have hA := below1 wr (.cells #[.int .i64 (k : Int)] 3)
        have hAs := hA.size
        have HNEW := Lib.hid (new_cells wr [.int .i64 (k : Int)] 3)
        have ownA := Lib.hid (owns_below HOWN.out hA)
        have BO1 := Lib.hid (HO.out.below hA)
        have belA := Lib.hid (HBW.out.trans (hA.mono HBW.out.size))
        have hszA : v1.heap.size + 1 ≤ (wr.alloc (.cells #[.int .i64 (k : Int)] 3)).heap.size := by simp; omega
        have o1 := HO.out.cell 1
        simp at o1
        have FL := mfl_len r u k
        clear hA
        go_wp2_with (at_builtin; refine wpList_append_own _ rfl (.tmp 55) (.tmp 57) 22 rfl (v1.heap.size + 1) 3 i0 (.int .i64 0) 1 8 undI HIF.out HZ0.out HZ1.out HZ2.out rfl (by decide) _ _ _ rfl ownA.out ⟨wr.heap.size, 0, none⟩ 1 1 [.int .i64 (k : Int)] rfl rfl HNEW.out (one1 _) (by unfold maxLen; omega) (by omega) (by omega) ?_; intro v2 w4 own3 gr3 _; obtain ⟨a2, n2, c2, rfl⟩ := (Row.of_owns own3).slice; have BO3 := BO1.out.grown ownA.out (by decide) gr3; have o1 := BO3.cell 1; have of := BO3.frozen 1; have ol := BO3.lt; simp at o1)
        have bel3 := below_owns2 ownA.out gr3 belA.out (by omega) (by omega)
        rename_i wr8
        go_roundw
        case rel =>
          refine ⟨k + 1, by omega, by go_num, ⟨_, BO3.set (j := 1) (.slice a2 n2 c2), ?_⟩, bel3.setCell (by simp) _, by simp [World.setCell]; omega⟩
          have h2 := owns_set own3 BO3 (by decide) 1 (.slice a2 n2 c2)
          rw [HFL.out, List.length_append, ints_snoc]
          exact h2
        case measure => simp [intOf]; omega
      · have d1 : ((k : Int) == u) = false := by simpa using p
        have HP := Lib.hid p
        clear p
        go_wp2_with fail
        clear c0 c1
        refine (rIsFault_any (.agg #[.int .i64 r.len, .slice sa r.fs.length cap]) r (k : Int) wr (HV.out.below HBW.out) (by omega)).mono ?_
        rintro e w3 ⟨rfl, hb⟩
        have HST3 := Lib.hid (HST.out.after hb)
        have HO3 := Lib.hid (HO.out.below hb)
        have HOWN3 := Lib.hid (owns_below HOWN.out hb)
        have HBW3 := Lib.hid (bC HBW.out hb)
        have hsz3 : v1.heap.size + 1 ≤ w3.heap.size := by have := hb.size; omega
        have B0w3 := B0w.below hb
        clear hb B0w
        cases hF : isF r (k : Int) with
        | true =>
          have HFL := Lib.hid (mfl_yes (u := u) (Or.inr hF))
          clear hF
          have hA := below1 w3 (.cells #[.int .i64 (k : Int)] 3)
          have hAs := hA.size
          have HNEW := Lib.hid (new_cells w3 [.int .i64 (k : Int)] 3)
          have ownA := Lib.hid (owns_below HOWN3.out hA)
          have BO1 := Lib.hid (HO3.out.below hA)
          have belA := Lib.hid (HBW3.out.trans (hA.mono HBW3.out.size))
          have hszA : v1.heap.size + 1 ≤ (w3.alloc (.cells #[.int .i64 (k : Int)] 3)).heap.size := by simp; omega
          have o1 := HO3.out.cell 1
          simp at o1
          have FL := mfl_len r u k
          clear hA
          go_wp2_with (at_builtin; refine wpList_append_own _ rfl (.tmp 55) (.tmp 57) 22 rfl (v1.heap.size + 1) 3 i0 (.int .i64 0) 1 8 undI HIF.out HZ0.out HZ1.out HZ2.out rfl (by decide) _ _ _ rfl ownA.out ⟨w3.heap.size, 0, none⟩ 1 1 [.int .i64 (k : Int)] rfl rfl HNEW.out (one1 _) (by unfold maxLen; omega) (by omega) (by omega) ?_; intro v2 w4 own3 gr3 _; obtain ⟨a2, n2, c2, rfl⟩ := (Row.of_owns own3).slice; have BO3 := BO1.out.grown ownA.out (by decide) gr3; have o1 := BO3.cell 1; have of := BO3.frozen 1; have ol := BO3.lt; simp at o1)
          have bel3 := below_owns2 ownA.out gr3 belA.out (by omega) (by omega)
          rename_i wr8
          go_roundw
          case rel =>
            refine ⟨k + 1, by omega, by go_num, ⟨_, BO3.set (j := 1) (.slice a2 n2 c2), ?_⟩, bel3.setCell (by simp) _, by simp [World.setCell]; omega⟩
            have h2 := owns_set own3 BO3 (by decide) 1 (.slice a2 n2 c2)
            rw [HFL.out, List.length_append, ints_snoc]
            exact h2
          case measure => simp [intOf]; omega
        | false =>
          have HFL := Lib.hid (mfl_no (r := r) (u := u) (k := k) (fun h => h.elim HP.out (fun h => by rw [hF] at h; cases h)))
          clear hF
          go_wp2
          rename_i wr8
          go_roundw
          case rel =>
            refine ⟨k + 1, by omega, by go_num, ?_⟩
            rw [HFL.out]
            exact HST3.out
          case measure => simp [intOf]; omega
    · obtain rfl : k = r.len.toNat := by omega
      obtain ⟨oa', oc', ho'⟩ := (show IntsAt wr (.slice oa on oc) (moreF r u).fs from (Row.of_owns HOWN.out).ints).slice
      cases ho'
      have BM := HO
      have HMR := Lib.hid (show RibAt wr (.agg #[.int .i64 r.len, .slice oa (moreF r u).fs.length oc]) (moreF r u) from ⟨_, rfl, (Row.of_owns HOWN.out).ints⟩)
      replace HV := Lib.hid (HV.out.below HBW.out)
      replace HK := Lib.hid (HK.out.below HBW.out)
      replace B0 := Lib.hid B0w
      replace HB := Lib.hid (bC HB.out HBW.out)
      have dk : decide (((r.len.toNat : Nat) : Int) < r.len) = false := by simp; omega
      clear c0 c1 HO HOWN HST hsz HBW B0w
      have B0c0 := B0.out.cell 0
      have B0c1 := B0.out.cell 1
      have BMc0 := BM.out.cell 0
      have BMc1 := BM.out.cell 1
      simp at B0c0 B0c1 BMc0 BMc1
      go_wp2_with fail
      clear B0c0 B0c1 BMc0 BMc1
      refine (best_any (.agg #[.int .i64 r.len, .slice sa r.fs.length cap]) (.slice ka ks.length kcap) r ks _ HV.out HK.out HR.out.1 HR.out.2).mono ?_
      rintro e v21 ⟨vb, rfl, -, hb⟩
      replace HV := Lib.hid (HV.out.below hb)
      replace HK := Lib.hid (HK.out.below hb)
      replace HMR := Lib.hid (HMR.out.below hb)
      replace B0 := Lib.hid (B0.out.below hb)
      replace BM := Lib.hid (BM.out.below hb)
      replace HB := Lib.hid (bC HB.out hb)
      clear hb
      rw [HD.out]
      have B0c0 := B0.out.cell 0
      have B0c1 := B0.out.cell 1
      have BMc0 := BM.out.cell 0
      have BMc1 := BM.out.cell 1
      simp at B0c0 B0c1 BMc0 BMc1
      go_wp2_with fail
      clear B0c0 B0c1 BMc0 BMc1
      refine (best_any (.agg #[.int .i64 r.len, .slice oa (moreF r u).fs.length oc]) (.slice ka ks.length kcap) (moreF r u) ks _ HMR.out HK.out HMO.out HR.out.2).mono ?_
      rintro e v22 ⟨vb2, rfl, -, hb⟩
      replace HV := Lib.hid (HV.out.below hb)
      replace HK := Lib.hid (HK.out.below hb)
      replace HMR := Lib.hid (HMR.out.below hb)
      replace B0 := Lib.hid (B0.out.below hb)
      replace BM := Lib.hid (BM.out.below hb)
      replace HB := Lib.hid (bC HB.out hb)
      clear hb
      rw [HX.out]
      have B0c0 := B0.out.cell 0
      have B0c1 := B0.out.cell 1
      have BMc0 := BM.out.cell 0
      have BMc1 := BM.out.cell 1
      simp at B0c0 B0c1 BMc0 BMc1
      go_wp2_with fail
      clear B0c0 B0c1 BMc0 BMc1
      refine (Ribbon_any r.len none 0 0 _).mono ?_
      rintro e v23 ⟨rfl, hb⟩
      replace HV := Lib.hid (HV.out.below hb)
      replace HK := Lib.hid (HK.out.below hb)
      replace HMR := Lib.hid (HMR.out.below hb)
      replace B0 := Lib.hid (B0.out.below hb)
      replace BM := Lib.hid (BM.out.below hb)
      replace HB := Lib.hid (bC HB.out hb)
      clear hb
      have B0c0 := B0.out.cell 0
      have B0c1 := B0.out.cell 1
      have BMc0 := BM.out.cell 0
      have BMc1 := BM.out.cell 1
      simp at B0c0 B0c1 BMc0 BMc1
      go_wp2_with fail
      clear B0c0 B0c1 BMc0 BMc1
      refine (best_any (.agg #[.int .i64 r.len, .slice none 0 0]) (.slice ka ks.length kcap) (bare r) ks _ ⟨_, rfl, none, 0, rfl, fun h => absurd rfl h⟩ HK.out HBO.out HR.out.2).mono ?_
      rintro e v24 ⟨vb3, rfl, -, hb⟩
      replace HV := Lib.hid (HV.out.below hb)
      replace HK := Lib.hid (HK.out.below hb)
      replace HMR := Lib.hid (HMR.out.below hb)
      replace B0 := Lib.hid (B0.out.below hb)
      replace BM := Lib.hid (BM.out.below hb)
      replace HB := Lib.hid (bC HB.out hb)
      clear hb
      rw [HBV.out]
      by_cases q0 : r.fs.length = 0
      · have z1 : ((r.fs.length : Int) == 0) = true := by simpa using q0
        have z2 : (r.fs.length == 0) = true := by simpa using q0
        obtain rfl := HEQ0.out q0
        clear q0
        have B0c0 := B0.out.cell 0
        have B0c1 := B0.out.cell 1
        have BMc0 := BM.out.cell 0
        have BMc1 := BM.out.cell 1
        simp at B0c0 B0c1 BMc0 BMc1
        go_wp2_with fail
        clear B0c0 B0c1 BMc0 BMc1
        refine (Works_any _).mono ?_
        rintro e v31 ⟨rfl, hb⟩
        replace HV := Lib.hid (HV.out.below hb)
        replace HK := Lib.hid (HK.out.below hb)
        replace HMR := Lib.hid (HMR.out.below hb)
        replace B0 := Lib.hid (B0.out.below hb)
        replace BM := Lib.hid (BM.out.below hb)
        replace HB := Lib.hid (bC HB.out hb)
        clear hb
        go_wp2
        go_ret
        exact ⟨rfl, HB.out⟩
      · have z1 : ((r.fs.length : Int) == 0) = false := by rw [beq_eq_false_iff_ne]; omega
        have z2 : (r.fs.length == 0) = false := by rw [beq_eq_false_iff_ne]; omega
        have z3 : ¬ ((r.fs.length : Int) = 0) := by omega
        obtain ⟨i, hi⟩ : ∃ i, wn % r.fs.length = i := ⟨_, rfl⟩
        have e3 : (wn : Int) % (r.fs.length : Int) = (i : Int) := by rw [← hi]; simp
        have hil : i < r.fs.length := by rw [← hi]; exact Nat.mod_lt _ (by omega)
        obtain ⟨Y, hY⟩ : ∃ Y, dn (tabOf (without r i) ks) 0 = Y := ⟨_, rfl⟩
        have y1 := HYB.out i
        have y2 := HDY.out i
        have y3 := HY0.out i
        rw [hY] at y1 y2 y3
        obtain ⟨Cc, hC⟩ : ∃ Cc, Y - D = Cc := ⟨_, rfl⟩
        have HCO := Lib.hid (And.intro (show costErr r (i : Int) = 0 by unfold costErr; rw [if_neg (by omega)]) (show costV r ks (i : Int) = Cc by unfold costV; rw [if_neg (by omega), Int.toNat_natCast, hY, HD.out, hC]))
        have HY := Lib.hid hY
        have k1 : decide (Cc ≥ 0) = true := by simp; omega
        have k2 : decide (0 ≤ Cc) = true := by simp; omega
        have k3 : decide (Cc ≤ 24000) = true := by simp; omega
        have k4 : decide (Bv ≥ Y) = true := by simp; omega
        have k5 : decide (Y ≤ Bv) = true := by simp; omega
        have ww : IntKind.i64.wrap (D + Cc) = Y := by rw [IntWalk.i64_in _ (by omega)]; omega
        have E3 := Lib.hid e3
        clear q0 hi hY hC y1 y2 y3 e3
        have B0c0 := B0.out.cell 0
        have B0c1 := B0.out.cell 1
        have BMc0 := BM.out.cell 0
        have BMc1 := BM.out.cell 1
        simp at B0c0 B0c1 BMc0 BMc1
        go_wp2_with fail
        clear B0c0 B0c1 BMc0 BMc1
        rw [E3.out]
        refine (Cost_ok (.agg #[.int .i64 r.len, .slice sa r.fs.length cap]) (.slice ka ks.length kcap) r ks (i : Int) _ HV.out HK.out HR.out.1 HR.out.2).mono ?_
        rintro e v41 ⟨rfl, hb⟩
        replace HV := Lib.hid (HV.out.below hb)
        replace HK := Lib.hid (HK.out.below hb)
        replace HMR := Lib.hid (HMR.out.below hb)
        replace B0 := Lib.hid (B0.out.below hb)
        replace BM := Lib.hid (BM.out.below hb)
        replace HB := Lib.hid (bC HB.out hb)
        clear hb
        rw [HCO.out.1, HCO.out.2]
        have B0c0 := B0.out.cell 0
        have B0c1 := B0.out.cell 1
        have BMc0 := BM.out.cell 0
        have BMc1 := BM.out.cell 1
        simp at B0c0 B0c1 BMc0 BMc1
        go_wp2_with fail
        clear B0c0 B0c1 BMc0 BMc1
        refine (Without_any (.agg #[.int .i64 r.len, .slice sa r.fs.length cap]) r i _ HV.out (by omega)).mono ?_
        rintro e v42 ⟨vw, rfl, hw, hb⟩
        replace HV := Lib.hid (HV.out.below hb)
        replace HK := Lib.hid (HK.out.below hb)
        replace HMR := Lib.hid (HMR.out.below hb)
        replace B0 := Lib.hid (B0.out.below hb)
        replace BM := Lib.hid (BM.out.below hb)
        replace HB := Lib.hid (bC HB.out hb)
        clear hb
        have HW := Lib.hid hw
        clear hw
        have B0c0 := B0.out.cell 0
        have B0c1 := B0.out.cell 1
        have BMc0 := BM.out.cell 0
        have BMc1 := BM.out.cell 1
        simp at B0c0 B0c1 BMc0 BMc1
        go_wp2_with fail
        clear B0c0 B0c1 BMc0 BMc1
        refine (best_any vw (.slice ka ks.length kcap) (without r i) ks _ HW.out HK.out (HWO.out i) HR.out.2).mono ?_
        rintro e v43 ⟨vb4, rfl, -, hb⟩
        replace HV := Lib.hid (HV.out.below hb)
        replace HK := Lib.hid (HK.out.below hb)
        replace HMR := Lib.hid (HMR.out.below hb)
        replace HW := Lib.hid (HW.out.below hb)
        replace B0 := Lib.hid (B0.out.below hb)
        replace BM := Lib.hid (BM.out.below hb)
        replace HB := Lib.hid (bC HB.out hb)
        clear hb
        rw [HY.out]
        have B0c0 := B0.out.cell 0
        have B0c1 := B0.out.cell 1
        have BMc0 := BM.out.cell 0
        have BMc1 := BM.out.cell 1
        simp at B0c0 B0c1 BMc0 BMc1
        go_wp2_with fail
        clear B0c0 B0c1 BMc0 BMc1
        refine (Works_any _).mono ?_
        rintro e v44 ⟨rfl, hb⟩
        replace HV := Lib.hid (HV.out.below hb)
        replace HK := Lib.hid (HK.out.below hb)
        replace HMR := Lib.hid (HMR.out.below hb)
        replace HW := Lib.hid (HW.out.below hb)
        replace B0 := Lib.hid (B0.out.below hb)
        replace BM := Lib.hid (BM.out.below hb)
        replace HB := Lib.hid (bC HB.out hb)
        clear hb
        go_wp2
        go_ret
        exact ⟨rfl, HB.out⟩
end Go.Proofs.Ytnkeikhkafbokaa
