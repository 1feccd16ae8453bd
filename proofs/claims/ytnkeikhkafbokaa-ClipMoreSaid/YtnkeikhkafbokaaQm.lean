import Derived.Test.YtnkeikhkafbokaaQj
namespace Go.Proofs.Ytnkeikhkafbokaa
open Go.RowKit Go.Dag Go.Sort

/-! ## The program: which ribbons and kinds are valid -/
set_option maxHeartbeats 400000 in
theorem withinI_any (lo hi : Int) (v : Value) (l : List Int) (w : World) (hv : IntsAt w v l) (hlen : l.length ≤ 1000000) :
    Calls Try.prog 61 #[.int .i64 lo, .int .i64 hi, v] w fun e w' => e = .returned (.bool (okInts lo hi l)) ∧ w = w' := by
  obtain ⟨a, cap, rfl, hc⟩ := hv
  have hat := (IntsAt.at (w := w) (a := a) (n := l.length) (cap := cap) ⟨a, cap, rfl, hc⟩).2
  clear hc
  have HA := Lib.hid hat
  clear hat
  go_enter Try.func61, Try.ntmps61
  go_wp2
  go_loop [8, 11] (fun _ i => ∃ k : Nat, k ≤ l.length ∧ i = .int .i64 k ∧ okInts lo hi (l.take k) = true) (fun _ i => l.length - (intOf i).toNat)
  case atStart => exact ⟨0, Nat.zero_le _, rfl, by simp [okInts]⟩
  case round =>
    obtain ⟨k, hk, rfl, hok⟩ := hrel
    have HO := Lib.hid hok
    clear hok
    by_cases hlt : k < l.length
    · obtain ⟨b, off, rfl, hc⟩ := HA.out k hlt
      by_cases h1 : l[k] < lo
      · go_wp2
        go_ret
        exact ⟨ret_bool (okInts_false hlt (by omega)).symm, rfl⟩
      · by_cases h2 : hi < l[k]
        · go_wp2
          go_ret
          exact ⟨ret_bool (okInts_false hlt (by omega)).symm, rfl⟩
        · go_wp2
          go_round
          case rel => exact ⟨k + 1, by omega, by go_num, okInts_snoc hlt HO.out (by omega) (by omega)⟩
          case measure => simp [intOf]; omega
    · obtain rfl : k = l.length := by omega
      go_wp2
      go_ret
      refine ⟨?_, rfl⟩
      have := HO.out
      rw [List.take_length] at this
      rw [this]
      rfl
theorem withinI_one (lo hi x : Int) (b : Bool) (v : Value) (w : World) (hv : IntsAt w v [x]) (hb : b = (decide (lo ≤ x) && decide (x ≤ hi))) :
    Calls Try.prog 61 #[.int .i64 lo, .int .i64 hi, v] w fun e w' => e = .returned (.bool b) ∧ w = w' := by
  have h := withinI_any lo hi v [x] w hv (by simp)
  have e : okInts lo hi [x] = b := by rw [hb]; simp [okInts]
  rwa [e] at h

set_option maxHeartbeats 400000 in
theorem withinL_any (lo hi : Int) (v : Value) (l : List Int) (w : World) (hv : IntsAt w v l) (hlen : l.length ≤ 1000000) :
    Calls Try.prog 69 #[.int .i64 lo, .int .i64 hi, v] w fun e w' => e = .returned (.bool (okInts lo hi l)) ∧ w = w' := by
  obtain ⟨a, cap, rfl, hc⟩ := hv
  have hat := (IntsAt.at (w := w) (a := a) (n := l.length) (cap := cap) ⟨a, cap, rfl, hc⟩).2
  clear hc
  have HA := Lib.hid hat
  clear hat
  go_enter Try.func69, Try.ntmps69
  go_wp2
  go_loop [8, 11] (fun _ i => ∃ k : Nat, k ≤ l.length ∧ i = .int .i64 k ∧ okInts lo hi (l.take k) = true) (fun _ i => l.length - (intOf i).toNat)
  case atStart => exact ⟨0, Nat.zero_le _, rfl, by simp [okInts]⟩
  case round =>
    obtain ⟨k, hk, rfl, hok⟩ := hrel
    have HO := Lib.hid hok
    clear hok
    by_cases hlt : k < l.length
    · obtain ⟨b, off, rfl, hc⟩ := HA.out k hlt
      by_cases h1 : l[k] < lo
      · go_wp2
        go_ret
        exact ⟨ret_bool (okInts_false hlt (by omega)).symm, rfl⟩
      · by_cases h2 : hi < l[k]
        · go_wp2
          go_ret
          exact ⟨ret_bool (okInts_false hlt (by omega)).symm, rfl⟩
        · go_wp2
          go_round
          case rel => exact ⟨k + 1, by omega, by go_num, okInts_snoc hlt HO.out (by omega) (by omega)⟩
          case measure => simp [intOf]; omega
    · obtain rfl : k = l.length := by omega
      go_wp2
      go_ret
      refine ⟨?_, rfl⟩
      have := HO.out
      rw [List.take_length] at this
      rw [this]
      rfl
theorem withinL_one (lo hi x : Int) (b : Bool) (v : Value) (w : World) (hv : IntsAt w v [x]) (hb : b = (decide (lo ≤ x) && decide (x ≤ hi))) :
    Calls Try.prog 69 #[.int .i64 lo, .int .i64 hi, v] w fun e w' => e = .returned (.bool b) ∧ w = w' := by
  have h := withinL_any lo hi v [x] w hv (by simp)
  have e : okInts lo hi [x] = b := by rw [hb]; simp [okInts]
  rwa [e] at h

theorem in_yes {lo hi x : Int} (h1 : lo ≤ x) (h2 : x ≤ hi) : true = (decide (lo ≤ x) && decide (x ≤ hi)) := by simp [h1, h2]
theorem in_no {lo hi x : Int} (h : x < lo ∨ hi < x) : false = (decide (lo ≤ x) && decide (x ≤ hi)) := by
  symm
  rw [Bool.and_eq_false_iff]
  simp only [decide_eq_false_iff_not]
  omega
set_option maxRecDepth 100000 in
set_option maxHeartbeats 2000000 in
theorem isKind_any (k : KindD) (w : World) :
    Calls Try.prog 63 #[kV k] w fun e w' => e = .returned (.bool (okKind k)) ∧ Below w.heap.size w w' := by
  unfold kV
  have hB0 := below1 w (.cells #[.int .i64 k.w, .int .i64 k.p, .int .i64 k.m] 67)
  have b0 := Blk.new w (.cells #[.int .i64 k.w, .int .i64 k.p, .int .i64 k.m] 67)
  by_cases q1 : k.w < 1 ∨ 24 < k.w
  · have HT := Lib.hid (okKind_no (k := k) (by omega))
    go_enter Try.func63, Try.ntmps63
    go_wp2_with fail
    refine (withinI_one _ _ k.w false _ _ (IntsAt.mk1 (by go_simp)) (in_no q1)).mono ?_
    rintro e w1 ⟨rfl, rfl⟩
    clear q1
    go_wp2
    go_ret
    exact ⟨ret_bool HT.out.symm, hB0.alloc (by simp) _⟩
  have q1' : 1 ≤ k.w ∧ k.w ≤ 24 := by omega
  by_cases q2 : k.p < 1 ∨ 1000 < k.p
  · have HT := Lib.hid (okKind_no (k := k) (by omega))
    go_enter Try.func63, Try.ntmps63
    go_wp2_with fail
    refine (withinI_one _ _ k.w true _ _ (IntsAt.mk1 (by go_simp)) (in_yes q1'.1 q1'.2)).mono ?_
    rintro e w1 ⟨rfl, rfl⟩
    go_wp2_with fail
    refine (withinL_one _ _ k.p false _ _ (IntsAt.mk1 (by go_simp)) (in_no q2)).mono ?_
    rintro e w1 ⟨rfl, rfl⟩
    clear q1 q2
    go_wp2
    go_ret
    exact ⟨ret_bool HT.out.symm, (hB0.alloc (by simp) _).alloc (by simp; omega) _⟩
  have q2' : 1 ≤ k.p ∧ k.p ≤ 1000 := by omega
  have hfin : okKind k = (decide (0 ≤ k.m) && decide (k.m ≤ 24)) := by
    unfold okKind
    simp [q1', q2']
  have HF := Lib.hid hfin
  clear hfin
  go_enter Try.func63, Try.ntmps63
  go_wp2_with fail
  refine (withinI_one _ _ k.w true _ _ (IntsAt.mk1 (by go_simp)) (in_yes q1'.1 q1'.2)).mono ?_
  rintro e w1 ⟨rfl, rfl⟩
  go_wp2_with fail
  refine (withinL_one _ _ k.p true _ _ (IntsAt.mk1 (by go_simp)) (in_yes q2'.1 q2'.2)).mono ?_
  rintro e w1 ⟨rfl, rfl⟩
  clear q1 q2 q1' q2'
  go_wp2_with fail
  refine (withinI_one _ _ k.m (okKind k) _ _ (IntsAt.mk1 (by go_simp)) HF.out).mono ?_
  rintro e w1 ⟨rfl, rfl⟩
  go_wp2
  go_ret
  exact ⟨rfl, ((hB0.alloc (by simp) _).alloc (by simp; omega) _).alloc (by simp; omega) _⟩

set_option maxRecDepth 100000 in
set_option maxHeartbeats 2000000 in
theorem allKinds_any (v : Value) (ks : List KindD) (w : World) (hv : KindsAt w v ks) (hlen : ks.length ≤ 1000000) :
    Calls Try.prog 62 #[v, .func (.func 63) #[] #[]] w fun e w' => e = .returned (.bool (ks.all okKind)) ∧ Below w.heap.size w w' := by
  obtain ⟨a, cap, rfl⟩ := hv.slice
  have HV := Lib.hid (fun k (hk : k < ks.length) => hv.get k hk)
  clear hv
  go_enter Try.func62, Try.ntmps62
  go_wp2
  go_loopw [9] (fun i wr => ∃ k : Nat, k ≤ ks.length ∧ i = .int .i64 k ∧ (ks.take k).all okKind = true ∧ Below w.heap.size w wr) (fun i _ => ks.length - (intOf i).toNat)
  case atStart => exact ⟨0, Nat.zero_le _, rfl, rfl, Below.refl _ _⟩
  case round =>
    obtain ⟨k, hk, rfl, hok, hB⟩ := hrel
    have HO := Lib.hid hok
    clear hok
    by_cases hlt : k < ks.length
    · obtain ⟨b, off, rfl, cw, cp, cm⟩ := HV.out k hlt
      rw [← hB.cell (p := ⟨b, _, none⟩) (lt_of_cell cw)] at cw
      rw [← hB.cell (p := ⟨b, _, none⟩) (lt_of_cell cp)] at cp
      rw [← hB.cell (p := ⟨b, _, none⟩) (lt_of_cell cm)] at cm
      have hz := hB.size
      have HB := Lib.hid (hB.alloc hz (.cells #[.int .i64 ks[k].w, .int .i64 ks[k].p, .int .i64 ks[k].m] 67))
      have hK := isKind_any ks[k]
      unfold kV at hK
      clear hB
      go_wp2_with fail
      refine (hK _).mono ?_
      rintro e w2 ⟨rfl, hb2⟩
      by_cases q : okKind ks[k] = true
      · rw [q]
        have HB2 := Lib.hid (bC HB.out hb2)
        clear hb2 cw cp cm hK
        go_wp2
        rename_i wr8
        go_roundw
        case rel => exact ⟨k + 1, by omega, by go_num, all_snoc hlt HO.out q, HB2.out⟩
        case measure => simp [intOf]; omega
      · rw [Bool.not_eq_true] at q
        rw [q]
        have HB2 := Lib.hid (bC HB.out hb2)
        have HT := Lib.hid (all_false (p := okKind) hlt q)
        clear hb2 cw cp cm hK
        go_wp2
        go_ret
        exact ⟨ret_bool HT.out.symm, HB2.out⟩
    · obtain rfl : k = ks.length := by omega
      go_wp2
      go_ret
      refine ⟨ret_bool ?_, hB⟩
      have := HO.out
      rw [List.take_length] at this
      exact this.symm

set_option maxRecDepth 100000 in
set_option maxHeartbeats 2000000 in
theorem CheckKinds_any (v : Value) (ks : List KindD) (w : World) (hv : KindsAt w v ks) (hlen : ks.length ≤ 1000000) :
    Calls Try.prog 22 #[v] w fun e w' => e = .returned (.int .i64 (kindErr ks)) ∧ Below w.heap.size w w' := by
  obtain ⟨a, cap, rfl⟩ := hv.slice
  have HV := Lib.hid hv
  clear hv
  by_cases q1 : ks.length < 1 ∨ 6 < ks.length
  · have HT := Lib.hid (kindErr_len q1)
    go_enter Try.func22, Try.ntmps22
    go_wp2_with fail
    refine (withinI_one _ _ (ks.length : Int) false _ _ (IntsAt.mk1 (by go_simp)) (in_no (by omega))).mono ?_
    rintro e w1 ⟨rfl, rfl⟩
    clear q1
    go_wp2
    go_ret
    exact ⟨ret_int HT.out.symm, below1 _ _⟩
  have HE := Lib.hid (kindErr_in (ks := ks) (by omega))
  go_enter Try.func22, Try.ntmps22
  go_wp2_with fail
  refine (withinI_one _ _ (ks.length : Int) true _ _ (IntsAt.mk1 (by go_simp)) (in_yes (by omega) (by omega))).mono ?_
  rintro e w1 ⟨rfl, rfl⟩
  clear q1
  go_wp2_with fail
  refine (allKinds_any _ ks _ (HV.out.below (below1 _ _)) hlen).mono ?_
  rintro e w2 ⟨rfl, hb2⟩
  have HB := Lib.hid (after1 hb2)
  clear hb2
  by_cases q : ks.all okKind = true
  · rw [q]
    have HT := Lib.hid (show kindErr ks = 0 by rw [HE.out, if_pos q])
    clear q
    go_wp2
    go_ret
    exact ⟨ret_int HT.out.symm, HB.out⟩
  · have HT := Lib.hid (show kindErr ks = 3 by rw [HE.out, if_neg q])
    rw [Bool.not_eq_true] at q
    rw [q]
    clear q
    go_wp2
    go_ret
    exact ⟨ret_int HT.out.symm, HB.out⟩

set_option maxRecDepth 100000 in
set_option maxHeartbeats 4000000 in
theorem CheckRibbon_any (v : Value) (r : RibD) (w : World) (hv : RibAt w v r) (hlen : r.fs.length ≤ 1000000) :
    Calls Try.prog 20 #[v] w fun e w' => e = .returned (.int .i64 (ribErr r)) ∧ Below w.heap.size w w' := by
  obtain ⟨sv, rfl, hi⟩ := hv
  obtain ⟨a, cap, rfl⟩ := hi.slice
  have hB0 := below1 w (.cells #[.int .i64 r.len, .slice a r.fs.length cap] 24)
  have b0 := Blk.new w (.cells #[.int .i64 r.len, .slice a r.fs.length cap] 24)
  have HA := Lib.hid (hi.below hB0).at.2
  clear hi
  by_cases q1 : r.len < 1 ∨ 24 < r.len
  · have HT := Lib.hid (ribErr_len q1)
    go_enter Try.func20, Try.ntmps20
    go_wp2_with fail
    refine (withinI_one _ _ r.len false _ _ (IntsAt.mk1 (by go_simp)) (in_no q1)).mono ?_
    rintro e w1 ⟨rfl, rfl⟩
    clear q1
    go_wp2
    go_ret
    exact ⟨ret_int HT.out.symm, hB0.alloc (by simp) _⟩
  have HE := Lib.hid (ribErr_in (r := r) q1)
  have q1' : 1 ≤ r.len ∧ r.len ≤ 24 := by omega
  clear q1
  go_enter Try.func20, Try.ntmps20
  go_wp2_with fail
  refine (withinI_one _ _ r.len true _ _ (IntsAt.mk1 (by go_simp)) (in_yes q1'.1 q1'.2)).mono ?_
  rintro e w1 ⟨rfl, rfl⟩
  generalize w.alloc (.cells #[.int .i64 r.len, .slice a r.fs.length cap] 24) = W0 at *
  have hbA := below1 W0 (.cells #[.int .i64 r.len] 3)
  have b1 := b0.below hbA
  have c1 := b1.cell 1
  simp at c1
  go_wp2_with fail
  clear c1 b1
  go_loopw [3, 14] (fun lo i wr => ∃ k : Nat, k ≤ r.fs.length ∧ i = .int .i64 k ∧ lo = .int .i64 (loF r.fs k) ∧ fsOk r.len 0 r.fs = fsOk r.len (loF r.fs k) (r.fs.drop k) ∧ 0 ≤ loF r.fs k ∧ Below W0.heap.size W0 wr) (fun _ i _ => r.fs.length - (intOf i).toNat)
  case atStart => exact ⟨0, Nat.zero_le _, rfl, rfl, rfl, Int.le_refl _, hbA⟩
  case round =>
    clear hbA
    obtain ⟨k, hk, rfl, rfl, hok, hlo, hB⟩ := hrel
    have HO := Lib.hid hok
    have HB := Lib.hid hB
    have hz := hB.size
    have c0 := (b0.below hB).cell 0
    simp at c0
    clear hok hB
    by_cases hlt : k < r.fs.length
    · obtain ⟨b, off, rfl, x1⟩ := HA.out k hlt
      have x1 := cellB x1 HB.out
      have hsn := Lib.hid (fsOk_no (len := r.len) (lo := loF r.fs k) hlt)
      have hss := Lib.hid (fsOk_snoc (len := r.len) (lo := loF r.fs k) hlt)
      have hls := Lib.hid (loF_succ hlt)
      have hb2 := HB.out.alloc hz (.cells #[.int .i64 r.fs[k]] 3)
      by_cases q2 : r.fs[k] < loF r.fs k ∨ r.len - 1 < r.fs[k]
      · have HT := Lib.hid (show ribErr r = 3 by rw [HE.out, HO.out, hsn.out (by omega)]; rfl)
        go_wp2_with fail
        refine (withinI_one _ _ r.fs[k] false _ _ (IntsAt.mk1 (by go_simp)) (in_no q2)).mono ?_
        rintro e w1 ⟨rfl, rfl⟩
        clear q2
        go_wp2
        go_ret
        exact ⟨ret_int HT.out.symm, bC hB0 hb2⟩
      · have q2' : loF r.fs k ≤ r.fs[k] ∧ r.fs[k] ≤ r.len - 1 := by omega
        have HS := Lib.hid (show fsOk r.len 0 r.fs = fsOk r.len (r.fs[k] + 1) (r.fs.drop (k + 1)) by rw [HO.out, hss.out, decide_eq_true q2'.1, decide_eq_true q2'.2]; rfl)
        clear q2
        go_wp2_with fail
        refine (withinI_one _ _ r.fs[k] true _ _ (IntsAt.mk1 (by go_simp)) (in_yes q2'.1 q2'.2)).mono ?_
        rintro e w1 ⟨rfl, rfl⟩
        go_wp2
        rename_i wr8
        go_roundw
        case rel => exact ⟨k + 1, by omega, by go_num, by rw [hls.out], by rw [HS.out, hls.out], by rw [hls.out]; omega, hb2⟩
        case measure => simp [intOf]; omega
    · obtain rfl : k = r.fs.length := by omega
      go_wp2
      go_ret
      refine ⟨ret_int ?_, bC hB0 HB.out⟩
      rw [HE.out, HO.out, List.drop_length]; rfl
end Go.Proofs.Ytnkeikhkafbokaa
