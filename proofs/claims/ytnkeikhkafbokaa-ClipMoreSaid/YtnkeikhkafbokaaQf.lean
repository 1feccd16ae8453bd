import Derived.Test.YtnkeikhkafbokaaQb
import Derived.Test.YtnkeikhkafbokaaQa
namespace Go.Proofs.Ytnkeikhkafbokaa
open Go.RowKit Go.Dag

/-! ## The reference: which ribbons and kinds are valid -/
theorem fsOk_no {len : Int} {fs : List Int} {k : Nat} {lo : Int} (hk : k < fs.length) (h : ¬ (lo ≤ fs[k] ∧ fs[k] ≤ len - 1)) : fsOk len lo (fs.drop k) = false := by
  rw [fsOk_snoc hk]
  have : (decide (lo ≤ fs[k]) && decide (fs[k] ≤ len - 1)) = false := by
    rw [Bool.and_eq_false_iff]
    simp only [decide_eq_false_iff_not]
    omega
  rw [this]; rfl
/-- The least that the next fault may be. -/
def loF (fs : List Int) (k : Nat) : Int := if k = 0 then 0 else fs.getD (k - 1) 0 + 1
theorem loF_succ {fs : List Int} {k : Nat} (hk : k < fs.length) : loF fs (k + 1) = fs[k] + 1 := by
  unfold loF
  rw [if_neg (by omega), Nat.add_sub_cancel, List.getD_eq_getElem?_getD, List.getElem?_eq_getElem hk]
  rfl
theorem ribErr_len {r : RibD} (h : r.len < 1 ∨ 24 < r.len) : ribErr r = 6 := by unfold ribErr; rw [if_pos h]
theorem ribErr_in {r : RibD} (h : ¬ (r.len < 1 ∨ 24 < r.len)) : ribErr r = if fsOk r.len 0 r.fs = true then 0 else 3 := by unfold ribErr; rw [if_neg h]

set_option maxRecDepth 100000 in
set_option maxHeartbeats 4000000 in
theorem rCheckRibbon_any (v : Value) (r : RibD) (w : World) (hv : RibAt w v r) (hlen : r.fs.length ≤ 1000000) :
    Calls Try.prog 21 #[v] w fun e w' => e = .returned (.int .i64 (ribErr r)) ∧ Below w.heap.size w w' := by
  obtain ⟨sv, rfl, hi⟩ := hv
  obtain ⟨a, cap, rfl⟩ := hi.slice
  by_cases h1 : r.len < 1
  · have HE := Lib.hid (ribErr_len (.inl h1))
    clear hi
    go_enter Try.func21, Try.ntmps21
    go_wp2
    go_ret
    exact ⟨ret_int HE.out.symm, below1 _ _⟩
  by_cases h2 : 24 < r.len
  · have HE := Lib.hid (ribErr_len (.inr h2))
    clear hi
    go_enter Try.func21, Try.ntmps21
    go_wp2
    go_ret
    exact ⟨ret_int HE.out.symm, below1 _ _⟩
  have HE := Lib.hid (ribErr_in (r := r) (by omega))
  have hat := (hi.at).2
  have HA := Lib.hid hat
  clear hi hat
  go_enter Try.func21, Try.ntmps21
  go_wp2
  go_loopw [3] (fun i wr => ∃ k : Nat, k ≤ r.fs.length ∧ i = .int .i64 k ∧ fsOk r.len 0 r.fs = fsOk r.len (loF r.fs k) (r.fs.drop k) ∧ 0 ≤ loF r.fs k ∧ ∃ nq, wr = (w.alloc (.cells #[.int .i64 r.len, .slice a r.fs.length cap] 24)).drewN nq) (fun i _ => r.fs.length - (intOf i).toNat)
  case atStart => exact ⟨0, Nat.zero_le _, rfl, rfl, Int.le_refl _, 0, rfl⟩
  case round =>
    obtain ⟨k, hk, rfl, hok, hlo, nq, rfl⟩ := hrel
    have HO := Lib.hid hok
    clear hok
    by_cases hlt : k < r.fs.length
    · obtain ⟨b, off, rfl, hc⟩ := HA.out k hlt
      have hbl := lt_of_cell hc
      have hsn := Lib.hid (fsOk_no (len := r.len) (lo := loF r.fs k) hlt)
      have hss := Lib.hid (fsOk_snoc (len := r.len) (lo := loF r.fs k) hlt)
      have hls := Lib.hid (loF_succ hlt)
      by_cases c1 : r.fs[k] < 0
      · have d1 : decide (r.fs[k] < 0) = true := by simpa using c1
        go_wp2_with fail
        go_quiet (fail)
        go_wp2
        go_ret
        refine ⟨ret_int ?_, below_drewN (below_drewN (below1 _ _) _) _⟩
        rw [HE.out, HO.out, hsn.out (by omega)]; rfl
      have d1 : decide (r.fs[k] < 0) = false := by simpa using c1
      by_cases c2 : r.len ≤ r.fs[k]
      · have d2 : decide (r.len ≤ r.fs[k]) = true := by simpa using c2
        go_wp2_with fail
        go_quiet (fail)
        go_wp2
        go_ret
        refine ⟨ret_int ?_, below_drewN (below_drewN (below1 _ _) _) _⟩
        rw [HE.out, HO.out, hsn.out (by omega)]; rfl
      have d2 : decide (r.len ≤ r.fs[k]) = false := by simpa using c2
      by_cases c3 : ¬ 0 < k
      · have HK0 := Lib.hid (show k = 0 by omega)
        have hl0 : loF r.fs k = 0 := by rw [HK0.out]; rfl
        have HL0 := Lib.hid hl0
        have hd : decide ((0 : Int) < (k : Int)) = false := by simp; omega
        clear hl0
        go_wp2_with fail
        go_quiet (fail)
        clear hd
        go_wp2
        go_roundw
        case rel =>
          refine ⟨k + 1, by omega, by go_num, ?_, ?_, _, rfl⟩
          · rw [HO.out, hss.out, decide_eq_true (by rw [HL0.out]; omega), decide_eq_true (by omega), hls.out]; rfl
          · have := hls.out; omega
        case measure => simp [intOf]; omega
      · have hk0 : 0 < k := by omega
        obtain ⟨b', off', e, hc'⟩ := HA.out (k - 1) (by omega)
        obtain ⟨rfl, rfl⟩ : b = b' ∧ off = off' := by simpa using e
        clear e
        have hl0 : loF r.fs k = r.fs[k - 1] + 1 := by
          unfold loF
          rw [if_neg (by omega), List.getD_eq_getElem?_getD, List.getElem?_eq_getElem (by omega)]; rfl
        have HL0 := Lib.hid hl0
        clear hl0
        have d3 : decide ((0 : Int) < (k : Int)) = true := by simp; omega
        by_cases c4 : r.fs[k] ≤ r.fs[k - 1]
        · have d4 : decide (r.fs[k] ≤ r.fs[k - 1]) = true := by simpa using c4
          go_wp2_with fail
          go_quiet (fail)
          go_wp2
          go_ret
          refine ⟨ret_int ?_, below_drewN (below_drewN (below1 _ _) _) _⟩
          have := HL0.out
          rw [HE.out, HO.out, hsn.out (by omega)]; rfl
        · have d4 : decide (r.fs[k] ≤ r.fs[k - 1]) = false := by simpa using c4
          go_wp2_with fail
          go_quiet (fail)
          clear d3 d4
          go_wp2
          go_roundw
          case rel =>
            refine ⟨k + 1, by omega, by go_num, ?_, ?_, _, rfl⟩
            · have := HL0.out
              rw [HO.out, hss.out, decide_eq_true (by omega), decide_eq_true (by omega), hls.out]; rfl
            · have := hls.out; omega
          case measure => simp [intOf]; omega
    · obtain rfl : k = r.fs.length := by omega
      go_wp2
      go_ret
      refine ⟨ret_int ?_, below_drewN (below1 _ _) _⟩
      rw [HE.out, HO.out, List.drop_length]; rfl
end Go.Proofs.Ytnkeikhkafbokaa

namespace Go.Proofs.Ytnkeikhkafbokaa
open Go.RowKit Go.Dag

theorem kindErr_len {ks : List KindD} (h : ks.length < 1 ∨ 6 < ks.length) : kindErr ks = 6 := by unfold kindErr; rw [if_pos h]
theorem kindErr_in {ks : List KindD} (h : ¬ (ks.length < 1 ∨ 6 < ks.length)) : kindErr ks = if ks.all okKind = true then 0 else 3 := by unfold kindErr; rw [if_neg h]
theorem okKind_no {k : KindD} (h : k.w < 1 ∨ 24 < k.w ∨ k.p < 1 ∨ 1000 < k.p ∨ k.m < 0 ∨ 24 < k.m) : okKind k = false := by
  cases e : okKind k with
  | false => rfl
  | true => obtain ⟨a, b, c, d, e, f⟩ := (okKind_iff k).1 e; omega
theorem okKind_yes {k : KindD} (a : ¬ k.w < 1) (b : ¬ 24 < k.w) (c : ¬ k.p < 1) (d : ¬ 1000 < k.p) (e : ¬ k.m < 0) (f : ¬ 24 < k.m) : okKind k = true :=
  (okKind_iff k).2 ⟨by omega, by omega, by omega, by omega, by omega, by omega⟩

set_option maxRecDepth 100000 in
set_option maxHeartbeats 4000000 in
theorem rCheckKinds_any (v : Value) (ks : List KindD) (w : World) (hv : KindsAt w v ks) (hlen : ks.length ≤ 1000000) :
    Calls Try.prog 23 #[v] w fun e w' => e = .returned (.int .i64 (kindErr ks)) ∧ Below w.heap.size w w' := by
  obtain ⟨a, cap, rfl⟩ := hv.slice
  by_cases h1 : ks.length < 1
  · have d1 : decide ((ks.length : Int) < 1) = true := by simp; omega
    have HE := Lib.hid (kindErr_len (.inl h1))
    clear hv
    go_enter Try.func23, Try.ntmps23
    go_wp2
    go_ret
    exact ⟨ret_int HE.out.symm, Below.refl _ _⟩
  have d1 : decide ((ks.length : Int) < 1) = false := by simp; omega
  by_cases h2 : 6 < ks.length
  · have d2 : decide ((6 : Int) < (ks.length : Int)) = true := by simp; omega
    have HE := Lib.hid (kindErr_len (.inr h2))
    clear hv
    go_enter Try.func23, Try.ntmps23
    go_wp2
    go_ret
    exact ⟨ret_int HE.out.symm, Below.refl _ _⟩
  have d2 : decide ((6 : Int) < (ks.length : Int)) = false := by simp; omega
  have HE := Lib.hid (kindErr_in (ks := ks) (by omega))
  have HV := Lib.hid (fun k (hk : k < ks.length) => hv.get k hk)
  clear hv
  go_enter Try.func23, Try.ntmps23
  go_wp2
  clear d1 d2
  go_loopw [3] (fun i wr => ∃ k : Nat, k ≤ ks.length ∧ i = .int .i64 k ∧ (ks.take k).all okKind = true ∧ Below w.heap.size w wr) (fun i _ => ks.length - (intOf i).toNat)
  case atStart => exact ⟨0, Nat.zero_le _, rfl, rfl, Below.refl _ _⟩
  case round =>
    obtain ⟨k, hk, rfl, hok, hB⟩ := hrel
    have HO := Lib.hid hok
    clear hok
    by_cases hlt : k < ks.length
    · obtain ⟨b, off, rfl, cw, cp, cm⟩ := HV.out k hlt
      have hbl := lt_of_cell cw
      rw [← hB.cell (p := ⟨b, _, none⟩) hbl] at cw cp cm
      have hz := hB.size
      have bad := Lib.hid (fun h => show kindErr ks = 3 from by rw [HE.out, all_false hlt (okKind_no h)]; rfl)
      have nbl : ¬ (wr.heap.size = b) := by have := lt_of_cell cw; omega
      have HB := Lib.hid (hB.alloc hz (.cells #[.int .i64 ks[k].w, .int .i64 ks[k].p, .int .i64 ks[k].m] 67))
      by_cases c1 : ks[k].w < 1
      · have e1 : decide (ks[k].w < 1) = true := by simpa using c1
        go_wp2
        go_ret
        exact ⟨ret_int (bad.out (.inl c1)).symm, HB.out⟩
      have e1 : decide (ks[k].w < 1) = false := by simpa using c1
      by_cases c2 : 24 < ks[k].w
      · have e2 : decide (24 < ks[k].w) = true := by simpa using c2
        go_wp2
        go_ret
        exact ⟨ret_int (bad.out (.inr (.inl c2))).symm, HB.out⟩
      have e2 : decide (24 < ks[k].w) = false := by simpa using c2
      by_cases c3 : ks[k].p < 1
      · have e3 : decide (ks[k].p < 1) = true := by simpa using c3
        go_wp2
        go_ret
        exact ⟨ret_int (bad.out (.inr (.inr (.inl c3)))).symm, HB.out⟩
      have e3 : decide (ks[k].p < 1) = false := by simpa using c3
      by_cases c4 : 1000 < ks[k].p
      · have e4 : decide (1000 < ks[k].p) = true := by simpa using c4
        go_wp2
        go_ret
        exact ⟨ret_int (bad.out (.inr (.inr (.inr (.inl c4))))).symm, HB.out⟩
      have e4 : decide (1000 < ks[k].p) = false := by simpa using c4
      by_cases c5 : ks[k].m < 0
      · have e5 : decide (ks[k].m < 0) = true := by simpa using c5
        go_wp2
        go_ret
        exact ⟨ret_int (bad.out (.inr (.inr (.inr (.inr (.inl c5)))))).symm, HB.out⟩
      have e5 : decide (ks[k].m < 0) = false := by simpa using c5
      by_cases c6 : 24 < ks[k].m
      · have e6 : decide (24 < ks[k].m) = true := by simpa using c6
        go_wp2
        go_ret
        exact ⟨ret_int (bad.out (.inr (.inr (.inr (.inr (.inr c6)))))).symm, HB.out⟩
      have e6 : decide (24 < ks[k].m) = false := by simpa using c6
      have HY := Lib.hid (okKind_yes c1 c2 c3 c4 c5 c6)
      go_wp2
      go_roundw
      case rel => exact ⟨k + 1, by omega, by go_num, all_snoc hlt HO.out HY.out, HB.out⟩
      case measure => simp [intOf]; omega
    · obtain rfl : k = ks.length := by omega
      go_wp2
      go_ret
      refine ⟨ret_int ?_, hB⟩
      have := HO.out
      rw [List.take_length] at this
      rw [HE.out, this]; rfl

set_option maxHeartbeats 1000000 in
theorem rboth_any (v kv : Value) (r : RibD) (ks : List KindD) (w : World) (hv : RibAt w v r) (hk : KindsAt w kv ks) (hlen : r.fs.length ≤ 1000) (hlen2 : ks.length ≤ 1000) :
    Calls Try.prog 59 #[v, kv] w fun e w' => e = .returned (.int .i64 (bothErr r ks)) ∧ Below w.heap.size w w' := by
  obtain ⟨sv, rfl, hi⟩ := hv
  obtain ⟨a, cap, rfl⟩ := hi.slice
  have hB0 := below1 w (.cells #[.int .i64 r.len, .slice a r.fs.length cap] 24)
  have b0 := Blk.new w (.cells #[.int .i64 r.len, .slice a r.fs.length cap] 24)
  have HI := Lib.hid hi
  have HK := Lib.hid hk
  clear hi hk
  go_enter Try.func59, Try.ntmps59
  go_wp2_with fail
  generalize w.alloc (.cells #[.int .i64 r.len, .slice a r.fs.length cap] 24) = W0 at *
  refine (rCheckRibbon_any _ r _ ⟨_, rfl, HI.out.below hB0⟩ (by omega)).mono ?_
  rintro e w1 ⟨rfl, hb1⟩
  have hB1 := bC hB0 hb1
  have b1 := b0.below hb1
  by_cases he : ribErr r = 0
  · have HE : (ribErr r != 0) = false := by simp [he]
    have HR := Lib.hid (show bothErr r ks = kindErr ks by unfold bothErr; rw [if_neg (by omega)])
    clear he
    go_wp2_with fail
    refine (rCheckKinds_any _ ks _ (HK.out.below hB1) (by omega)).mono ?_
    rintro e w2 ⟨rfl, hb2⟩
    go_wp2
    go_ret
    exact ⟨ret_int HR.out.symm, bC hB1 hb2⟩
  · have HE : (ribErr r != 0) = true := by simp [he]
    have HR := Lib.hid (show bothErr r ks = ribErr r by unfold bothErr; rw [if_pos he])
    clear he
    have c0 := b1.cell 0
    have c1 := b1.cell 1
    simp at c0 c1
    go_wp2_with fail
    refine (rCheckRibbon_any _ r _ ⟨_, rfl, HI.out.below hB1⟩ (by omega)).mono ?_
    rintro e w2 ⟨rfl, hb2⟩
    go_wp2
    go_ret
    exact ⟨ret_int HR.out.symm, bC hB1 hb2⟩
end Go.Proofs.Ytnkeikhkafbokaa

namespace Go.Proofs.Ytnkeikhkafbokaa
open Go.RowKit Go.Dag

theorem ret_bool {a b : Bool} (h : a = b) : Ending.returned (.bool a) = .returned (.bool b) := by rw [h]
theorem isF_no {r : RibD} {u : Int} (h : ∀ j (hj : j < r.fs.length), r.fs[j] ≠ u) : isF r u = false := by
  cases e : isF r u with
  | false => rfl
  | true =>
    unfold isF at e
    rw [List.contains_iff_mem] at e
    obtain ⟨j, hj, e⟩ := List.mem_iff_getElem.1 e
    exact absurd e (h j hj)
theorem isF_yes {r : RibD} {u : Int} {j : Nat} (hj : j < r.fs.length) (h : r.fs[j] = u) : isF r u = true := by
  unfold isF
  rw [List.contains_iff_mem, ← h]
  exact List.getElem_mem hj
theorem nf_succ (r : RibD) (a n : Nat) : nf r a (n + 1) = nf r a n + if isF r ((a + n : Nat) : Int) = true then 1 else 0 := by
  unfold nf isum
  rw [List.range_succ, List.map_append, List.sum_append]
  simp
theorem nf_bd (r : RibD) (a : Nat) : ∀ n, 0 ≤ nf r a n ∧ nf r a n ≤ n
  | 0 => by simp [nf, isum]
  | n + 1 => by
    have := nf_bd r a n
    rw [nf_succ]
    split <;> omega

set_option maxHeartbeats 1000000 in
theorem rIsFault_any (v : Value) (r : RibD) (u : Int) (w : World) (hv : RibAt w v r) (hlen : r.fs.length ≤ 1000) :
    Calls Try.prog 45 #[v, .int .i64 u] w fun e w' => e = .returned (.bool (isF r u)) ∧ Below w.heap.size w w' := by
  obtain ⟨sv, rfl, hi⟩ := hv
  obtain ⟨a, cap, rfl⟩ := hi.slice
  have hB0 := below1 w (.cells #[.int .i64 r.len, .slice a r.fs.length cap] 24)
  have b0 := Blk.new w (.cells #[.int .i64 r.len, .slice a r.fs.length cap] 24)
  have HA := Lib.hid (hi.below hB0).at.2
  clear hi
  go_enter Try.func45, Try.ntmps45
  go_wp2
  generalize w.alloc (.cells #[.int .i64 r.len, .slice a r.fs.length cap] 24) = W0 at *
  have c1 := b0.cell 1
  simp at c1
  go_loop [5] (fun i => ∃ k : Nat, k ≤ r.fs.length ∧ i = .int .i64 k ∧ ∀ j (hj : j < r.fs.length), j < k → r.fs[j] ≠ u) (fun i => r.fs.length - (intOf i).toNat)
  case atStart => exact ⟨0, Nat.zero_le _, rfl, fun j _ h => absurd h (Nat.not_lt_zero _)⟩
  case round =>
    obtain ⟨k, hk, rfl, hno⟩ := hrel
    have HO := Lib.hid hno
    clear hno
    by_cases hlt : k < r.fs.length
    · obtain ⟨b, off, rfl, hc⟩ := HA.out k hlt
      by_cases he : r.fs[k] = u
      · have he' : (r.fs[k] == u) = true := by simp [he]
        have HY := Lib.hid (isF_yes hlt he)
        clear he
        go_wp2
        go_ret
        exact ⟨ret_bool HY.out.symm, hB0⟩
      · have he' : (r.fs[k] == u) = false := by simp [he]
        have HE := Lib.hid he
        clear he
        go_wp2
        go_round
        case rel =>
          refine ⟨k + 1, by omega, by go_num, fun j hj hjk => ?_⟩
          by_cases h : j < k
          · exact HO.out j hj h
          · obtain rfl : j = k := by omega
            exact HE.out
        case measure => simp [intOf]; omega
    · obtain rfl : k = r.fs.length := by omega
      go_wp2
      go_ret
      exact ⟨ret_bool (isF_no fun j hj => HO.out j hj hj).symm, hB0⟩

theorem canB_far {r : RibD} {k : KindD} {a : Nat} (h : r.len < (a : Int) + k.w) : canB r k a = false := by
  unfold canB
  rw [decide_eq_false (by omega)]; rfl
theorem canB_near {r : RibD} {k : KindD} {a : Nat} (h : (a : Int) + k.w ≤ r.len) : canB r k a = decide (nf r a k.w.toNat ≤ k.m) := by
  unfold canB
  rw [decide_eq_true h]; rfl
abbrev kV (k : KindD) : Value := .agg #[.int .i64 k.w, .int .i64 k.p, .int .i64 k.m]

set_option maxRecDepth 100000 in
set_option maxHeartbeats 2000000 in
theorem rCan_any (v : Value) (r : RibD) (k : KindD) (a : Nat) (w : World) (hv : RibAt w v r) (hlen : r.fs.length ≤ 1000) (ha : a ≤ 1000) (hl : r.len ≤ 24) (hw0 : 0 ≤ k.w) (hw : k.w ≤ 24) :
    Calls Try.prog 60 #[v, kV k, .int .i64 a] w fun e w' => e = .returned (.bool (canB r k a)) ∧ Below w.heap.size w w' := by
  obtain ⟨sv, rfl, hi⟩ := hv
  obtain ⟨sa, cap, rfl⟩ := hi.slice
  unfold kV
  have hB0 := below2 w (.cells #[.int .i64 r.len, .slice sa r.fs.length cap] 24) (.cells #[.int .i64 k.w, .int .i64 k.p, .int .i64 k.m] 67)
  have b0 := (Blk.new w (.cells #[.int .i64 r.len, .slice sa r.fs.length cap] 24)).alloc (.cells #[.int .i64 k.w, .int .i64 k.p, .int .i64 k.m] 67)
  have b1 := Blk.new (w.alloc (.cells #[.int .i64 r.len, .slice sa r.fs.length cap] 24)) (.cells #[.int .i64 k.w, .int .i64 k.p, .int .i64 k.m] 67)
  rw [World.size_alloc] at b1
  have HI := Lib.hid hi
  clear hi
  by_cases hfar : r.len < (a : Int) + k.w
  · have hd : decide (r.len < (a : Int) + k.w) = true := by simpa using hfar
    have HF := Lib.hid (canB_far hfar)
    go_enter Try.func60, Try.ntmps60
    go_wp2
    go_ret
    exact ⟨ret_bool HF.out.symm, hB0⟩
  have hd : decide (r.len < (a : Int) + k.w) = false := by simpa using hfar
  have HN := Lib.hid (canB_near (r := r) (k := k) (a := a) (by omega))
  have hwr : IntKind.i64.wrap ((a : Int) + k.w) = (a : Int) + k.w := IntWalk.i64_in _ (by omega)
  have hs0 : 0 ≤ (a : Int) + k.w := by omega
  go_enter Try.func60, Try.ntmps60
  go_wp2
  clear hd
  generalize (w.alloc (.cells #[.int .i64 r.len, .slice sa r.fs.length cap] 24)).alloc (.cells #[.int .i64 k.w, .int .i64 k.p, .int .i64 k.m] 67) = W0 at *
  go_loopw [7, 8] (fun f u wr => ∃ n : Nat, (n : Int) ≤ k.w ∧ u = .int .i64 ((a + n : Nat) : Int) ∧ f = .int .i64 (nf r a n) ∧ Below W0.heap.size W0 wr) (fun _ u _ => (a + k.w.toNat) - (intOf u).toNat)
  case atStart => exact ⟨0, by omega, by simp, by simp [nf, isum], Below.refl _ _⟩
  case round =>
    obtain ⟨n, hn, rfl, rfl, hB⟩ := hrel
    have hnf := nf_bd r a n
    have b0' := b0.below hB
    have b1' := b1.below hB
    have c0 := b0'.cell 0
    have c1 := b0'.cell 1
    have k0 := b1'.cell 0
    have k2 := b1'.cell 2
    simp at c0 c1 k0 k2
    by_cases hlt : (n : Int) < k.w
    · have hd : decide (((a + n : Nat) : Int) < (a : Int) + k.w) = true := by simp; omega
      have hd' : decide ((a : Int) + (n : Int) < (a : Int) + k.w) = true := by simp; omega
      have HS := Lib.hid (nf_succ r a n)
      go_wp2_with fail
      refine (rIsFault_any _ r _ _ ⟨_, rfl, HI.out.below (bC hB0 hB)⟩ hlen).mono ?_
      rintro e w2 ⟨rfl, hb2⟩
      by_cases hf : isF r ((a + n : Nat) : Int) = true
      · have HS' := Lib.hid (show nf r a (n + 1) = nf r a n + 1 by rw [HS.out, if_pos hf])
        rw [Int.natCast_add] at hf
        rw [hf]
        go_wp2
        go_roundw
        case rel => exact ⟨n + 1, by omega, by go_num, by rw [HS'.out], bC hB hb2⟩
        case measure => simp [intOf]; omega
      · have HS' := Lib.hid (show nf r a (n + 1) = nf r a n by rw [HS.out, if_neg hf]; omega)
        rw [Bool.not_eq_true, Int.natCast_add] at hf
        rw [hf]
        go_wp2
        go_roundw
        case rel => exact ⟨n + 1, by omega, by go_num, by rw [HS'.out], bC hB hb2⟩
        case measure => simp [intOf]; omega
    · have hd : decide (((a + n : Nat) : Int) < (a : Int) + k.w) = false := by simp; omega
      have hd' : decide ((a : Int) + (n : Int) < (a : Int) + k.w) = false := by simp; omega
      have HE := Lib.hid (show k.w.toNat = n by omega)
      go_wp2
      go_ret
      refine ⟨ret_bool ?_, bC hB0 hB⟩
      rw [HN.out, HE.out]
end Go.Proofs.Ytnkeikhkafbokaa
