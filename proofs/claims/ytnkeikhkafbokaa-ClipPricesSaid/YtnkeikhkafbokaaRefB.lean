import Derived.Test.YtnkeikhkafbokaaRefA
namespace Go.Proofs.Ytnkeikhkafbokaa
open Go.RowKit Go.Dag

theorem kindErr_len {ks : List KindD} (h : ks.length < 1 ∨ 6 < ks.length) : kindErr ks = 6 := by unfold kindErr; rw [if_pos h]
theorem kindErr_in {ks : List KindD} (h : ¬ (ks.length < 1 ∨ 6 < ks.length)) : kindErr ks = if ks.all okKind = true then 0 else 3 := by unfold kindErr; rw [if_neg h]
theorem okKind_no {k : KindD} (h : k.w < 1 ∨ 24 < k.w ∨ k.p < 1 ∨ 1000 < k.p ∨ k.m < 0 ∨ 24 < k.m) : okKind k = false := by
  cases e : okKind k with
  | false => rfl
  | true => obtain ⟨a, b, c, d, e, f⟩ := (okKind_iff k).1 e; omega
theorem okKind_yes {k : KindD} (a : ¬ k.w < 1) (b : ¬ 24 < k.w) (c : ¬ k.p < 1) (d : ¬ 1000 < k.p) (e : ¬ k.m < 0) (f : ¬ 24 < k.m) : okKind k = true :=
  (okKind_iff k).2 ⟨by omega, by omega, by omega, by omega, by omega, by omega⟩

set_option maxRecDepth 100000 in
set_option maxHeartbeats 4000000 in
theorem rCheckKinds_any (v : Value) (ks : List KindD) (w : World) (hv : KindsAt w v ks) (hlen : ks.length ≤ 1000000) :
    Calls Try.prog 23 #[v] w fun e w' => e = .returned (.int .i64 (kindErr ks)) ∧ Below w.heap.size w w' := by
  obtain ⟨a, cap, rfl⟩ := hv.slice
  by_cases h1 : ks.length < 1
  · have d1 : decide ((ks.length : Int) < 1) = true := by simp; omega
    have HE := Lib.hid (kindErr_len (.inl h1))
    clear hv
    go_enter Try.func23, Try.ntmps23
    go_wp2
    go_ret
    exact ⟨ret_int HE.out.symm, Below.refl _ _⟩
  have d1 : decide ((ks.length : Int) < 1) = false := by simp; omega
  by_cases h2 : 6 < ks.length
  · have d2 : decide ((6 : Int) < (ks.length : Int)) = true := by simp; omega
    have HE := Lib.hid (kindErr_len (.inr h2))
    clear hv
    go_enter Try.func23, Try.ntmps23
    go_wp2
    go_ret
    exact ⟨ret_int HE.out.symm, Below.refl _ _⟩
  have d2 : decide ((6 : Int) < (ks.length : Int)) = false := by simp; omega
  have HE := Lib.hid (kindErr_in (ks := ks) (by omega))
  have HV := Lib.hid (fun k (hk : k < ks.length) => hv.get k hk)
  clear hv
  go_enter Try.func23, Try.ntmps23
  go_wp2
  clear d1 d2
  go_loopw [3] (fun i wr => ∃ k : Nat, k ≤ ks.length ∧ i = .int .i64 k ∧ (ks.take k).all okKind = true ∧ Below w.heap.size w wr) (fun i _ => ks.length - (intOf i).toNat)
  case atStart => exact ⟨0, Nat.zero_le _, rfl, rfl, Below.refl _ _⟩
  case round =>
    obtain ⟨k, hk, rfl, hok, hB⟩ := hrel
    have HO := Lib.hid hok
    clear hok
    by_cases hlt : k < ks.length
    · obtain ⟨b, off, rfl, cw, cp, cm⟩ := HV.out k hlt
      have hbl := lt_of_cell cw
      rw [← hB.cell (p := ⟨b, _, none⟩) hbl] at cw cp cm
      have hz := hB.size
      have bad := Lib.hid (fun h => show kindErr ks = 3 from by rw [HE.out, all_false hlt (okKind_no h)]; rfl)
      have nbl : ¬ (wr.heap.size = b) := by have := lt_of_cell cw; omega
      have HB := Lib.hid (hB.alloc hz (.cells #[.int .i64 ks[k].w, .int .i64 ks[k].p, .int .i64 ks[k].m] 67))
      by_cases c1 : ks[k].w < 1
      · have e1 : decide (ks[k].w < 1) = true := by simpa using c1
        go_wp2
        go_ret
        exact ⟨ret_int (bad.out (.inl c1)).symm, HB.out⟩
      have e1 : decide (ks[k].w < 1) = false := by simpa using c1
      by_cases c2 : 24 < ks[k].w
      · have e2 : decide (24 < ks[k].w) = true := by simpa using c2
        go_wp2
        go_ret
        exact ⟨ret_int (bad.out (.inr (.inl c2))).symm, HB.out⟩
      have e2 : decide (24 < ks[k].w) = false := by simpa using c2
      by_cases c3 : ks[k].p < 1
      · have e3 : decide (ks[k].p < 1) = true := by simpa using c3
        go_wp2
        go_ret
        exact ⟨ret_int (bad.out (.inr (.inr (.inl c3)))).symm, HB.out⟩
      have e3 : decide (ks[k].p < 1) = false := by simpa using c3
      by_cases c4 : 1000 < ks[k].p
      · have e4 : decide (1000 < ks[k].p) = true := by simpa using c4
        go_wp2
        go_ret
        exact ⟨ret_int (bad.out (.inr (.inr (.inr (.inl c4))))).symm, HB.out⟩
      have e4 : decide (1000 < ks[k].p) = false := by simpa using c4
      by_cases c5 : ks[k].m < 0
      · have e5 : decide (ks[k].m < 0) = true := by simpa using c5
        go_wp2
        go_ret
        exact ⟨ret_int (bad.out (.inr (.inr (.inr (.inr (.inl c5)))))).symm, HB.out⟩
      have e5 : decide (ks[k].m < 0) = false := by simpa using c5
      by_cases c6 : 24 < ks[k].m
      · have e6 : decide (24 < ks[k].m) = true := by simpa using c6
        go_wp2
        go_ret
        exact ⟨ret_int (bad.out (.inr (.inr (.inr (.inr (.inr c6)))))).symm, HB.out⟩
      have e6 : decide (24 < ks[k].m) = false := by simpa using c6
      have HY := Lib.hid (okKind_yes c1 c2 c3 c4 c5 c6)
      go_wp2
      go_roundw
      case rel => exact ⟨k + 1, by omega, by go_num, all_snoc hlt HO.out HY.out, HB.out⟩
      case measure => simp [intOf]; omega
    · obtain rfl : k = ks.length := by omega
      go_wp2
      go_ret
      refine ⟨ret_int ?_, hB⟩
      have := HO.out
      rw [List.take_length] at this
      rw [HE.out, this]; rfl

set_option maxHeartbeats 1000000 in
theorem rboth_any (v kv : Value) (r : RibD) (ks : List KindD) (w : World) (hv : RibAt w v r) (hk : KindsAt w kv ks) (hlen : r.fs.length ≤ 1000) (hlen2 : ks.length ≤ 1000) :
    Calls Try.prog 59 #[v, kv] w fun e w' => e = .returned (.int .i64 (bothErr r ks)) ∧ Below w.heap.size w w' := by
  obtain ⟨sv, rfl, hi⟩ := hv
  obtain ⟨a, cap, rfl⟩ := hi.slice
  have hB0 := below1 w (.cells #[.int .i64 r.len, .slice a r.fs.length cap] 24)
  have b0 := Blk.new w (.cells #[.int .i64 r.len, .slice a r.fs.length cap] 24)
  have HI := Lib.hid hi
  have HK := Lib.hid hk
  clear hi hk
  go_enter Try.func59, Try.ntmps59
  go_wp2_with fail
  generalize w.alloc (.cells #[.int .i64 r.len, .slice a r.fs.length cap] 24) = W0 at *
  refine (rCheckRibbon_any _ r _ ⟨_, rfl, HI.out.below hB0⟩ (by omega)).mono ?_
  rintro e w1 ⟨rfl, hb1⟩
  have hB1 := bC hB0 hb1
  have b1 := b0.below hb1
  by_cases he : ribErr r = 0
  · have HE : (ribErr r != 0) = false := by simp [he]
    have HR := Lib.hid (show bothErr r ks = kindErr ks by unfold bothErr; rw [if_neg (by omega)])
    clear he
    go_wp2_with fail
    refine (rCheckKinds_any _ ks _ (HK.out.below hB1) (by omega)).mono ?_
    rintro e w2 ⟨rfl, hb2⟩
    go_wp2
    go_ret
    exact ⟨ret_int HR.out.symm, bC hB1 hb2⟩
  · have HE : (ribErr r != 0) = true := by simp [he]
    have HR := Lib.hid (show bothErr r ks = ribErr r by unfold bothErr; rw [if_pos he])
    clear he
    have c0 := b1.cell 0
    have c1 := b1.cell 1
    simp at c0 c1
    go_wp2_with fail
    refine (rCheckRibbon_any _ r _ ⟨_, rfl, HI.out.below hB1⟩ (by omega)).mono ?_
    rintro e w2 ⟨rfl, hb2⟩
    go_wp2
    go_ret
    exact ⟨ret_int HR.out.symm, bC hB1 hb2⟩
end Go.Proofs.Ytnkeikhkafbokaa
