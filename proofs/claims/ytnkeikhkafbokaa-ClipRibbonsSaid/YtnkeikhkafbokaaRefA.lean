import Derived.Test.YtnkeikhkafbokaaCMem
import Derived.Test.YtnkeikhkafbokaaDag9
namespace Go.Proofs.Ytnkeikhkafbokaa
open Go.RowKit Go.Dag

/-! ## The reference: which ribbons and kinds are valid -/
theorem fsOk_no {len : Int} {fs : List Int} {k : Nat} {lo : Int} (hk : k < fs.length) (h : ¬ (lo ≤ fs[k] ∧ fs[k] ≤ len - 1)) : fsOk len lo (fs.drop k) = false := by
  rw [fsOk_snoc hk]
  have : (decide (lo ≤ fs[k]) && decide (fs[k] ≤ len - 1)) = false := by
    rw [Bool.and_eq_false_iff]
    simp only [decide_eq_false_iff_not]
    omega
  rw [this]; rfl
/-- The least that the next fault may be. -/
def loF (fs : List Int) (k : Nat) : Int := if k = 0 then 0 else fs.getD (k - 1) 0 + 1
theorem loF_succ {fs : List Int} {k : Nat} (hk : k < fs.length) : loF fs (k + 1) = fs[k] + 1 := by
  unfold loF
  rw [if_neg (by omega), Nat.add_sub_cancel, List.getD_eq_getElem?_getD, List.getElem?_eq_getElem hk]
  rfl
theorem ribErr_len {r : RibD} (h : r.len < 1 ∨ 24 < r.len) : ribErr r = 6 := by unfold ribErr; rw [if_pos h]
theorem ribErr_in {r : RibD} (h : ¬ (r.len < 1 ∨ 24 < r.len)) : ribErr r = if fsOk r.len 0 r.fs = true then 0 else 3 := by unfold ribErr; rw [if_neg h]

set_option maxRecDepth 100000 in
set_option maxHeartbeats 4000000 in
theorem rCheckRibbon_any (v : Value) (r : RibD) (w : World) (hv : RibAt w v r) (hlen : r.fs.length ≤ 1000000) :
    Calls Try.prog 21 #[v] w fun e w' => e = .returned (.int .i64 (ribErr r)) ∧ Below w.heap.size w w' := by
  obtain ⟨sv, rfl, hi⟩ := hv
  obtain ⟨a, cap, rfl⟩ := hi.slice
  by_cases h1 : r.len < 1
  · have HE := Lib.hid (ribErr_len (.inl h1))
    clear hi
    go_enter Try.func21, Try.ntmps21
    go_wp2
    go_ret
    exact ⟨ret_int HE.out.symm, below1 _ _⟩
  by_cases h2 : 24 < r.len
  · have HE := Lib.hid (ribErr_len (.inr h2))
    clear hi
    go_enter Try.func21, Try.ntmps21
    go_wp2
    go_ret
    exact ⟨ret_int HE.out.symm, below1 _ _⟩
  have HE := Lib.hid (ribErr_in (r := r) (by omega))
  have hat := (hi.at).2
  have HA := Lib.hid hat
  clear hi hat
  go_enter Try.func21, Try.ntmps21
  go_wp2
  go_loopw [3] (fun i wr => ∃ k : Nat, k ≤ r.fs.length ∧ i = .int .i64 k ∧ fsOk r.len 0 r.fs = fsOk r.len (loF r.fs k) (r.fs.drop k) ∧ 0 ≤ loF r.fs k ∧ ∃ nq, wr = (w.alloc (.cells #[.int .i64 r.len, .slice a r.fs.length cap] 24)).drewN nq) (fun i _ => r.fs.length - (intOf i).toNat)
  case atStart => exact ⟨0, Nat.zero_le _, rfl, rfl, Int.le_refl _, 0, rfl⟩
  case round =>
    obtain ⟨k, hk, rfl, hok, hlo, nq, rfl⟩ := hrel
    have HO := Lib.hid hok
    clear hok
    by_cases hlt : k < r.fs.length
    · obtain ⟨b, off, rfl, hc⟩ := HA.out k hlt
      have hbl := lt_of_cell hc
      have hsn := Lib.hid (fsOk_no (len := r.len) (lo := loF r.fs k) hlt)
      have hss := Lib.hid (fsOk_snoc (len := r.len) (lo := loF r.fs k) hlt)
      have hls := Lib.hid (loF_succ hlt)
      by_cases c1 : r.fs[k] < 0
      · have d1 : decide (r.fs[k] < 0) = true := by simpa using c1
        go_wp2_with fail
        go_quiet (fail)
        go_wp2
        go_ret
        refine ⟨ret_int ?_, below_drewN (below_drewN (below1 _ _) _) _⟩
        rw [HE.out, HO.out, hsn.out (by omega)]; rfl
      have d1 : decide (r.fs[k] < 0) = false := by simpa using c1
      by_cases c2 : r.len ≤ r.fs[k]
      · have d2 : decide (r.len ≤ r.fs[k]) = true := by simpa using c2
        go_wp2_with fail
        go_quiet (fail)
        go_wp2
        go_ret
        refine ⟨ret_int ?_, below_drewN (below_drewN (below1 _ _) _) _⟩
        rw [HE.out, HO.out, hsn.out (by omega)]; rfl
      have d2 : decide (r.len ≤ r.fs[k]) = false := by simpa using c2
      by_cases c3 : ¬ 0 < k
      · have HK0 := Lib.hid (show k = 0 by omega)
        have hl0 : loF r.fs k = 0 := by rw [HK0.out]; rfl
        have HL0 := Lib.hid hl0
        have hd : decide ((0 : Int) < (k : Int)) = false := by simp; omega
        clear hl0
        go_wp2_with fail
        go_quiet (fail)
        clear hd
        go_wp2
        go_roundw
        case rel =>
          refine ⟨k + 1, by omega, by go_num, ?_, ?_, _, rfl⟩
          · rw [HO.out, hss.out, decide_eq_true (by rw [HL0.out]; omega), decide_eq_true (by omega), hls.out]; rfl
          · have := hls.out; omega
        case measure => simp [intOf]; omega
      · have hk0 : 0 < k := by omega
        obtain ⟨b', off', e, hc'⟩ := HA.out (k - 1) (by omega)
        obtain ⟨rfl, rfl⟩ : b = b' ∧ off = off' := by simpa using e
        clear e
        have hl0 : loF r.fs k = r.fs[k - 1] + 1 := by
          unfold loF
          rw [if_neg (by omega), List.getD_eq_getElem?_getD, List.getElem?_eq_getElem (by omega)]; rfl
        have HL0 := Lib.hid hl0
        clear hl0
        have d3 : decide ((0 : Int) < (k : Int)) = true := by simp; omega
        by_cases c4 : r.fs[k] ≤ r.fs[k - 1]
        · have d4 : decide (r.fs[k] ≤ r.fs[k - 1]) = true := by simpa using c4
          go_wp2_with fail
          go_quiet (fail)
          go_wp2
          go_ret
          refine ⟨ret_int ?_, below_drewN (below_drewN (below1 _ _) _) _⟩
          have := HL0.out
          rw [HE.out, HO.out, hsn.out (by omega)]; rfl
        · have d4 : decide (r.fs[k] ≤ r.fs[k - 1]) = false := by simpa using c4
          go_wp2_with fail
          go_quiet (fail)
          clear d3 d4
          go_wp2
          go_roundw
          case rel =>
            refine ⟨k + 1, by omega, by go_num, ?_, ?_, _, rfl⟩
            · have := HL0.out
              rw [HO.out, hss.out, decide_eq_true (by omega), decide_eq_true (by omega), hls.out]; rfl
            · have := hls.out; omega
          case measure => simp [intOf]; omega
    · obtain rfl : k = r.fs.length := by omega
      go_wp2
      go_ret
      refine ⟨ret_int ?_, below_drewN (below1 _ _) _⟩
      rw [HE.out, HO.out, List.drop_length]; rfl
end Go.Proofs.Ytnkeikhkafbokaa
