import Derived.Test.YtnkeikhkafbokaaRefB
namespace Go.Proofs.Ytnkeikhkafbokaa
open Go.RowKit Go.Dag

theorem ret_bool {a b : Bool} (h : a = b) : Ending.returned (.bool a) = .returned (.bool b) := by rw [h]
theorem isF_no {r : RibD} {u : Int} (h : ∀ j (hj : j < r.fs.length), r.fs[j] ≠ u) : isF r u = false := by
  cases e : isF r u with
  | false => rfl
  | true =>
    unfold isF at e
    rw [List.contains_iff_mem] at e
    obtain ⟨j, hj, e⟩ := List.mem_iff_getElem.1 e
    exact absurd e (h j hj)
theorem isF_yes {r : RibD} {u : Int} {j : Nat} (hj : j < r.fs.length) (h : r.fs[j] = u) : isF r u = true := by
  unfold isF
  rw [List.contains_iff_mem, ← h]
  exact List.getElem_mem hj
theorem nf_succ (r : RibD) (a n : Nat) : nf r a (n + 1) = nf r a n + if isF r ((a + n : Nat) : Int) = true then 1 else 0 := by
  unfold nf isum
  rw [List.range_succ, List.map_append, List.sum_append]
  simp
theorem nf_bd (r : RibD) (a : Nat) : ∀ n, 0 ≤ nf r a n ∧ nf r a n ≤ n
  | 0 => by simp [nf, isum]
  | n + 1 => by
    have := nf_bd r a n
    rw [nf_succ]
    split <;> omega

set_option maxHeartbeats 1000000 in
theorem rIsFault_any (v : Value) (r : RibD) (u : Int) (w : World) (hv : RibAt w v r) (hlen : r.fs.length ≤ 1000) :
    Calls Try.prog 45 #[v, .int .i64 u] w fun e w' => e = .returned (.bool (isF r u)) ∧ Below w.heap.size w w' := by
  obtain ⟨sv, rfl, hi⟩ := hv
  obtain ⟨a, cap, rfl⟩ := hi.slice
  have hB0 := below1 w (.cells #[.int .i64 r.len, .slice a r.fs.length cap] 24)
  have b0 := Blk.new w (.cells #[.int .i64 r.len, .slice a r.fs.length cap] 24)
  have HA := Lib.hid (hi.below hB0).at.2
  clear hi
  go_enter Try.func45, Try.ntmps45
  go_wp2
  generalize w.alloc (.cells #[.int .i64 r.len, .slice a r.fs.length cap] 24) = W0 at *
  have c1 := b0.cell 1
  simp at c1
  go_loop [5] (fun i => ∃ k : Nat, k ≤ r.fs.length ∧ i = .int .i64 k ∧ ∀ j (hj : j < r.fs.length), j < k → r.fs[j] ≠ u) (fun i => r.fs.length - (intOf i).toNat)
  case atStart => exact ⟨0, Nat.zero_le _, rfl, fun j _ h => absurd h (Nat.not_lt_zero _)⟩
  case round =>
    obtain ⟨k, hk, rfl, hno⟩ := hrel
    have HO := Lib.hid hno
    clear hno
    by_cases hlt : k < r.fs.length
    · obtain ⟨b, off, rfl, hc⟩ := HA.out k hlt
      by_cases he : r.fs[k] = u
      · have he' : (r.fs[k] == u) = true := by simp [he]
        have HY := Lib.hid (isF_yes hlt he)
        clear he
        go_wp2
        go_ret
        exact ⟨ret_bool HY.out.symm, hB0⟩
      · have he' : (r.fs[k] == u) = false := by simp [he]
        have HE := Lib.hid he
        clear he
        go_wp2
        go_round
        case rel =>
          refine ⟨k + 1, by omega, by go_num, fun j hj hjk => ?_⟩
          by_cases h : j < k
          · exact HO.out j hj h
          · obtain rfl : j = k := by omega
            exact HE.out
        case measure => simp [intOf]; omega
    · obtain rfl : k = r.fs.length := by omega
      go_wp2
      go_ret
      exact ⟨ret_bool (isF_no fun j hj => HO.out j hj hj).symm, hB0⟩

theorem canB_far {r : RibD} {k : KindD} {a : Nat} (h : r.len < (a : Int) + k.w) : canB r k a = false := by
  unfold canB
  rw [decide_eq_false (by omega)]; rfl
theorem canB_near {r : RibD} {k : KindD} {a : Nat} (h : (a : Int) + k.w ≤ r.len) : canB r k a = decide (nf r a k.w.toNat ≤ k.m) := by
  unfold canB
  rw [decide_eq_true h]; rfl
abbrev kV (k : KindD) : Value := .agg #[.int .i64 k.w, .int .i64 k.p, .int .i64 k.m]

set_option maxRecDepth 100000 in
set_option maxHeartbeats 2000000 in
theorem rCan_any (v : Value) (r : RibD) (k : KindD) (a : Nat) (w : World) (hv : RibAt w v r) (hlen : r.fs.length ≤ 1000) (ha : a ≤ 1000) (hl : r.len ≤ 24) (hw0 : 0 ≤ k.w) (hw : k.w ≤ 24) :
    Calls Try.prog 60 #[v, kV k, .int .i64 a] w fun e w' => e = .returned (.bool (canB r k a)) ∧ Below w.heap.size w w' := by
  obtain ⟨sv, rfl, hi⟩ := hv
  obtain ⟨sa, cap, rfl⟩ := hi.slice
  unfold kV
  have hB0 := below2 w (.cells #[.int .i64 r.len, .slice sa r.fs.length cap] 24) (.cells #[.int .i64 k.w, .int .i64 k.p, .int .i64 k.m] 67)
  have b0 := (Blk.new w (.cells #[.int .i64 r.len, .slice sa r.fs.length cap] 24)).alloc (.cells #[.int .i64 k.w, .int .i64 k.p, .int .i64 k.m] 67)
  have b1 := Blk.new (w.alloc (.cells #[.int .i64 r.len, .slice sa r.fs.length cap] 24)) (.cells #[.int .i64 k.w, .int .i64 k.p, .int .i64 k.m] 67)
  rw [World.size_alloc] at b1
  have HI := Lib.hid hi
  clear hi
  by_cases hfar : r.len < (a : Int) + k.w
  · have hd : decide (r.len < (a : Int) + k.w) = true := by simpa using hfar
    have HF := Lib.hid (canB_far hfar)
    go_enter Try.func60, Try.ntmps60
    go_wp2
    go_ret
    exact ⟨ret_bool HF.out.symm, hB0⟩
  have hd : decide (r.len < (a : Int) + k.w) = false := by simpa using hfar
  have HN := Lib.hid (canB_near (r := r) (k := k) (a := a) (by omega))
  have hwr : IntKind.i64.wrap ((a : Int) + k.w) = (a : Int) + k.w := IntWalk.i64_in _ (by omega)
  have hs0 : 0 ≤ (a : Int) + k.w := by omega
  go_enter Try.func60, Try.ntmps60
  go_wp2
  clear hd
  generalize (w.alloc (.cells #[.int .i64 r.len, .slice sa r.fs.length cap] 24)).alloc (.cells #[.int .i64 k.w, .int .i64 k.p, .int .i64 k.m] 67) = W0 at *
  go_loopw [7, 8] (fun f u wr => ∃ n : Nat, (n : Int) ≤ k.w ∧ u = .int .i64 ((a + n : Nat) : Int) ∧ f = .int .i64 (nf r a n) ∧ Below W0.heap.size W0 wr) (fun _ u _ => (a + k.w.toNat) - (intOf u).toNat)
  case atStart => exact ⟨0, by omega, by simp, by simp [nf, isum], Below.refl _ _⟩
  case round =>
    obtain ⟨n, hn, rfl, rfl, hB⟩ := hrel
    have hnf := nf_bd r a n
    have b0' := b0.below hB
    have b1' := b1.below hB
    have c0 := b0'.cell 0
    have c1 := b0'.cell 1
    have k0 := b1'.cell 0
    have k2 := b1'.cell 2
    simp at c0 c1 k0 k2
    by_cases hlt : (n : Int) < k.w
    · have hd : decide (((a + n : Nat) : Int) < (a : Int) + k.w) = true := by simp; omega
      have hd' : decide ((a : Int) + (n : Int) < (a : Int) + k.w) = true := by simp; omega
      have HS := Lib.hid (nf_succ r a n)
      go_wp2_with fail
      refine (rIsFault_any _ r _ _ ⟨_, rfl, HI.out.below (bC hB0 hB)⟩ hlen).mono ?_
      rintro e w2 ⟨rfl, hb2⟩
      by_cases hf : isF r ((a + n : Nat) : Int) = true
      · have HS' := Lib.hid (show nf r a (n + 1) = nf r a n + 1 by rw [HS.out, if_pos hf])
        rw [Int.natCast_add] at hf
        rw [hf]
        go_wp2
        go_roundw
        case rel => exact ⟨n + 1, by omega, by go_num, by rw [HS'.out], bC hB hb2⟩
        case measure => simp [intOf]; omega
      · have HS' := Lib.hid (show nf r a (n + 1) = nf r a n by rw [HS.out, if_neg hf]; omega)
        rw [Bool.not_eq_true, Int.natCast_add] at hf
        rw [hf]
        go_wp2
        go_roundw
        case rel => exact ⟨n + 1, by omega, by go_num, by rw [HS'.out], bC hB hb2⟩
        case measure => simp [intOf]; omega
    · have hd : decide (((a + n : Nat) : Int) < (a : Int) + k.w) = false := by simp; omega
      have hd' : decide ((a : Int) + (n : Int) < (a : Int) + k.w) = false := by simp; omega
      have HE := Lib.hid (show k.w.toNat = n by omega)
      go_wp2
      go_ret
      refine ⟨ret_bool ?_, bC hB0 hB⟩
      rw [HN.out, HE.out]
end Go.Proofs.Ytnkeikhkafbokaa
