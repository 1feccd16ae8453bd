import Derived.Test.YtnkeikhkafbokaaProgB
namespace Go.Proofs.Ytnkeikhkafbokaa
open Go.RowKit Go.Dag Go.Sort

/-! ## The program: which sheets can be cut -/
theorem canI_neg {r : RibD} {ks : List KindD} {a : Int} {i : Nat} (h : a < 0) : canI r ks a i = false := by unfold canI; rw [decide_eq_false (by omega)]; rfl
theorem canI_nat {r : RibD} {ks : List KindD} {a i : Nat} : canI r ks (a : Int) i = canB r (kd ks i) a := by unfold canI; rw [decide_eq_true (by omega), Int.toNat_natCast]; rfl

set_option maxRecDepth 100000 in
set_option maxHeartbeats 4000000 in
theorem canCut_any (T M : Nat) (r : RibD) (ks : List KindD) (a : Int) (i : Nat) (w : World) (hT : TabAt w T M r ks) (hr : RibOk r) (hks : KindsOk ks) (hi : i < ks.length) (ha : -1000 ≤ a) (ha2 : a ≤ 1000) :
    Calls Try.prog 56 #[.pointer (some ⟨T, 0, none⟩), shV a i] w fun e w' => e = .returned (.bool (canI r ks a i)) ∧ Below w.heap.size w w' := by
  obtain ⟨kb, koff, kcap, q, mb, moff, mcap, ht⟩ := hT
  have hB0 := below1 w (.cells #[.int .i64 a, .int .i64 i] 56)
  have b0 := Blk.new w (.cells #[.int .i64 a, .int .i64 i] 56)
  have HT := Lib.hid (ht.below hB0)
  have hTl := lt_of_cell ht.c0
  have hk6 := hks.1
  have hl1 := hr.l1
  have hl2 := hr.l2
  clear ht
  have hkd := kd_get hi
  have hko := kd_ok hks hi
  rw [hkd] at hko
  have kw1 := hko.w1
  have kw2 := hko.w2
  have kp1 := hko.p1
  have kp2 := hko.p2
  have HKD := Lib.hid hkd
  clear hkd hko
  have HRK := Lib.hid (And.intro hr hks)
  clear hr hks
  go_enter Try.func56, Try.ntmps56
  go_wp2_with fail
  generalize w.alloc (.cells #[.int .i64 a, .int .i64 i] 56) = W0 at *
  have s0 := b0.cell 0
  have s1 := b0.cell 1
  simp at s0 s1
  by_cases q1 : a < 0
  · have d1 : decide (a < 0) = true := by simpa using q1
    have HT0 := Lib.hid (canI_neg (r := r) (ks := ks) (i := i) q1)
    have g0 := fun d os => cell_regrown s0 d os
    have g1 := fun d os => cell_regrown s1 d os
    clear s0 s1 q1
    have hun : undef = Value.tuple #[] := rfl
    refine wp_region_quiet_below (by kernel_rfl) (by kernel_rfl) ?_
    repeat (
      with_reducible refine wpQuiet_step (fun K hK => ?_)
      go_simp
      first
        | (with_reducible refine hK _ ?_; clear hK K)
        | (apply Exists.intro; refine ⟨fun _ => ?_, hK _ ?_⟩; (fail); clear hK K))
    rw [← hun]
    clear hun
    refine wpQuiet_nil ?_
    intro _ hw'
    obtain ⟨⟨dq, osq⟩, hw''⟩ := hw'
    subst hw''
    have HB := Lib.hid (bC hB0 (below_regrown W0 dq osq))
    clear g0 g1
    generalize grow (redrawn W0 dq) osq = w3 at *
    go_wp2
    go_ret
    exact ⟨ret_bool HT0.out.symm, HB.out⟩
  have d1 : decide (a < 0) = false := by simpa using q1
  obtain ⟨an, rfl⟩ : ∃ an : Nat, a = (an : Int) := ⟨a.toNat, by omega⟩
  obtain ⟨Wn, hWn⟩ : ∃ Wn : Nat, ks[i].w = (Wn : Int) := ⟨ks[i].w.toNat, by omega⟩
  have HWN := Lib.hid hWn
  have HCI := Lib.hid (canI_nat (r := r) (ks := ks) (a := an) (i := i))
  rw [HKD.out] at HCI
  clear q1
  have hE : ∀ (d : Nat) (os : Array Obj), _ := fun d os => Calls.regrown_of (end_any T M r ks (an : Int) i (grow (redrawn W0 d) os) ⟨_, _, _, _, _, _, _, HT.out.below (below_regrown W0 d os)⟩ HRK.out.1 HRK.out.2 hi (by omega) ha2)
  rw [HKD.out, hWn] at hE
  rw [hWn] at kw1 kw2
  have t0 := HT.out.c0
  have g0 := fun d os => cell_regrown s0 d os
  have g1 := fun d os => cell_regrown s1 d os
  have g2 := fun d os => cell_regrown t0 d os
  clear s0 s1 t0 hWn
  by_cases q2 : r.len < (an : Int) + (Wn : Int)
  · have d2 : decide (r.len < (an : Int) + (Wn : Int)) = true := by simpa using q2
    have HT0 := Lib.hid (canB_far (r := r) (k := ks[i]) (a := an) (by rw [HWN.out]; exact q2))
    clear q2
    have hun : undef = Value.tuple #[] := rfl
    refine wp_region_quiet_below (by kernel_rfl) (by kernel_rfl) ?_
    repeat (
      with_reducible refine wpQuiet_step (fun K hK => ?_)
      go_simp
      first
        | (with_reducible refine hK _ ?_; clear hK K)
        | (apply Exists.intro; refine ⟨fun _ => ?_, hK _ ?_⟩; (go_at_call 58; exact hE _ _); clear hK K))
    rw [← hun]
    clear hun
    refine wpQuiet_nil ?_
    intro _ hw'
    obtain ⟨⟨dq, osq⟩, hw''⟩ := hw'
    subst hw''
    have HB := Lib.hid (bC hB0 (below_regrown W0 dq osq))
    clear g0 g1 g2 hE
    generalize grow (redrawn W0 dq) osq = w3 at *
    go_wp2
    go_ret
    exact ⟨ret_bool (by rw [HCI.out, HT0.out]), HB.out⟩
  · have d2 : decide (r.len < (an : Int) + (Wn : Int)) = false := by simpa using q2
    have HT0 := Lib.hid (canB_near (r := r) (k := ks[i]) (a := an) (by rw [HWN.out]; omega))
    have HN := Lib.hid (show psum (priceF (marks r)) an Wn = nf r an Wn from marks_sum (by omega))
    have hml : (marks r).length = r.len.toNat := marks_len r
    have HML := Lib.hid hml
    have hfit : an + Wn ≤ (marks r).length := by omega
    have hm100 : (marks r).length ≤ 100 := by omega
    clear q2 hml
    have hun : undef = Value.tuple #[] := rfl
    refine wp_region_quiet_below (by kernel_rfl) (by kernel_rfl) ?_
    repeat (
      with_reducible refine wpQuiet_step (fun K hK => ?_)
      go_simp
      first
        | (with_reducible refine hK _ ?_; clear hK K)
        | (apply Exists.intro; refine ⟨fun _ => ?_, hK _ ?_⟩; (go_at_call 58; exact hE _ _); clear hK K))
    rw [← hun]
    clear hun
    refine wpQuiet_nil ?_
    intro _ hw'
    obtain ⟨⟨dq, osq⟩, hw''⟩ := hw'
    subst hw''
    have hbx := below_regrown W0 dq osq
    have HB := Lib.hid (bC hB0 hbx)
    have HT3 := Lib.hid (HT.out.below hbx)
    have b3 := b0.below hbx
    have s0 := b3.cell 0
    have s1 := b3.cell 1
    simp at s0 s1
    clear g0 g1 g2 hE hbx
    generalize grow (redrawn W0 dq) osq = w3 at *
    have hE : ∀ (d : Nat) (os : Array Obj), _ := fun d os => Calls.regrown_of (end_any T M r ks (an : Int) i (grow (redrawn w3 d) os) ⟨_, _, _, _, _, _, _, HT3.out.below (below_regrown w3 d os)⟩ HRK.out.1 HRK.out.2 hi (by omega) ha2)
    rw [HKD.out, HWN.out] at hE
    have hS : ∀ (d : Nat) (os : Array Obj), _ := fun d os => Calls.regrown_of ((sums1_any q mb moff mcap an Wn (marks r) (grow (redrawn w3 d) os) (HT3.out.below (below_regrown w3 d os)).qc HT3.out.cap (HT3.out.below (below_regrown w3 d os)).mc (by omega) hfit hm100 (marks_ok r)).mono fun e w' h => ⟨h.1, by rw [← h.2]; exact Below.refl _ _⟩)
    rw [HN.out, Int.natCast_add] at hS
    obtain ⟨y1, y2, y3⟩ := HT3.out.kin i hi
    have t2 := HT3.out.c2
    have t3 := HT3.out.c3
    obtain ⟨nv, hnv⟩ : ∃ nv, nf r an Wn = nv := ⟨_, rfl⟩
    rw [hnv] at hS
    have HNV := Lib.hid hnv
    clear hnv
    have g0 := fun d os => cell_regrown s0 d os
    have g1 := fun d os => cell_regrown s1 d os
    have g2 := fun d os => cell_regrown t2 d os
    have g3 := fun d os => cell_regrown t3 d os
    have g4 := fun d os => cell_regrown y3 d os
    clear s0 s1 t2 t3 y1 y2 y3 b3
    go_wp2_with fail
    have hun : undef = Value.tuple #[] := rfl
    refine wp_region_quiet_below (by kernel_rfl) (by kernel_rfl) ?_
    repeat (
      with_reducible refine wpQuiet_step (fun K hK => ?_)
      go_simp
      first
        | (with_reducible refine hK _ ?_; clear hK K)
        | (apply Exists.intro; refine ⟨fun _ => ?_, hK _ ?_⟩; (first | (go_at_call 58; exact hE _ _) | (go_at_call 78; exact hS _ _)); clear hK K))
    rw [← hun]
    clear hun
    refine wpQuiet_nil ?_
    intro _ hw'
    obtain ⟨⟨dq, osq⟩, hw''⟩ := hw'
    subst hw''
    have HB2 := Lib.hid (bC HB.out (below_regrown w3 dq osq))
    clear g0 g1 g2 g3 g4 hE hS
    generalize grow (redrawn w3 dq) osq = w5 at *
    go_wp2
    go_ret
    exact ⟨ret_bool (by rw [HCI.out, HT0.out, HWN.out, Int.toNat_natCast, HNV.out]), HB2.out⟩

end Go.Proofs.Ytnkeikhkafbokaa
