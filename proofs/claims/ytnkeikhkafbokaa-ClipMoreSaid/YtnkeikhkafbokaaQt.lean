import Derived.Test.YtnkeikhkafbokaaQs
namespace Go.Proofs.Ytnkeikhkafbokaa
open Go.RowKit Go.Dag Go.Sort Go.Shelf
attribute [local go_sem] Oper.semAt_some

/-! ## The program: a table with a ribbon -/
theorem FrLM.belowN {w W : World} {n₀ T M : Nat} (h : FrLM w T M W) (hT : n₀ ≤ T) (hM : n₀ ≤ M) (hn : n₀ ≤ w.heap.size) : Below n₀ w W :=
  ⟨h.os, h.tape, h.output, h.size, fun k hk => h.same k (by omega) (by omega) (by omega)⟩
/-- A table that is laid. -/
def LaidAt (w : World) (T M : Nat) (r : RibD) (ks : List KindD) : Prop :=
  TbAt w w.heap.size T M r ks (Ux (tabOf r ks) (r.len.toNat + 1)) (Wx (tabOf r ks) 0) ∧ MapIs w M (Bx (tabOf r ks) 0)
theorem LaidAt.below {w w' : World} {T M : Nat} {r : RibD} {ks : List KindD} (h : LaidAt w T M r ks) (hb : Below w.heap.size w w') : LaidAt w' T M r ks :=
  ⟨(h.1.below (Nat.le_refl _) hb).mono hb.size, h.2.below hb⟩
set_option maxRecDepth 100000 in
set_option maxHeartbeats 4000000 in
theorem lay_err (v kv : Value) (r : RibD) (ks : List KindD) (w : World) (hv : RibAt w v r) (hk : KindsAt w kv ks) (he : bothErr r ks ≠ 0) (hl : r.fs.length ≤ 1000) (hl2 : ks.length ≤ 1000) :
    Calls Try.prog 53 #[v, kv] w fun e w' => e = .returned (.tuple #[.pointer none, .int .i64 (bothErr r ks)]) ∧ Below w.heap.size w w' := by
  obtain ⟨sv, rfl, hi⟩ := hv
  obtain ⟨sa, cap, rfl⟩ := hi.slice
  have hB0 := below1 w (.cells #[.int .i64 r.len, .slice sa r.fs.length cap] 24)
  have b0 := Blk.new w (.cells #[.int .i64 r.len, .slice sa r.fs.length cap] 24)
  have HI := Lib.hid (hi.below hB0)
  have HK := Lib.hid (hk.below hB0)
  clear hi hk
  have c0 := b0.cell 0
  have c1 := b0.cell 1
  simp at c0 c1
  go_enter Try.func53, Try.ntmps53
  go_wp2_with fail
  generalize w.alloc (.cells #[.int .i64 r.len, .slice sa r.fs.length cap] 24) = W0 at *
  refine (CheckRibbon_any _ r _ ⟨_, rfl, HI.out⟩ (by omega)).mono ?_
  rintro e w1 ⟨rfl, hb1⟩
  by_cases q1 : ribErr r = 0
  · have HE := Lib.hid (show bothErr r ks = kindErr ks by unfold bothErr; rw [if_neg (fun h => h q1)])
    rw [q1]
    have hq2 : (kindErr ks != 0) = true := by rw [← HE.out]; simpa using he
    have HB1 := Lib.hid (bC hB0 hb1)
    have HK1 := Lib.hid (HK.out.below hb1)
    clear q1 he hb1 hB0 c0 c1 b0
    go_wp2_with fail
    refine (CheckKinds_any _ ks _ HK1.out (by omega)).mono ?_
    rintro e w2 ⟨rfl, hb2⟩
    have HB2 := Lib.hid (bC HB1.out hb2)
    clear hb2
    go_wp2
    go_ret2
    exact ⟨by rw [HE.out]; rfl, HB2.out⟩
  · have HE := Lib.hid (show bothErr r ks = ribErr r by unfold bothErr; rw [if_pos q1])
    have hq1 : (ribErr r != 0) = true := by simpa using q1
    have HB1 := Lib.hid (bC hB0 hb1)
    clear q1 he hb1 hB0 c0 c1 b0
    go_wp2
    go_ret2
    exact ⟨by rw [HE.out]; rfl, HB1.out⟩
/-- A new table's cells. -/
def newT (kv : Value) (m : Nat) : Array Value := #[.int .i64 0, .slice none 0 0, kv, .nilFunc, .int .i64 0, .int .i64 0, .int .i64 0, .int .i64 0, .int .i64 0, .int .i64 0, .int .i64 0, .int .i64 0, .int .i64 0, .int .i64 0, .int .i64 0, .int .i64 0, .int .i64 0, .int .i64 0, .int .i64 0, .int .i64 0, .int .i64 0, .int .i64 0, .int .i64 0, .int .i64 0, .int .i64 0, .int .i64 0, .int .i64 0, .int .i64 0, .int .i64 0, .int .i64 0, .int .i64 0, .int .i64 0, .int .i64 0, .int .i64 0, .int .i64 0, .int .i64 0, .int .i64 0, .int .i64 0, .int .i64 0, .int .i64 0, .int .i64 0, .int .i64 0, .int .i64 0, .int .i64 0, .int .i64 0, .int .i64 0, .int .i64 0, .int .i64 0, .int .i64 0, .int .i64 0, .int .i64 0, .int .i64 0, .int .i64 0, .int .i64 0, .map (some m)]
theorem newT_up (kv : Value) (m : Nat) : ∀ p, p < 25 → (newT kv m)[4 + p]? = some (.int .i64 0) := fun p hp => match p, hp with
  | 0, _ => rfl
  | 1, _ => rfl
  | 2, _ => rfl
  | 3, _ => rfl
  | 4, _ => rfl
  | 5, _ => rfl
  | 6, _ => rfl
  | 7, _ => rfl
  | 8, _ => rfl
  | 9, _ => rfl
  | 10, _ => rfl
  | 11, _ => rfl
  | 12, _ => rfl
  | 13, _ => rfl
  | 14, _ => rfl
  | 15, _ => rfl
  | 16, _ => rfl
  | 17, _ => rfl
  | 18, _ => rfl
  | 19, _ => rfl
  | 20, _ => rfl
  | 21, _ => rfl
  | 22, _ => rfl
  | 23, _ => rfl
  | 24, _ => rfl
  | n + 25, h => absurd h (by omega)
theorem newT_wy (kv : Value) (m : Nat) : ∀ p, p < 25 → (newT kv m)[29 + p]? = some (.int .i64 0) := fun p hp => match p, hp with
  | 0, _ => rfl
  | 1, _ => rfl
  | 2, _ => rfl
  | 3, _ => rfl
  | 4, _ => rfl
  | 5, _ => rfl
  | 6, _ => rfl
  | 7, _ => rfl
  | 8, _ => rfl
  | 9, _ => rfl
  | 10, _ => rfl
  | 11, _ => rfl
  | 12, _ => rfl
  | 13, _ => rfl
  | 14, _ => rfl
  | 15, _ => rfl
  | 16, _ => rfl
  | 17, _ => rfl
  | 18, _ => rfl
  | 19, _ => rfl
  | 20, _ => rfl
  | 21, _ => rfl
  | 22, _ => rfl
  | 23, _ => rfl
  | 24, _ => rfl
  | n + 25, h => absurd h (by omega)
theorem new_pre {w : World} {ka : Option Addr} {kcap : Nat} {ks : List KindD} (h : KindsAt w (.slice ka ks.length kcap) ks) (hk : 1 ≤ ks.length) : PreT ((w.alloc (.map #[] 0)).alloc (.cells (newT (.slice ka ks.length kcap) w.heap.size) 84)) (w.heap.size + 1) w.heap.size ks := by
  obtain ⟨kb, koff, rfl, hc⟩ := h.get 0 hk
  have hkl := lt_of_cell hc.1
  have hb := Blk.new (w.alloc (.map #[] 0)) (.cells (newT (.slice (some ⟨kb, koff, none⟩) ks.length kcap) w.heap.size) 84)
  rw [World.size_alloc] at hb
  refine ⟨_, kb, koff, kcap, _, _, hb, rfl, rfl, newT_up _ _, newT_wy _ _, rfl, fun i hi => ?_, by omega, by omega, by omega, by simp; omega⟩
  obtain ⟨b', off', e, h1, h2, h3⟩ := h.get i hi
  cases e
  exact ⟨cellB h1 (below2 _ _ _), cellB h2 (below2 _ _ _), cellB h3 (below2 _ _ _)⟩
set_option maxRecDepth 100000 in
set_option maxHeartbeats 4000000 in
theorem lay_ok (v kv : Value) (r : RibD) (ks : List KindD) (w : World) (hv : RibAt w v r) (hk : KindsAt w kv ks) (hr : RibOk r) (hks : KindsOk ks) :
    Calls Try.prog 53 #[v, kv] w fun e w' => ∃ T M, e = .returned (.tuple #[.pointer (some ⟨T, 0, none⟩), .int .i64 0]) ∧ LaidAt w' T M r ks ∧ w.heap.size ≤ T ∧ w.heap.size ≤ M ∧ Below w.heap.size w w' := by
  obtain ⟨sv, rfl, hi⟩ := hv
  obtain ⟨sa, cap, rfl⟩ := hi.slice
  obtain ⟨ka, kcap, rfl⟩ := hk.slice
  have hB0 := below1 w (.cells #[.int .i64 r.len, .slice sa r.fs.length cap] 24)
  have b0 := Blk.new w (.cells #[.int .i64 r.len, .slice sa r.fs.length cap] 24)
  have HI := Lib.hid (hi.below hB0)
  have HK := Lib.hid (hk.below hB0)
  have HRK := Lib.hid (And.intro hr hks)
  have hfc := hr.count
  have hk6 := hks.1
  have hq1 := ribErr_of hr
  have hq2 := kindErr_of hks
  clear hi hk hr hks
  go_enter Try.func53, Try.ntmps53
  go_wp2_with fail
  generalize w.alloc (.cells #[.int .i64 r.len, .slice sa r.fs.length cap] 24) = W0 at *
  have c0 := b0.cell 0
  have c1 := b0.cell 1
  simp at c0 c1
  refine (CheckRibbon_any _ r _ ⟨_, rfl, HI.out⟩ (by omega)).mono ?_
  rintro e w1 ⟨rfl, hb1⟩
  rw [hq1]
  have HB1 := Lib.hid (bC hB0 hb1)
  have HI1 := Lib.hid (HI.out.below hb1)
  have HK1 := Lib.hid (HK.out.below hb1)
  replace b0 := b0.below hb1
  clear hb1 hB0 c0 c1 HI HK
  go_wp2_with fail
  refine (CheckKinds_any _ ks _ HK1.out (by omega)).mono ?_
  rintro e w2 ⟨rfl, hb2⟩
  rw [hq2]
  have HB2 := Lib.hid (bC HB1.out hb2)
  have HI2 := Lib.hid (HI1.out.below hb2)
  have HK2 := Lib.hid (HK1.out.below hb2)
  replace b0 := b0.below hb2
  clear hb2 HB1 HI1 HK1
  have c0 := b0.cell 0
  have c1 := b0.cell 1
  simp at c0 c1
  have hmm := @run_makeMap Try.prog
  have hbl := b0.lt
  have HM3 := Lib.hid (show MapIs ((w2.alloc (.map #[] 0)).alloc (.cells (newT (.slice ka ks.length kcap) w2.heap.size) 84)) w2.heap.size (fun _ => False) from .empty 0 ((Blk.new w2 (.map #[] 0)).alloc _))
  have HB3 := Lib.hid (bC HB2.out (below2 w2 (.map #[] 0) (.cells (newT (.slice ka ks.length kcap) w2.heap.size) 84)))
  have HI3 := Lib.hid (HI2.out.below (below2 w2 (.map #[] 0) (.cells (newT (.slice ka ks.length kcap) w2.heap.size) 84)))
  have HP3 := Lib.hid (new_pre HK2.out (by omega))
  have HAP := Lib.hid (show ∀ b off n c x, Value.agg #[.int .i64 r.len, .slice sa r.fs.length cap] = .agg #[x, .slice (some ⟨b, off, none⟩) n c] → r.fs ≠ [] → b ≠ w2.heap.size + 1 ∧ b ≠ w2.heap.size from by
    intro b off n c x e hne
    simp only [Value.agg.injEq, Array.mk.injEq, List.cons.injEq, Value.slice.injEq, and_true] at e
    obtain ⟨b', off', e', hc⟩ := HI2.out.at.2 0 (by cases hfs : r.fs with | nil => exact absurd hfs hne | cons _ _ => simp)
    rw [e.2.1] at e'
    cases e'
    have := lt_of_cell hc
    omega)
  unfold newT at HM3 HB3 HI3 HP3
  clear HK2 HI2
  go_wp2_with fail
  refine (put_any (w2.heap.size + 1) w2.heap.size _ r ks _ _ ⟨_, rfl, HI3.out⟩ HAP.out HP3.out HM3.out HRK.out.1 HRK.out.2).mono ?_
  rintro e w4 ⟨⟨_, rfl⟩, hT, hM, hF⟩
  have HE := Lib.hid (And.intro (show LaidAt w4 (w2.heap.size + 1) w2.heap.size r ks from ⟨hT, hM⟩) (HB3.out.trans (hF.belowN (n₀ := w.heap.size) (by omega) (by omega) (by simp; omega))))
  clear hT hM hF HI3 HAP HP3 HM3 HB3
  go_wp2
  go_ret2
  exact ⟨_, _, rfl, HE.out.1, by omega, by omega, HE.out.2⟩

set_option maxRecDepth 100000 in
set_option maxHeartbeats 4000000 in
theorem isNamed_any (T M : Nat) (r : RibD) (ks : List KindD) (s : Int × Int) (w : World) (hT : TabAt w T M r ks) (hr : RibOk r) (hks : KindsOk ks) :
    Calls Try.prog 55 #[.pointer (some ⟨T, 0, none⟩), shV s.1 s.2] w fun e w' => e = .returned (.bool (namedB r ks s)) ∧ Below w.heap.size w w' := by
  obtain ⟨a, k⟩ := s
  obtain ⟨kb, koff, kcap, q, mb, moff, mcap, ht⟩ := hT
  obtain ⟨L, hL⟩ : ∃ L : Nat, r.len = (L : Int) := ⟨r.len.toNat, by have := hr.l1; omega⟩
  have hB0 := below1 w (.cells #[.int .i64 a, .int .i64 k] 56)
  have b0 := Blk.new w (.cells #[.int .i64 a, .int .i64 k] 56)
  have t0 := ht.c0
  have t2 := ht.c2
  rw [hL] at t0
  have hk1 := hks.1.1
  have HN := Lib.hid (show namedB r ks (a, k) = (decide (0 ≤ a) && decide (a ≤ (L : Int)) && (decide (0 ≤ k) && decide (k ≤ (ks.length : Int) - 1))) by unfold namedB; rw [hL])
  have hTl := lt_of_cell t0
  have hks6 := hks.1.2
  clear ht hr hks hL
  unfold shV
  go_enter Try.func55, Try.ntmps55
  go_wp2_with fail
  replace t0 := cellB t0 hB0
  replace t2 := cellB t2 hB0
  have HB0 := Lib.hid hB0
  generalize w.alloc (.cells #[.int .i64 a, .int .i64 k] 56) = W0 at *
  have s0 := b0.cell 0
  have s1 := b0.cell 1
  simp at s0 s1
  clear hB0 b0
  have hmk : ∀ (x : Int) (w : World), (Instr.buildSlice 22 1 #[(0, .int .i64 x)]).run Try.prog w = .ok (.slice (some ⟨w.heap.size, 0, none⟩) 1 1) (w.alloc (.cells #[.int .i64 x] 3)) := fun x w => by kernel_rfl
  have ww : IntKind.i64.wrap ((ks.length : Int) - 1) = (ks.length : Int) - 1 := IntWalk.i64_in _ (by omega)
  refine (wp_region_T 20 (fun W' => W'.cell? ⟨T, 0, none⟩ = some (.int .i64 L) ∧ W'.cell? ⟨T, 2, none⟩ = some (.slice (some ⟨kb, koff, none⟩) ks.length kcap) ∧ W'.cell? ⟨w.heap.size, 0, none⟩ = some (.int .i64 a) ∧ W'.cell? ⟨w.heap.size, 1, none⟩ = some (.int .i64 k)) (by kernel_rfl) (by kernel_rfl) ⟨t0, t2, s0, s1⟩ ?_)
  intro inv hS
  clear t0 t2 s0 s1
  have HBd := Lib.hid (HB0.out.drew)
  generalize W0.drew = V0 at *
  refine wpAnyT_take inv (by kernel_rfl) (by omega) (i := 0) (v := .pointer (some ⟨T, 0, none⟩)) rfl (by kernel_rfl) (by kernel_rfl) (fun _ _ _ h => h) (Or.inl ⟨by kernel_rfl, ?_⟩) (by assumption) ?_
  · rintro W' ⟨q0, q1, q2, q3⟩
    go_simp
  intro inv2
  clear inv
  have inv := inv2
  clear inv2
  simp only [Act.put, List.setIfInBounds_toArray]
  refine wpAnyT_take inv (by kernel_rfl) (by omega) (i := 1) (v := .pointer (some ⟨T, 0, none⟩)) rfl (by kernel_rfl) (by kernel_rfl) (fun _ _ _ h => h) (Or.inl ⟨by kernel_rfl, ?_⟩) (by assumption) ?_
  · rintro W' ⟨q0, q1, q2, q3⟩
    go_simp
  intro inv2
  clear inv
  have inv := inv2
  clear inv2
  simp only [Act.put]
  refine wpAnyT_take inv (by kernel_rfl) (by omega) (i := 2) (v := .pointer (some ⟨T, 0, none⟩)) rfl (by kernel_rfl) (by kernel_rfl) (fun _ _ _ h => h) (Or.inl ⟨by kernel_rfl, ?_⟩) (by assumption) ?_
  · rintro W' ⟨q0, q1, q2, q3⟩
    go_simp
  intro inv2
  clear inv
  have inv := inv2
  clear inv2
  simp only [Act.put]
  refine wpAnyT_take inv (by kernel_rfl) (by omega) (i := 3) (v := .pointer (some ⟨T, 0, none⟩)) rfl (by kernel_rfl) (by kernel_rfl) (fun _ _ _ h => h) (Or.inl ⟨by kernel_rfl, ?_⟩) (by assumption) ?_
  · rintro W' ⟨q0, q1, q2, q3⟩
    go_simp
  intro inv2
  clear inv
  have inv := inv2
  clear inv2
  simp only [Act.put]
  refine wpAnyT_take inv (by kernel_rfl) (by omega) (i := 4) (v := .int .i64 (L : Int)) rfl (by kernel_rfl) (by kernel_rfl) (fun _ _ _ h => h) (Or.inl ⟨by kernel_rfl, ?_⟩) (by assumption) ?_
  · rintro W' ⟨q0, q1, q2, q3⟩
    go_simp
  intro inv2
  clear inv
  have inv := inv2
  clear inv2
  simp only [Act.put]
  refine wpAnyT_take inv (by kernel_rfl) (by omega) (i := 5) (v := .pointer (some ⟨w.heap.size, 0, none⟩)) rfl (by kernel_rfl) (by kernel_rfl) (fun _ _ _ h => h) (Or.inl ⟨by kernel_rfl, ?_⟩) (by assumption) ?_
  · rintro W' ⟨q0, q1, q2, q3⟩
    go_simp
  intro inv2
  clear inv
  have inv := inv2
  clear inv2
  simp only [Act.put]
  refine wpAnyT_take inv (by kernel_rfl) (by omega) (i := 6) (v := .int .i64 a) rfl (by kernel_rfl) (by kernel_rfl) (fun _ _ _ h => h) (Or.inl ⟨by kernel_rfl, ?_⟩) (by assumption) ?_
  · rintro W' ⟨q0, q1, q2, q3⟩
    go_simp
  intro inv2
  clear inv
  have inv := inv2
  clear inv2
  simp only [Act.put]
  refine wpAnyT_ready [7] (by kernel_rfl) (by simp) ?_
  refine AllReadyT.cons rfl (fun K hK => ?_) AllReadyT.nil
  go_simp
  have hb1 := below1 V0 (.cells #[.int .i64 a] 3)
  refine hK.out _ _ (fun _ => ⟨cellB hS.1 hb1, cellB hS.2.1 hb1, cellB hS.2.2.1 hb1, cellB hS.2.2.2 hb1⟩) (fun _ => ?_)
  replace inv := HeadM.step inv 7 (by kernel_rfl) (by omega)
  clear hK K
  try simp only [Act.put]
  obtain ⟨z, hz⟩ : ∃ z, (decide (0 ≤ a) && decide (a ≤ (L : Int))) = z := ⟨_, rfl⟩
  refine wpAnyT_ready [8] (by kernel_rfl) (by simp) ?_
  refine AllReadyT.cons rfl (fun K hK => ?_) AllReadyT.nil
  go_simp
  refine (withinI_one 0 L a z _ _ (IntsAt.mk1 (by go_simp)) hz.symm).mono ?_
  rintro e w2 ⟨rfl, rfl⟩
  refine hK.out _ _ (fun _ => ⟨cellB hS.1 hb1, cellB hS.2.1 hb1, cellB hS.2.2.1 hb1, cellB hS.2.2.2 hb1⟩) (fun _ => ?_)
  replace inv := HeadM.step inv 8 (by kernel_rfl) (by omega)
  clear hK K
  try simp only [Act.put]
  have hS1 := And.intro (cellB hS.1 hb1) (And.intro (cellB hS.2.1 hb1) (And.intro (cellB hS.2.2.1 hb1) (cellB hS.2.2.2 hb1)))
  have HB1 := Lib.hid (bC HBd.out hb1)
  generalize V0.alloc (.cells #[.int .i64 a] 3) = V1 at *
  clear hS hb1
  rw [hz] at HN
  clear hz
  cases z with
  | false =>
    refine wpAnyT_take inv (by kernel_rfl) (by omega) (i := 9) (v := .bool false) rfl (by kernel_rfl) (by kernel_rfl) (fun _ _ _ h => h) (Or.inl ⟨by kernel_rfl, ?_⟩) (by assumption) ?_
    · rintro W' ⟨q0, q1, q2, q3⟩
      go_simp
    intro inv2
    clear inv
    have inv := inv2
    clear inv2
    simp only [Act.put, List.setIfInBounds_toArray]
    refine wpAnyT_take inv (by kernel_rfl) (by omega) (i := 10) (v := undef) rfl (by kernel_rfl) (by kernel_rfl) (fun _ _ _ h => h) (Or.inr ⟨by kernel_rfl, rfl⟩) (by assumption) ?_
    intro inv2
    clear inv
    have inv := inv2
    clear inv2
    simp only [Act.put]
    refine wpAnyT_take inv (by kernel_rfl) (by omega) (i := 11) (v := undef) rfl (by kernel_rfl) (by kernel_rfl) (fun _ _ _ h => h) (Or.inr ⟨by kernel_rfl, rfl⟩) (by assumption) ?_
    intro inv2
    clear inv
    have inv := inv2
    clear inv2
    simp only [Act.put]
    refine wpAnyT_take inv (by kernel_rfl) (by omega) (i := 12) (v := undef) rfl (by kernel_rfl) (by kernel_rfl) (fun _ _ _ h => h) (Or.inr ⟨by kernel_rfl, rfl⟩) (by assumption) ?_
    intro inv2
    clear inv
    have inv := inv2
    clear inv2
    simp only [Act.put]
    refine wpAnyT_take inv (by kernel_rfl) (by omega) (i := 13) (v := undef) rfl (by kernel_rfl) (by kernel_rfl) (fun _ _ _ h => h) (Or.inr ⟨by kernel_rfl, rfl⟩) (by assumption) ?_
    intro inv2
    clear inv
    have inv := inv2
    clear inv2
    simp only [Act.put]
    refine wpAnyT_take inv (by kernel_rfl) (by omega) (i := 14) (v := undef) rfl (by kernel_rfl) (by kernel_rfl) (fun _ _ _ h => h) (Or.inr ⟨by kernel_rfl, rfl⟩) (by assumption) ?_
    intro inv2
    clear inv
    have inv := inv2
    clear inv2
    simp only [Act.put]
    refine wpAnyT_take inv (by kernel_rfl) (by omega) (i := 15) (v := undef) rfl (by kernel_rfl) (by kernel_rfl) (fun _ _ _ h => h) (Or.inr ⟨by kernel_rfl, rfl⟩) (by assumption) ?_
    intro inv2
    clear inv
    have inv := inv2
    clear inv2
    simp only [Act.put]
    refine wpAnyT_take inv (by kernel_rfl) (by omega) (i := 16) (v := undef) rfl (by kernel_rfl) (by kernel_rfl) (fun _ _ _ h => h) (Or.inr ⟨by kernel_rfl, rfl⟩) (by assumption) ?_
    intro inv2
    clear inv
    have inv := inv2
    clear inv2
    simp only [Act.put]
    refine wpAnyT_take inv (by kernel_rfl) (by omega) (i := 17) (v := undef) rfl (by kernel_rfl) (by kernel_rfl) (fun _ _ _ h => h) (Or.inr ⟨by kernel_rfl, rfl⟩) (by assumption) ?_
    intro inv2
    clear inv
    have inv := inv2
    clear inv2
    simp only [Act.put]
    refine wpAnyT_take inv (by kernel_rfl) (by omega) (i := 18) (v := undef) rfl (by kernel_rfl) (by kernel_rfl) (fun _ _ _ h => h) (Or.inr ⟨by kernel_rfl, rfl⟩) (by assumption) ?_
    intro inv2
    clear inv
    have inv := inv2
    clear inv2
    simp only [Act.put]
    refine wpAnyT_take inv (by kernel_rfl) (by omega) (i := 19) (v := undef) rfl (by kernel_rfl) (by kernel_rfl) (fun _ _ _ h => h) (Or.inr ⟨by kernel_rfl, rfl⟩) (by assumption) ?_
    intro inv2
    clear inv
    have inv := inv2
    clear inv2
    simp only [Act.put]
    refine wpAnyT_chain (fuel := 2) rfl (by kernel_rfl) ?_
    simp only [List.drop_succ_cons, List.drop_zero]
    clear inv hmk ww hS1
    go_wp2
    go_ret
    exact ⟨by rw [HN.out]; rfl, HB1.out⟩
  | true =>
    refine wpAnyT_take inv (by kernel_rfl) (by omega) (i := 9) (v := .bool true) rfl (by kernel_rfl) (by kernel_rfl) (fun _ _ _ h => h) (Or.inl ⟨by kernel_rfl, ?_⟩) (by assumption) ?_
    · rintro W' ⟨q0, q1, q2, q3⟩
      go_simp
    intro inv2
    clear inv
    have inv := inv2
    clear inv2
    simp only [Act.put, List.setIfInBounds_toArray]
    refine wpAnyT_take inv (by kernel_rfl) (by omega) (i := 10) (v := .pointer (some ⟨T, 0, none⟩)) rfl (by kernel_rfl) (by kernel_rfl) (fun _ _ _ h => h) (Or.inl ⟨by kernel_rfl, ?_⟩) (by assumption) ?_
    · rintro W' ⟨q0, q1, q2, q3⟩
      go_simp
    intro inv2
    clear inv
    have inv := inv2
    clear inv2
    simp only [Act.put]
    refine wpAnyT_take inv (by kernel_rfl) (by omega) (i := 11) (v := .pointer (some ⟨T, 0, none⟩)) rfl (by kernel_rfl) (by kernel_rfl) (fun _ _ _ h => h) (Or.inl ⟨by kernel_rfl, ?_⟩) (by assumption) ?_
    · rintro W' ⟨q0, q1, q2, q3⟩
      go_simp
    intro inv2
    clear inv
    have inv := inv2
    clear inv2
    simp only [Act.put]
    refine wpAnyT_take inv (by kernel_rfl) (by omega) (i := 12) (v := .pointer (some ⟨T, 2, none⟩)) rfl (by kernel_rfl) (by kernel_rfl) (fun _ _ _ h => h) (Or.inl ⟨by kernel_rfl, ?_⟩) (by assumption) ?_
    · rintro W' ⟨q0, q1, q2, q3⟩
      go_simp
    intro inv2
    clear inv
    have inv := inv2
    clear inv2
    simp only [Act.put]
    refine wpAnyT_take inv (by kernel_rfl) (by omega) (i := 13) (v := .slice (some ⟨kb, koff, none⟩) ks.length kcap) rfl (by kernel_rfl) (by kernel_rfl) (fun _ _ _ h => h) (Or.inl ⟨by kernel_rfl, ?_⟩) (by assumption) ?_
    · rintro W' ⟨q0, q1, q2, q3⟩
      go_simp
    intro inv2
    clear inv
    have inv := inv2
    clear inv2
    simp only [Act.put]
    refine wpAnyT_take inv (by kernel_rfl) (by omega) (i := 14) (v := .int .i64 (ks.length : Int)) rfl (by kernel_rfl) (by kernel_rfl) (fun _ _ _ h => h) (Or.inl ⟨by kernel_rfl, ?_⟩) (by assumption) ?_
    · rintro W' ⟨q0, q1, q2, q3⟩
      go_simp
    intro inv2
    clear inv
    have inv := inv2
    clear inv2
    simp only [Act.put]
    refine wpAnyT_take inv (by kernel_rfl) (by omega) (i := 15) (v := .int .i64 ((ks.length : Int) - 1)) rfl (by kernel_rfl) (by kernel_rfl) (fun _ _ _ h => h) (Or.inl ⟨by kernel_rfl, ?_⟩) (by assumption) ?_
    · rintro W' ⟨q0, q1, q2, q3⟩
      go_simp
    intro inv2
    clear inv
    have inv := inv2
    clear inv2
    simp only [Act.put]
    refine wpAnyT_take inv (by kernel_rfl) (by omega) (i := 16) (v := .pointer (some ⟨w.heap.size, 1, none⟩)) rfl (by kernel_rfl) (by kernel_rfl) (fun _ _ _ h => h) (Or.inl ⟨by kernel_rfl, ?_⟩) (by assumption) ?_
    · rintro W' ⟨q0, q1, q2, q3⟩
      go_simp
    intro inv2
    clear inv
    have inv := inv2
    clear inv2
    simp only [Act.put]
    refine wpAnyT_take inv (by kernel_rfl) (by omega) (i := 17) (v := .int .i64 k) rfl (by kernel_rfl) (by kernel_rfl) (fun _ _ _ h => h) (Or.inl ⟨by kernel_rfl, ?_⟩) (by assumption) ?_
    · rintro W' ⟨q0, q1, q2, q3⟩
      go_simp
    intro inv2
    clear inv
    have inv := inv2
    clear inv2
    simp only [Act.put]
    refine wpAnyT_ready [18] (by kernel_rfl) (by simp) ?_
    refine AllReadyT.cons rfl (fun K hK => ?_) AllReadyT.nil
    go_simp
    have hb2 := below1 V1 (.cells #[.int .i64 k] 3)
    refine hK.out _ _ (fun _ => ⟨cellB hS1.1 hb2, cellB hS1.2.1 hb2, cellB hS1.2.2.1 hb2, cellB hS1.2.2.2 hb2⟩) (fun _ => ?_)
    replace inv := HeadM.step inv 18 (by kernel_rfl) (by omega)
    clear hK K
    try simp only [Act.put]
    obtain ⟨z, hz⟩ : ∃ z, (decide (0 ≤ k) && decide (k ≤ (ks.length : Int) - 1)) = z := ⟨_, rfl⟩
    refine wpAnyT_ready [19] (by kernel_rfl) (by simp) ?_
    refine AllReadyT.cons rfl (fun K hK => ?_) AllReadyT.nil
    go_simp
    refine (withinI_one 0 ((ks.length : Int) - 1) k z _ _ (IntsAt.mk1 (by go_simp)) hz.symm).mono ?_
    rintro e w2 ⟨rfl, rfl⟩
    refine hK.out _ _ (fun _ => ⟨cellB hS1.1 hb2, cellB hS1.2.1 hb2, cellB hS1.2.2.1 hb2, cellB hS1.2.2.2 hb2⟩) (fun _ => ?_)
    clear hK K
    try simp only [Act.put]
    have HB2 := Lib.hid (bC HB1.out hb2)
    generalize V1.alloc (.cells #[.int .i64 k] 3) = V2 at *
    refine wpAnyT_chain (fuel := 2) rfl (by kernel_rfl) ?_
    simp only [List.drop_succ_cons, List.drop_zero]
    rw [hz] at HN
    clear inv hmk ww hS1 hb2 hz
    go_wp2
    go_ret
    exact ⟨by rw [HN.out]; rfl, HB2.out⟩
end Go.Proofs.Ytnkeikhkafbokaa
