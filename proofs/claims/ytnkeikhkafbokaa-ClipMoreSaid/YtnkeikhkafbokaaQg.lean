import Derived.Test.YtnkeikhkafbokaaQf
import Derived.Test.YtnkeikhkafbokaaQb
import Derived.Test.YtnkeikhkafbokaaQd
namespace Go.Proofs.Ytnkeikhkafbokaa
open Go.RowKit Go.Dag Go.Sort

/-! ## The reference: what is behind each place -/
theorem make64i (L : Nat) (w : World) (hn : L + 1 ≤ 1000) : (Instr.makeSlice 39 (.int .i64 ((L : Int) + 1)) (.int .i64 ((L : Int) + 1))).run Try.prog w =
    .ok (.slice (some ⟨w.heap.size, 0, none⟩) (L + 1) (L + 1)) (w.alloc (.cells (madeCells #[.int .i64 0] (L + 1)) 2)) := make64 (L + 1) w hn
def BehindAt (t : Tab) (w : World) (e : Ending) (w' : World) : Prop :=
  ∃ g1 g2, e = .returned (.tuple #[.slice (some ⟨g1, 0, none⟩) (t.L + 1) (t.L + 1), .slice (some ⟨g2, 0, none⟩) (t.L + 1) (t.L + 1)]) ∧ ArrAt w' g1 (t.L + 1) 2 (dn t) ∧ ArrAt w' g2 (t.L + 1) 2 (many t) ∧ Below w.heap.size w w'
theorem updL_succ (q : Nat → Bool) (v c : Nat → Int) (i : Nat) (s : Int × Int) : updL q v c (List.range (i + 1)) s = if q i = true then upd (updL q v c (List.range i) s) (v i) (c i) else updL q v c (List.range i) s := by
  unfold updL
  rw [List.range_succ, List.foldl_append]
  rfl
def BSt (t : Tab) (L g1 g2 : Nat) (W0 : World) (m : Nat) (wr : World) : Prop := ∃ f1 f2, ArrAt wr g1 (L + 1) 2 f1 ∧ ArrAt wr g2 (L + 1) 2 f2 ∧ (∀ j, m ≤ j → j ≤ L → f1 j = dn t j ∧ f2 j = many t j) ∧ Below W0.heap.size W0 wr
def ISt (t : Tab) (L g1 g2 : Nat) (W0 : World) (n i : Nat) (wr : World) : Prop := ∃ f1 f2, ArrAt wr g1 (L + 1) 2 f1 ∧ ArrAt wr g2 (L + 1) 2 f2 ∧
  (f1 n, f2 n) = updL (t.can n) (fun i => t.P i + dn t (n + t.W i)) (fun i => many t (n + t.W i)) (List.range i) (bk t (n + 1)) ∧ (∀ j, n + 1 ≤ j → j ≤ L → f1 j = dn t j ∧ f2 j = many t j) ∧ Below W0.heap.size W0 wr
theorem ISt.done {t : Tab} {L g1 g2 : Nat} {W0 : World} {n k : Nat} {wr : World} (h : ISt t L g1 g2 W0 n k wr) (hok : t.Ok) (hL : t.L = L) (hk : t.K = k) (hn : n < L) : BSt t L g1 g2 W0 n wr := by
  obtain ⟨f1, f2, A1, A2, e, hf, hB⟩ := h
  subst hk hL
  rw [← bk_step hok hn] at e
  refine ⟨f1, f2, A1, A2, fun j h1 h2 => ?_, hB⟩
  by_cases hj : j = n
  · subst hj
    have e1 := congrArg Prod.fst e
    have e2 := congrArg Prod.snd e
    exact ⟨e1, e2⟩
  · exact hf j (by omega) h2
theorem nextF (n : Nat) : (n = 0 ∧ Value.int .i64 ((n : Int) - 1) = .int .i64 (-1)) ∨ ∃ n' : Nat, n = n' + 1 ∧ Value.int .i64 ((n : Int) - 1) = .int .i64 n' := by
  rcases Nat.eq_zero_or_pos n with h | h
  · subst h; exact .inl ⟨rfl, rfl⟩
  · exact .inr ⟨n - 1, by omega, by rw [show ((n - 1 : Nat) : Int) = (n : Int) - 1 by omega]⟩
theorem canB_iff {r : RibD} {k : KindD} {a : Nat} : canB r k a = true ↔ (a : Int) + k.w ≤ r.len ∧ nf r a k.w.toNat ≤ k.m := by
  unfold canB
  simp only [Bool.and_eq_true, decide_eq_true_eq]
/-- 6 to the 23rd. -/
def b23 : Int := 6 ^ 23
theorem upd_bd {s : Int × Int} {v c B : Int} {k : Nat} (h0 : 0 ≤ s.2) (h : s.2 ≤ ((k + 1 : Nat) : Int) * B) (hc0 : 0 ≤ c) (hc : c ≤ B) (hB : 0 ≤ B) : 0 ≤ (upd s v c).2 ∧ (upd s v c).2 ≤ ((k + 2 : Nat) : Int) * B := by
  have e : ((k + 2 : Nat) : Int) * B = ((k + 1 : Nat) : Int) * B + B := by rw [show ((k + 2 : Nat) : Int) = ((k + 1 : Nat) : Int) + 1 by omega, Int.add_mul, Int.one_mul]
  have e2 : 0 ≤ ((k + 1 : Nat) : Int) * B := Int.mul_nonneg (by omega) hB
  unfold upd
  split
  · dsimp only; omega
  · split
    · dsimp only; omega
    · omega
theorem updL_bd {t : Tab} (h : t.Ok) (hK : t.K ≤ 6) {n : Nat} (hn : n < t.L) (hL : t.L ≤ 24) : ∀ i, i ≤ t.K →
    0 ≤ (updL (t.can n) (fun i => t.P i + dn t (n + t.W i)) (fun i => many t (n + t.W i)) (List.range i) (bk t (n + 1))).2 ∧
    (updL (t.can n) (fun i => t.P i + dn t (n + t.W i)) (fun i => many t (n + t.W i)) (List.range i) (bk t (n + 1))).2 ≤ ((i + 1 : Nat) : Int) * b23
  | 0, _ => by
    have h1 := many_pos h _ (n + 1) rfl
    have h2 := many_le h hK _ (n + 1) rfl
    have h3 := six_mono (show t.L - (n + 1) ≤ 23 by omega)
    unfold b23
    simp only [List.range_zero, updL, List.foldl_nil]
    unfold many at h1 h2
    omega
  | i + 1, hi => by
    obtain ⟨h1, h2⟩ := updL_bd h hK hn hL i (by omega)
    rw [updL_succ]
    have h0 : 0 ≤ b23 := by unfold b23; omega
    have hw := h.w i (by omega)
    have m1 := many_pos h _ (n + t.W i) rfl
    have m2 := many_le h hK _ (n + t.W i) rfl
    have m3 := six_mono (show t.L - (n + t.W i) ≤ 23 by omega)
    have e : ((i + 1 + 1 : Nat) : Int) * b23 = ((i + 1 : Nat) : Int) * b23 + b23 := by rw [show ((i + 1 + 1 : Nat) : Int) = ((i + 1 : Nat) : Int) + 1 by omega, Int.add_mul, Int.one_mul]
    split
    · exact upd_bd h1 h2 (by omega) (by unfold b23; omega) h0
    · omega
/-- What the walk of one kind asks: nothing wraps. -/
theorem many_wrap {t : Tab} (h : t.Ok) (hK : t.K ≤ 6) {n : Nat} (hn : n < t.L) (hL : t.L ≤ 24) {i : Nat} (hi : i < t.K) :
    IntKind.i64.wrap ((updL (t.can n) (fun i => t.P i + dn t (n + t.W i)) (fun i => many t (n + t.W i)) (List.range i) (bk t (n + 1))).2 + many t (n + t.W i)) =
      (updL (t.can n) (fun i => t.P i + dn t (n + t.W i)) (fun i => many t (n + t.W i)) (List.range i) (bk t (n + 1))).2 + many t (n + t.W i) := by
  obtain ⟨h1, h2⟩ := updL_bd h hK hn hL i (by omega)
  have hw := h.w i hi
  have m1 := many_pos h _ (n + t.W i) rfl
  have m2 := many_le h hK _ (n + t.W i) rfl
  have m3 := six_mono (show t.L - (n + t.W i) ≤ 23 by omega)
  have h3 : ((i + 1 : Nat) : Int) * b23 ≤ 6 * b23 := Int.mul_le_mul_of_nonneg_right (by omega) (by unfold b23; omega)
  have h4 : (7 : Int) * b23 ≤ 9223372036854775807 := by unfold b23; omega
  have h5 : (6 : Int) ^ 23 = b23 := rfl
  rw [h5] at m3
  exact IntWalk.i64_in _ (by omega)
theorem many_wrap0 {t : Tab} (h : t.Ok) (hK : t.K ≤ 6) (hL : t.L ≤ 24) {m : Nat} (h1 : 1 ≤ m) : IntKind.i64.wrap (0 + many t m) = many t m ∧ IntKind.i64.wrap (many t m) = many t m := by
  have m1 := many_pos h _ m rfl
  have m2 := many_le h hK _ m rfl
  have m3 := six_mono (show t.L - m ≤ 23 by omega)
  have h4 : (6 : Int) ^ 23 ≤ 9223372036854775807 := by omega
  rw [Int.zero_add]
  exact ⟨IntWalk.i64_in _ (by omega), IntWalk.i64_in _ (by omega)⟩


set_option maxRecDepth 100000 in
set_option maxHeartbeats 8000000 in
theorem Behind_any (v kv : Value) (r : RibD) (ks : List KindD) (w : World) (hv : RibAt w v r) (hk : KindsAt w kv ks) (hr : RibOk r) (hks : KindsOk ks) :
    Calls Try.prog 68 #[v, kv] w (BehindAt (tabOf r ks) w) := by
  obtain ⟨len, fs⟩ := r
  obtain ⟨L, rfl⟩ : ∃ L : Nat, len = L := ⟨len.toNat, by have := hr.l1; simp only at this; omega⟩
  have hL1 : 1 ≤ L := by have := hr.l1; simp only at this; omega
  have hL24 : L ≤ 24 := by have := hr.l2; simp only at this; omega
  have hok := tabOf_ok (r := ⟨(L : Int), fs⟩) (by simp) hks
  have hTL : (tabOf ⟨(L : Int), fs⟩ ks).L = L := rfl
  have hTK : (tabOf ⟨(L : Int), fs⟩ ks).K = ks.length := rfl
  have hcnt := hr.count
  simp only at hcnt
  have hkl := hks.1
  obtain ⟨sv, rfl, hi⟩ := hv
  obtain ⟨sa, cap, rfl⟩ := hi.slice
  obtain ⟨ka, kcap, rfl⟩ := hk.slice
  simp only at hi
  unfold BehindAt
  rw [hTL]
  have hB0 := below1 w (.cells #[.int .i64 (L : Int), .slice sa fs.length cap] 24)
  have b0 := Blk.new w (.cells #[.int .i64 (L : Int), .slice sa fs.length cap] 24)
  have HI := Lib.hid (hi.below hB0)
  have HK := Lib.hid (hk.below hB0)
  have HOK := Lib.hid hok
  have HTL := Lib.hid (And.intro hTL hTK)
  have HKS := Lib.hid hks
  clear hi hk hok hTL hTK hks hr
  go_enter Try.func68, Try.ntmps68
  go_wp2_with fail
  generalize w.alloc (.cells #[.int .i64 (L : Int), .slice sa fs.length cap] 24) = W0 at *
  have c0 := b0.cell 0
  have c1 := b0.cell 1
  simp at c0 c1
  have hz0 := b0.lt
  go_cut [6, 7] (fun s6 s7 wx => ∃ g1 g2 : Nat, s6 = .slice (some ⟨g1, 0, none⟩) (L + 1) (L + 1) ∧ s7 = .slice (some ⟨g2, 0, none⟩) (L + 1) (L + 1) ∧ Made2 W0.drew (L + 1) (L + 1) g1 g2 wx)
  case first =>
    have hmk := fun W => make64i L W (by omega)
    have hww : IntKind.i64.wrap ((L : Int) + 1) = (L : Int) + 1 := IntWalk.i64_in _ (by omega)
    have hS0 : W0.drew.cell? ⟨w.heap.size, 0, none⟩ = some (.int .i64 (L : Int)) := c0
    have M12 := Lib.hid (made12 W0.drew (L + 1) (L + 1))
    have M21 := Lib.hid (made21 W0.drew (L + 1) (L + 1))
    have hA : ∀ (o : Obj) (W : World), W.cell? ⟨w.heap.size, 0, none⟩ = some (.int .i64 (L : Int)) → (W.alloc o).cell? ⟨w.heap.size, 0, none⟩ = some (.int .i64 (L : Int)) := fun o W h => cellB h (below1 _ _)
    clear c0 c1
    refine wp_region_T 9 (fun W' => W'.cell? ⟨w.heap.size, 0, none⟩ = some (.int .i64 (L : Int))) (by kernel_rfl) (by kernel_rfl) hS0 ?_
    intro inv hS
    generalize W0.drew = V0 at *
    refine wpAnyT_take inv (by kernel_rfl) (by omega) (i := 0) (v := .pointer (some ⟨w.heap.size, 0, none⟩)) rfl (by kernel_rfl) (by kernel_rfl) (fun _ _ _ h => h) (Or.inl ⟨by kernel_rfl, ?_⟩) (by assumption) ?_
    · rintro W' q0
      go_simp
    intro inv2
    clear inv
    have inv := inv2
    clear inv2
    simp only [Act.put, List.setIfInBounds_toArray]
    refine wpAnyT_take inv (by kernel_rfl) (by omega) (i := 1) (v := .int .i64 (L : Int)) rfl (by kernel_rfl) (by kernel_rfl) (fun _ _ _ h => h) (Or.inl ⟨by kernel_rfl, ?_⟩) (by assumption) ?_
    · rintro W' q0
      go_simp
    intro inv2
    clear inv
    have inv := inv2
    clear inv2
    simp only [Act.put]
    refine wpAnyT_take inv (by kernel_rfl) (by omega) (i := 2) (v := .int .i64 ((L : Int) + 1)) rfl (by kernel_rfl) (by kernel_rfl) (fun _ _ _ h => h) (Or.inl ⟨by kernel_rfl, ?_⟩) (by assumption) ?_
    · rintro W' q0
      go_simp
    intro inv2
    clear inv
    have inv := inv2
    clear inv2
    simp only [Act.put]
    refine wpAnyT_take inv (by kernel_rfl) (by omega) (i := 4) (v := .pointer (some ⟨w.heap.size, 0, none⟩)) rfl (by kernel_rfl) (by kernel_rfl) (fun _ _ _ h => h) (Or.inl ⟨by kernel_rfl, ?_⟩) (by assumption) ?_
    · rintro W' q0
      go_simp
    intro inv2
    clear inv
    have inv := inv2
    clear inv2
    simp only [Act.put]
    refine wpAnyT_take inv (by kernel_rfl) (by omega) (i := 5) (v := .int .i64 (L : Int)) rfl (by kernel_rfl) (by kernel_rfl) (fun _ _ _ h => h) (Or.inl ⟨by kernel_rfl, ?_⟩) (by assumption) ?_
    · rintro W' q0
      go_simp
    intro inv2
    clear inv
    have inv := inv2
    clear inv2
    simp only [Act.put]
    refine wpAnyT_take inv (by kernel_rfl) (by omega) (i := 6) (v := .int .i64 ((L : Int) + 1)) rfl (by kernel_rfl) (by kernel_rfl) (fun _ _ _ h => h) (Or.inl ⟨by kernel_rfl, ?_⟩) (by assumption) ?_
    · rintro W' q0
      go_simp
    intro inv2
    clear inv
    have inv := inv2
    clear inv2
    simp only [Act.put]
    refine wpAnyT_ready [3, 7] (by kernel_rfl) (by simp) ?_
    refine AllReadyT.cons rfl (fun K hK => ?_) ?_
    · go_simp
      have hS1 := hA (.cells (madeCells #[.int .i64 0] (L + 1)) 2) _ hS
      refine hK.out _ _ (fun _ => hS1) (fun _ => ?_)
      replace inv := HeadM.step inv 3 (by kernel_rfl) (by omega)
      clear hK K hS
      try simp only [Act.put]
      refine wpAnyT_take inv (by kernel_rfl) (by omega) (i := 8) (v := .slice (some ⟨V0.heap.size, 0, none⟩) (L + 1) (L + 1)) rfl (by kernel_rfl) (by kernel_rfl) (fun _ _ _ h => h) (Or.inl ⟨by kernel_rfl, ?_⟩) (by assumption) ?_
      · rintro W' q0
        go_simp
      intro inv2
      clear inv
      have inv := inv2
      clear inv2
      simp only [Act.put]
      refine wpAnyT_ready [7] (by kernel_rfl) (by simp) ?_
      refine AllReadyT.cons rfl (fun K hK => ?_) AllReadyT.nil
      go_simp
      have hS2 := hA (.cells (madeCells #[.int .i64 0] (L + 1)) 2) _ hS1
      refine hK.out _ _ (fun _ => hS2) (fun _ => ?_)
      clear hK K
      try simp only [Act.put]
      refine wpAnyT_chain (fuel := 1) rfl (by kernel_rfl) ?_
      simp only [List.drop_succ_cons, List.drop_zero]
      go_wp2_with fail
      go_meet
      exact ⟨_, _, rfl, rfl, M12.out⟩
    · refine AllReadyT.cons rfl (fun K hK => ?_) AllReadyT.nil
      go_simp
      have hS1 := hA (.cells (madeCells #[.int .i64 0] (L + 1)) 2) _ hS
      refine hK.out _ _ (fun _ => hS1) (fun _ => ?_)
      replace inv := HeadM.step inv 7 (by kernel_rfl) (by omega)
      clear hK K hS
      try simp only [Act.put]
      refine wpAnyT_ready [3] (by kernel_rfl) (by simp) ?_
      refine AllReadyT.cons rfl (fun K hK => ?_) AllReadyT.nil
      go_simp
      have hS2 := hA (.cells (madeCells #[.int .i64 0] (L + 1)) 2) _ hS1
      refine hK.out _ _ (fun _ => hS2) (fun _ => ?_)
      replace inv := HeadM.step inv 3 (by kernel_rfl) (by omega)
      clear hK K
      try simp only [Act.put]
      refine wpAnyT_take inv (by kernel_rfl) (by omega) (i := 8) (v := .slice (some ⟨V0.heap.size + 1, 0, none⟩) (L + 1) (L + 1)) rfl (by kernel_rfl) (by kernel_rfl) (fun _ _ _ h => h) (Or.inl ⟨by kernel_rfl, ?_⟩) (by assumption) ?_
      · rintro W' q0
        go_simp
      intro inv2
      clear inv
      have inv := inv2
      clear inv2
      simp only [Act.put]
      refine wpAnyT_chain (fuel := 1) rfl (by kernel_rfl) ?_
      simp only [List.drop_succ_cons, List.drop_zero]
      go_wp2_with fail
      go_meet
      exact ⟨_, _, rfl, rfl, M21.out⟩
  case rest =>
    obtain ⟨g1, g2, rfl, rfl, A1, A2, hne, hg1, hg2, hBM⟩ := hcut
    have hB1 : Below W0.heap.size W0 wc := (Below.refl _ W0).drew.trans hBM
    have HG := Lib.hid (show W0.heap.size ≤ g1 ∧ W0.heap.size ≤ g2 ∧ g1 ≠ g2 from ⟨hg1, hg2, hne⟩)
    have hg1' : w.heap.size < g1 := by have := HG.out.1; omega
    have hg2' : w.heap.size < g2 := by have := HG.out.2.1; omega
    have hne' : g2 ≠ g1 := Ne.symm hne
    clear hBM hg1 hg2
    have ltA1 := A1.lt
    have ltA2 := A2.lt
    have cA2 := A2.cell (i := L) (by omega)
    have fA2 := A2.frozen L
    have c0' := cellB c0 hB1
    go_wp2_with fail
    have HS0 : Hid (BSt (tabOf ⟨(L : Int), fs⟩ ks) L g1 g2 W0 L (wc.setCell ⟨g2, L, none⟩ (.int .i64 1))) := Lib.hid ⟨_, _, A1.other hne _, A2.set L 1, fun j h1 h2 => by
      obtain rfl : j = L := by omega
      rw [dn_end _ (by rw [HTL.out.1]; omega), many_end _ (by rw [HTL.out.1]; omega), updF_same]
      exact ⟨rfl, rfl⟩, hB1.setCell (by have := HG.out.2.1; exact this) _⟩
    have c0'' := cell_other c0' (show w.heap.size ≠ g2 by omega) (v := .int .i64 (L : Int)) (o' := L) (u := .int .i64 1)
    clear A1 A2 hB1 cA2 fA2 c0' ltA1 ltA2
    generalize wc.setCell ⟨g2, L, none⟩ (.int .i64 1) = W1 at *
    go_wp2_with fail
    go_loopw [8] (fun s wr => ∃ m : Nat, m ≤ L ∧ ((m = 0 ∧ s = .int .i64 (-1)) ∨ ∃ n : Nat, m = n + 1 ∧ s = .int .i64 n) ∧ BSt (tabOf ⟨(L : Int), fs⟩ ks) L g1 g2 W0 m wr) (fun s _ => (intOf s + 1).toNat)
    case atStart => exact ⟨L, Nat.le_refl _, .inr ⟨L - 1, by omega, by rw [show ((L - 1 : Nat) : Int) = (L : Int) - 1 by omega]⟩, HS0.out⟩
    case round =>
      clear HS0 c0''
      obtain ⟨m, hm, hs8, hst⟩ := hrel
      rcases hs8 with ⟨rfl, rfl⟩ | ⟨n, rfl, rfl⟩
      · obtain ⟨f1, f2, A1, A2, hf, hB⟩ := hst
        have HF := Lib.hid hf
        have HB := Lib.hid hB
        clear hf hB
        go_wp2
        go_ret2
        refine ⟨g1, g2, rfl, A1.same fun j hj => ((HF.out j (Nat.zero_le _) (by omega)).1).symm, A2.same fun j hj => ((HF.out j (Nat.zero_le _) (by omega)).2).symm, bC hB0 HB.out⟩
      · obtain ⟨f1, f2, A1, A2, hf, hB⟩ := hst
        have HF := Lib.hid hf
        have HB := Lib.hid hB
        have hn : n < L := by omega
        clear hf hB hm
        go_wp2_with fail
        have B1 : ArrAt wr.drew g1 (L + 1) 2 f1 := A1
        have B2 : ArrAt wr.drew g2 (L + 1) 2 f2 := A2
        have HBd := Lib.hid (show Below W0.heap.size W0 wr.drew from HB.out.drew)
        have hS0 : wr.drew.cell? ⟨g1, n + 1, none⟩ = some (.int .i64 (f1 (n + 1))) ∧ wr.drew.cell? ⟨g2, n + 1, none⟩ = some (.int .i64 (f2 (n + 1))) := ⟨B1.cell (by omega), B2.cell (by omega)⟩
        have hi1 : ((n : Int) + 1).toNat = n + 1 := by omega
        have hi0 : (0 : Int) ≤ (n : Int) + 1 := by omega
        have hww : IntKind.i64.wrap ((n : Int) + 1) = (n : Int) + 1 := IntWalk.i64_in _ (by omega)
        have hnl : ¬ (L : Int) + 1 ≤ (n : Int) := by omega
        refine wp_region_T 16 (fun W' => W'.cell? ⟨g1, n + 1, none⟩ = some (.int .i64 (f1 (n + 1))) ∧ W'.cell? ⟨g2, n + 1, none⟩ = some (.int .i64 (f2 (n + 1)))) (by kernel_rfl) (by kernel_rfl) hS0 ?_
        intro inv hS
        clear A1 A2 hS0
        generalize wr.drew = V0 at *
        refine wpAnyT_take inv (by kernel_rfl) (by omega) (i := 0) (v := .slice (some ⟨g1, 0, none⟩) (L + 1) (L + 1)) rfl (by kernel_rfl) (by kernel_rfl) (fun _ _ _ h => h) (Or.inl ⟨by kernel_rfl, ?_⟩) (by assumption) ?_
        · rintro W' ⟨q0, q1⟩
          go_simp
        intro inv2
        clear inv
        have inv := inv2
        clear inv2
        simp only [Act.put, List.setIfInBounds_toArray]
        refine wpAnyT_take inv (by kernel_rfl) (by omega) (i := 1) (v := .int .i64 (n : Int)) rfl (by kernel_rfl) (by kernel_rfl) (fun _ _ _ h => h) (Or.inl ⟨by kernel_rfl, ?_⟩) (by assumption) ?_
        · rintro W' ⟨q0, q1⟩
          go_simp
        intro inv2
        clear inv
        have inv := inv2
        clear inv2
        simp only [Act.put]
        refine wpAnyT_take inv (by kernel_rfl) (by omega) (i := 2) (v := .slice (some ⟨g2, 0, none⟩) (L + 1) (L + 1)) rfl (by kernel_rfl) (by kernel_rfl) (fun _ _ _ h => h) (Or.inl ⟨by kernel_rfl, ?_⟩) (by assumption) ?_
        · rintro W' ⟨q0, q1⟩
          go_simp
        intro inv2
        clear inv
        have inv := inv2
        clear inv2
        simp only [Act.put]
        refine wpAnyT_take inv (by kernel_rfl) (by omega) (i := 3) (v := .int .i64 (n : Int)) rfl (by kernel_rfl) (by kernel_rfl) (fun _ _ _ h => h) (Or.inl ⟨by kernel_rfl, ?_⟩) (by assumption) ?_
        · rintro W' ⟨q0, q1⟩
          go_simp
        intro inv2
        clear inv
        have inv := inv2
        clear inv2
        simp only [Act.put]
        refine wpAnyT_take inv (by kernel_rfl) (by omega) (i := 4) (v := .slice (some ⟨g1, 0, none⟩) (L + 1) (L + 1)) rfl (by kernel_rfl) (by kernel_rfl) (fun _ _ _ h => h) (Or.inl ⟨by kernel_rfl, ?_⟩) (by assumption) ?_
        · rintro W' ⟨q0, q1⟩
          go_simp
        intro inv2
        clear inv
        have inv := inv2
        clear inv2
        simp only [Act.put]
        refine wpAnyT_take inv (by kernel_rfl) (by omega) (i := 5) (v := .int .i64 (n : Int)) rfl (by kernel_rfl) (by kernel_rfl) (fun _ _ _ h => h) (Or.inl ⟨by kernel_rfl, ?_⟩) (by assumption) ?_
        · rintro W' ⟨q0, q1⟩
          go_simp
        intro inv2
        clear inv
        have inv := inv2
        clear inv2
        simp only [Act.put]
        refine wpAnyT_take inv (by kernel_rfl) (by omega) (i := 6) (v := .int .i64 ((n : Int) + 1)) rfl (by kernel_rfl) (by kernel_rfl) (fun _ _ _ h => h) (Or.inl ⟨by kernel_rfl, ?_⟩) (by assumption) ?_
        · rintro W' ⟨q0, q1⟩
          go_simp
        intro inv2
        clear inv
        have inv := inv2
        clear inv2
        simp only [Act.put]
        refine wpAnyT_take inv (by kernel_rfl) (by omega) (i := 7) (v := .pointer (some ⟨g1, n + 1, none⟩)) rfl (by kernel_rfl) (by kernel_rfl) (fun _ _ _ h => h) (Or.inl ⟨by kernel_rfl, ?_⟩) (by assumption) ?_
        · rintro W' ⟨q0, q1⟩
          go_simp
        intro inv2
        clear inv
        have inv := inv2
        clear inv2
        simp only [Act.put]
        refine wpAnyT_take inv (by kernel_rfl) (by omega) (i := 8) (v := .int .i64 (f1 (n + 1))) rfl (by kernel_rfl) (by kernel_rfl) (fun _ _ _ h => h) (Or.inl ⟨by kernel_rfl, ?_⟩) (by assumption) ?_
        · rintro W' ⟨q0, q1⟩
          go_simp
        intro inv2
        clear inv
        have inv := inv2
        clear inv2
        simp only [Act.put]
        refine wpAnyT_take inv (by kernel_rfl) (by omega) (i := 9) (v := .slice (some ⟨g2, 0, none⟩) (L + 1) (L + 1)) rfl (by kernel_rfl) (by kernel_rfl) (fun _ _ _ h => h) (Or.inl ⟨by kernel_rfl, ?_⟩) (by assumption) ?_
        · rintro W' ⟨q0, q1⟩
          go_simp
        intro inv2
        clear inv
        have inv := inv2
        clear inv2
        simp only [Act.put]
        refine wpAnyT_take inv (by kernel_rfl) (by omega) (i := 10) (v := .int .i64 (n : Int)) rfl (by kernel_rfl) (by kernel_rfl) (fun _ _ _ h => h) (Or.inl ⟨by kernel_rfl, ?_⟩) (by assumption) ?_
        · rintro W' ⟨q0, q1⟩
          go_simp
        intro inv2
        clear inv
        have inv := inv2
        clear inv2
        simp only [Act.put]
        refine wpAnyT_take inv (by kernel_rfl) (by omega) (i := 11) (v := .int .i64 ((n : Int) + 1)) rfl (by kernel_rfl) (by kernel_rfl) (fun _ _ _ h => h) (Or.inl ⟨by kernel_rfl, ?_⟩) (by assumption) ?_
        · rintro W' ⟨q0, q1⟩
          go_simp
        intro inv2
        clear inv
        have inv := inv2
        clear inv2
        simp only [Act.put]
        refine wpAnyT_take inv (by kernel_rfl) (by omega) (i := 12) (v := .pointer (some ⟨g2, n + 1, none⟩)) rfl (by kernel_rfl) (by kernel_rfl) (fun _ _ _ h => h) (Or.inl ⟨by kernel_rfl, ?_⟩) (by assumption) ?_
        · rintro W' ⟨q0, q1⟩
          go_simp
        intro inv2
        clear inv
        have inv := inv2
        clear inv2
        simp only [Act.put]
        refine wpAnyT_take inv (by kernel_rfl) (by omega) (i := 13) (v := .int .i64 (f2 (n + 1))) rfl (by kernel_rfl) (by kernel_rfl) (fun _ _ _ h => h) (Or.inl ⟨by kernel_rfl, ?_⟩) (by assumption) ?_
        · rintro W' ⟨q0, q1⟩
          go_simp
        intro inv2
        clear inv
        have inv := inv2
        clear inv2
        simp only [Act.put]
        refine wpAnyT_take inv (by kernel_rfl) (by omega) (i := 14) (v := .pointer (some ⟨g1, n, none⟩)) rfl (by kernel_rfl) (by kernel_rfl) (fun _ _ _ h => h) (Or.inl ⟨by kernel_rfl, ?_⟩) (by assumption) ?_
        · rintro W' ⟨q0, q1⟩
          go_simp
        intro inv2
        clear inv
        have inv := inv2
        clear inv2
        simp only [Act.put]
        clear hww hnl hi0 hi1
        have x0 := B1.cell (i := n) (by omega)
        have xf := B1.frozen n
        refine wpAnyT_ready [15] (by kernel_rfl) (by simp) ?_
        refine AllReadyT.cons rfl (fun K hK => ?_) AllReadyT.nil
        go_simp
        have hS1 : (V0.setCell ⟨g1, n, none⟩ (.int .i64 (f1 (n + 1)))).cell? ⟨g1, n + 1, none⟩ = some (.int .i64 (f1 (n + 1))) ∧ (V0.setCell ⟨g1, n, none⟩ (.int .i64 (f1 (n + 1)))).cell? ⟨g2, n + 1, none⟩ = some (.int .i64 (f2 (n + 1))) := by
          refine ⟨?_, (B2.other hne' _).cell (by omega)⟩
          rw [(B1.set n (f1 (n + 1))).cell (by omega), updF_other _ (by omega)]
        refine hK.out _ _ (fun _ => hS1) (fun _ => ?_)
        clear hK K hS hS1 x0 xf inv
        try simp only [Act.put]
        refine wpAnyT_chain (fuel := 2) rfl (by kernel_rfl) ?_
        simp only [List.drop_succ_cons, List.drop_zero]
        have C1 := B1.set n (f1 (n + 1))
        have C2 := B2.other (b := g1) (j := n) hne' (.int .i64 (f1 (n + 1)))
        have HB4 := Lib.hid (HBd.out.setCell (p := ⟨g1, n, none⟩) HG.out.1 (.int .i64 (f1 (n + 1))))
        clear B1 B2 HBd
        generalize V0.setCell ⟨g1, n, none⟩ (.int .i64 (f1 (n + 1))) = V1 at *
        have x0 := C2.cell (i := n) (by omega)
        have xf := C2.frozen n
        have xl := C2.lt
        go_wp2_with fail
        have D1 := C1.other (b := g2) (j := n) hne (.int .i64 (f2 (n + 1)))
        have D2 := C2.set n (f2 (n + 1))
        have HB5 := Lib.hid (HB4.out.setCell (p := ⟨g2, n, none⟩) HG.out.2.1 (.int .i64 (f2 (n + 1))))
        clear C1 C2 HB4 x0 xf xl
        generalize V1.setCell ⟨g2, n, none⟩ (.int .i64 (f2 (n + 1))) = V2 at *
        have HI0 : Hid (ISt (tabOf ⟨(L : Int), fs⟩ ks) L g1 g2 W0 n 0 V2) := Lib.hid ⟨_, _, D1, D2, by
          rw [updF_same, updF_same, (HF.out (n + 1) (Nat.le_refl _) (by omega)).1, (HF.out (n + 1) (Nat.le_refl _) (by omega)).2]; rfl, fun j h1 h2 => by
          rw [updF_other _ (by omega), updF_other _ (by omega)]
          exact HF.out j h1 h2, HB5.out⟩
        clear D1 D2 HB5 HF
        go_wp2_with fail
        go_loopw [9] (fun s wr => ∃ i : Nat, i ≤ ks.length ∧ s = .int .i64 i ∧ ISt (tabOf ⟨(L : Int), fs⟩ ks) L g1 g2 W0 n i wr) (fun s _ => ks.length - (intOf s).toNat)
        case atStart => exact ⟨0, Nat.zero_le _, rfl, HI0.out⟩
        case round =>
          clear HI0
          obtain ⟨i, hi, rfl, hst⟩ := hrel
          have HST := Lib.hid hst
          clear hst
          by_cases hlt : i < ks.length
          · obtain ⟨f1, f2, A1, A2, he, hf, hB⟩ := HST.out
            have HB := Lib.hid hB
            have HF := Lib.hid hf
            have HE := Lib.hid he
            clear hB hf he HST
            have hkd := kd_get hlt
            have hko := kd_ok HKS.out hlt
            rw [hkd] at hko
            obtain ⟨Wn, hWn⟩ : ∃ Wn : Nat, ks[i].w = (Wn : Int) := ⟨ks[i].w.toNat, by have := hko.w1; omega⟩
            have hW1 : 1 ≤ Wn := by have := hko.w1; omega
            have hW24 : Wn ≤ 24 := by have := hko.w2; omega
            have hp1 := hko.p1
            have hp2 := hko.p2
            obtain ⟨kb, koff, hka, cw, cp, cm⟩ := HK.out.get i hlt
            rw [hWn] at cw
            subst hka
            have hcw := cw
            have hcp := cp
            have kw := cellB cw HB.out
            have kp := cellB cp HB.out
            have km := cellB cm HB.out
            have r0 := cellB c0 HB.out
            have r1 := cellB c1 HB.out
            have HWt := Lib.hid (show (tabOf ⟨(L : Int), fs⟩ ks).W i = Wn by simp only [tabOf]; rw [hkd, hWn]; rfl)
            have HPt := Lib.hid (show (tabOf ⟨(L : Int), fs⟩ ks).P i = ks[i].p by simp only [tabOf]; rw [hkd])
            have HCt := Lib.hid (show (tabOf ⟨(L : Int), fs⟩ ks).can n i = canB ⟨(L : Int), fs⟩ ks[i] n by simp only [tabOf]; rw [hkd])
            have HUS := Lib.hid (updL_succ ((tabOf ⟨(L : Int), fs⟩ ks).can n) (fun i => (tabOf ⟨(L : Int), fs⟩ ks).P i + dn (tabOf ⟨(L : Int), fs⟩ ks) (n + (tabOf ⟨(L : Int), fs⟩ ks).W i)) (fun i => many (tabOf ⟨(L : Int), fs⟩ ks) (n + (tabOf ⟨(L : Int), fs⟩ ks).W i)) i (bk (tabOf ⟨(L : Int), fs⟩ ks) (n + 1)))
            have hWn' : ks[i].w = (Wn : Int) := hWn
            have HWN := Lib.hid hWn
            clear hWn hkd cw cp cm hWn'
            have g_0 := fun d os => cell_regrown r0 d os
            have g_1 := fun d os => cell_regrown r1 d os
            have g_2 := fun d os => cell_regrown kw d os
            have g_3 := fun d os => cell_regrown kp d os
            have g_4 := fun d os => cell_regrown km d os
            have hcG : ∀ (d : Nat) (os : Array Obj), _ := fun d os => Calls.regrown_of (rCan_any (.agg #[.int .i64 (L : Int), .slice sa fs.length cap]) ⟨(L : Int), fs⟩ ks[i] n (grow (redrawn wr d) os) ⟨_, rfl, (HI.out.below (HB.out)).below (below_regrown wr d os)⟩ (by simp only; omega) (by omega) (by simp only; omega) (by have := HWN.out; omega) (by have := HWN.out; omega))
            unfold kV at hcG
            rw [HWN.out] at hcG
            by_cases hc : canB ⟨(L : Int), fs⟩ ks[i] n = true
            · rw [hc] at hcG
              go_wp2_with fail
              refine wp_region_quiet_below (by kernel_rfl) (by kernel_rfl) ?_
              repeat (quiet_step ((go_at_call 60; exact hcG _ _)))
              refine wpQuiet_nil ?_
              intro _ hw'
              obtain ⟨⟨dq, osq⟩, hw''⟩ := hw'
              subst hw''
              have hb2 := below_regrown wr dq osq
              have B1 := A1.below hb2
              have B2 := A2.below hb2
              have HB2 := Lib.hid (bC HB.out hb2)
              clear g_0 g_1 g_2 g_3 g_4 hcG r0 r1 kw kp km A1 A2 hb2
              generalize grow (redrawn wr dq) osq = w3 at *
              have hfit : n + Wn ≤ L := by
                have := (canB_iff.1 hc).1
                have := HWN.out
                simp only at *
                omega
              have kw := cellB hcw HB2.out
              have kp := cellB hcp HB2.out
              have d1 := B1.cell (i := n + Wn) (by omega)
              rw [(HF.out (n + Wn) (by omega) hfit).1] at d1
              have hdn := tabOf_dn (r := ⟨(L : Int), fs⟩) (by simp) (by simp only; omega) HKS.out (n + Wn)
              obtain ⟨dv, hdv⟩ : ∃ dv, dn (tabOf ⟨(L : Int), fs⟩ ks) (n + Wn) = dv := ⟨_, rfl⟩
              rw [hdv] at d1 hdn
              have HDV := Lib.hid hdv
              clear hdv
              have ww1 : IntKind.i64.wrap ((n : Int) + (Wn : Int)) = (n : Int) + (Wn : Int) := IntWalk.i64_in _ (by omega)
              have ww2 : IntKind.i64.wrap (ks[i].p + dv) = ks[i].p + dv := IntWalk.i64_in _ (by omega)
              have ix0 : (0 : Int) ≤ (n : Int) + (Wn : Int) := by omega
              have ix1 : ((n : Int) + (Wn : Int)).toNat = n + Wn := by omega
              go_wp2_with fail
              go_quiet (fail)
              have hb4 : Below w3.heap.size w3 (w3.drewN nq) := below_drewN (Below.refl _ _) _
              have C1 := B1.below hb4
              have C2 := B2.below hb4
              have HB4 := Lib.hid (bC HB2.out hb4)
              clear kw kp d1 hb4 B1 B2
              generalize w3.drewN nq = w4 at *
              obtain ⟨mv, hmv⟩ : ∃ mv, many (tabOf ⟨(L : Int), fs⟩ ks) (n + Wn) = mv := ⟨_, rfl⟩
              have hm2 := (HF.out (n + Wn) (by omega) hfit).2
              rw [hmv] at hm2
              have HM2 := Lib.hid hm2
              have hmw : IntKind.i64.wrap (f2 n + mv) = f2 n + mv := by
                have := many_wrap HOK.out (by rw [HTL.out.2]; omega) (n := n) (by rw [HTL.out.1]; omega) (by rw [HTL.out.1]; omega) (i := i) (by rw [HTL.out.2]; omega)
                rw [← HE.out, HWt.out, hmv] at this
                exact this
              have hm0 := many_wrap0 HOK.out (by rw [HTL.out.2]; omega) (by rw [HTL.out.1]; omega) (m := n + Wn) (by omega)
              rw [hmv] at hm0
              have hUP : updL ((tabOf ⟨(L : Int), fs⟩ ks).can n) (fun i => (tabOf ⟨(L : Int), fs⟩ ks).P i + dn (tabOf ⟨(L : Int), fs⟩ ks) (n + (tabOf ⟨(L : Int), fs⟩ ks).W i)) (fun i => many (tabOf ⟨(L : Int), fs⟩ ks) (n + (tabOf ⟨(L : Int), fs⟩ ks).W i)) (List.range (i + 1)) (bk (tabOf ⟨(L : Int), fs⟩ ks) (n + 1)) = upd (f1 n, f2 n) (ks[i].p + dv) mv := by
                rw [HUS.out, if_pos (by rw [HCt.out, hc]), ← HE.out, HPt.out, HWt.out, HDV.out, hmv]
              have HMW := Lib.hid (And.intro hmw hm0)
              have HUP := Lib.hid hUP
              obtain ⟨xv, hxv⟩ : ∃ xv, ks[i].p + dv = xv := ⟨_, rfl⟩
              have HXV := Lib.hid hxv
              clear hm2 hmw hm0 hmv hUP HUS HE hxv
              have x0 := C1.cell (i := n) (by omega)
              have z0 := C2.cell (i := n) (by omega)
              have zf := C1.frozen n
              have zf2 := C2.frozen n
              have zl := C1.lt
              have zl2 := C2.lt
              rw [HXV.out]
              by_cases c1 : f1 n < xv
              · have e1 : decide (f1 n < xv) = true := by simpa using c1
                have e2 : (xv == xv) = true := by simp
                have HUP1 := Lib.hid (show upd (f1 n, f2 n) (ks[i].p + dv) mv = (xv, mv) by rw [HXV.out]; unfold upd; rw [if_pos c1])
                clear c1
                go_wp2_with fail
                have E1 := (C1.set n xv).other (b := g2) (j := n) hne (.int .i64 0)
                have E2 := (C2.other (b := g1) (j := n) hne' (.int .i64 xv)).set n 0
                have HB6 := Lib.hid ((HB4.out.setCell (p := ⟨g1, n, none⟩) HG.out.1 (.int .i64 xv)).setCell (p := ⟨g2, n, none⟩) HG.out.2.1 (.int .i64 0))
                clear C1 C2 HB4 x0 z0 zf zf2 zl zl2
                generalize (w4.setCell ⟨g1, n, none⟩ (.int .i64 xv)).setCell ⟨g2, n, none⟩ (.int .i64 0) = w6 at *
                have x0 := E1.cell (i := n) (by omega)
                rw [updF_same] at x0
                go_wp2_with fail
                have x1 := E2.cell (i := n) (by omega)
                rw [updF_same] at x1
                have x2 := E2.cell (i := n + Wn) (by omega)
                rw [updF_other _ (by omega), HM2.out] at x2
                have ww3 := HMW.out.2.1
                have ww4 := HMW.out.2.2
                have kc := cellB hcw HB6.out
                have y1 := fun d os => cell_regrown x1 d os
                have y2 := fun d os => cell_regrown x2 d os
                have y3 := fun d os => cell_regrown kc d os
                clear x0 x1 x2 kc
                have hnl : (n : Int) < (L : Int) + 1 := by omega
                have hnl2 : (n : Int) + (Wn : Int) < (L : Int) + 1 := by omega
                refine wp_region_tail 15 (by kernel_rfl) (by kernel_rfl) ?_
                repeat (quiet_step (fail))
                refine wpQuiet_nil ?_
                intro _ hw'
                obtain ⟨⟨dq3, osq3⟩, hw''⟩ := hw'
                subst hw''
                simp only [List.drop_succ_cons, List.drop_zero]
                have hb7 := below_regrown w6 dq3 osq3
                have G1 := E1.below hb7
                have G2 := E2.below hb7
                have HB7 := Lib.hid (bC HB6.out hb7)
                clear y1 y2 y3 hb7 E1 E2
                generalize grow (redrawn w6 dq3) osq3 = w7 at *
                have x0 := G2.cell (i := n) (by omega)
                have xf := G2.frozen n
                have xl := G2.lt
                clear ww1 ww2 ix0 ix1 hnl hnl2
                go_wp2
                rename_i wr8
                go_roundw
                case rel => 
                  refine ⟨i + 1, by omega, by go_num, _, _, G1.other hne _, G2.set n _, ?_, fun j h1 h2 => ?_, HB7.out.setCell (p := ⟨g2, n, none⟩) HG.out.2.1 _⟩
                  · rw [HUP.out, HUP1.out, updF_same, updF_same]
                  · rw [updF_other _ (by omega), updF_other _ (by omega), updF_other _ (by omega)]
                    exact HF.out j h1 h2
                case measure => simp [intOf]; omega
              · have e1 : decide (f1 n < xv) = false := by simpa using c1
                by_cases c2 : xv = f1 n
                · have e2 : (xv == f1 n) = true := by simpa using c2
                  have HUP1 := Lib.hid (show upd (f1 n, f2 n) (ks[i].p + dv) mv = (f1 n, f2 n + mv) by rw [HXV.out]; unfold upd; rw [if_neg c1, if_pos c2])
                  clear c1 c2
                  go_wp2_with fail
                  have x1 := z0
                  have x2 := C2.cell (i := n + Wn) (by omega)
                  rw [HM2.out] at x2
                  have ww3 := HMW.out.1
                  clear z0 zf zf2 zl zl2
                  have kc := cellB hcw HB4.out
                  have y1 := fun d os => cell_regrown x1 d os
                  have y2 := fun d os => cell_regrown x2 d os
                  have y3 := fun d os => cell_regrown kc d os
                  clear x0 x1 x2 kc
                  have hnl : (n : Int) < (L : Int) + 1 := by omega
                  have hnl2 : (n : Int) + (Wn : Int) < (L : Int) + 1 := by omega
                  refine wp_region_tail 15 (by kernel_rfl) (by kernel_rfl) ?_
                  repeat (quiet_step (fail))
                  refine wpQuiet_nil ?_
                  intro _ hw'
                  obtain ⟨⟨dq3, osq3⟩, hw''⟩ := hw'
                  subst hw''
                  simp only [List.drop_succ_cons, List.drop_zero]
                  have hb7 := below_regrown w4 dq3 osq3
                  have G1 := C1.below hb7
                  have G2 := C2.below hb7
                  have HB7 := Lib.hid (bC HB4.out hb7)
                  clear y1 y2 y3 hb7 C1 C2
                  generalize grow (redrawn w4 dq3) osq3 = w7 at *
                  have x0 := G2.cell (i := n) (by omega)
                  have xf := G2.frozen n
                  have xl := G2.lt
                  clear ww1 ww2 ix0 ix1 hnl hnl2
                  go_wp2
                  rename_i wr8
                  go_roundw
                  case rel => 
                    refine ⟨i + 1, by omega, by go_num, _, _, G1.other hne _, G2.set n _, ?_, fun j h1 h2 => ?_, HB7.out.setCell (p := ⟨g2, n, none⟩) HG.out.2.1 _⟩
                    · rw [HUP.out, HUP1.out, updF_same]
                    · rw [updF_other _ (by omega)]
                      exact HF.out j h1 h2
                  case measure => simp [intOf]; omega
                · have e2 : (xv == f1 n) = false := by simpa using c2
                  have HUP1 := Lib.hid (show upd (f1 n, f2 n) (ks[i].p + dv) mv = (f1 n, f2 n) by rw [HXV.out]; unfold upd; rw [if_neg c1, if_neg c2])
                  clear c1 c2
                  go_wp2
                  rename_i wr8
                  go_roundw
                  case rel => exact ⟨i + 1, by omega, by go_num, f1, f2, C1, C2, by rw [HUP.out, HUP1.out], HF.out, HB4.out⟩
                  case measure => simp [intOf]; omega
            · rw [Bool.not_eq_true] at hc
              rw [hc] at hcG
              go_wp2_with fail
              refine wp_region_quiet_below (by kernel_rfl) (by kernel_rfl) ?_
              repeat (quiet_step ((go_at_call 60; exact hcG _ _)))
              refine wpQuiet_nil ?_
              intro _ hw'
              obtain ⟨⟨dq, osq⟩, hw''⟩ := hw'
              subst hw''
              have hb2 := below_regrown wr dq osq
              have B1 := A1.below hb2
              have B2 := A2.below hb2
              have HB2 := Lib.hid (bC HB.out hb2)
              clear g_0 g_1 g_2 g_3 g_4 hcG r0 r1 kw kp km A1 A2 hb2
              generalize grow (redrawn wr dq) osq = w3 at *
              go_wp2
              rename_i wr8
              go_roundw
              case rel => exact ⟨i + 1, by omega, by go_num, f1, f2, B1, B2, by rw [HUS.out, if_neg (by rw [HCt.out, hc]; simp)]; exact HE.out, HF.out, HB2.out⟩
              case measure => simp [intOf]; omega
          · obtain rfl : i = ks.length := by omega
            have HN := Lib.hid (HST.out.done HOK.out HTL.out.1 HTL.out.2 hn)
            clear HST
            go_wp2
            rename_i wr9
            go_roundw
            case rel => exact ⟨n, by omega, nextF n, HN.out⟩
            case measure => simp [intOf]

end Go.Proofs.Ytnkeikhkafbokaa

namespace Go.Proofs.Ytnkeikhkafbokaa
open Go.RowKit Go.Dag Go.Sort

/-! ## The reference: what best cuts are worth, how many there are -/
theorem rboth_ok (v kv : Value) (r : RibD) (ks : List KindD) (w : World) (hv : RibAt w v r) (hk : KindsAt w kv ks) (hr : RibOk r) (hks : KindsOk ks) :
    Calls Try.prog 59 #[v, kv] w fun e w' => e = .returned (.int .i64 0) ∧ Below w.heap.size w w' := by
  have h := rboth_any v kv r ks w hv hk (by have := hr.count; omega) (by have := hks.1; omega)
  rwa [bothErr_of hr hks] at h

set_option maxHeartbeats 1000000 in
theorem WorthOf_any (v kv : Value) (r : RibD) (ks : List KindD) (w : World) (hv : RibAt w v r) (hk : KindsAt w kv ks) (hr : RibOk r) (hks : KindsOk ks) :
    Calls Try.prog 65 #[v, kv] w fun e w' => e = .returned (.int .i64 (dn (tabOf r ks) 0)) ∧ Below w.heap.size w w' := by
  obtain ⟨sv, rfl, hi⟩ := hv
  obtain ⟨sa, cap, rfl⟩ := hi.slice
  obtain ⟨ka, kcap, rfl⟩ := hk.slice
  have hB0 := below1 w (.cells #[.int .i64 r.len, .slice sa r.fs.length cap] 24)
  have b0 := Blk.new w (.cells #[.int .i64 r.len, .slice sa r.fs.length cap] 24)
  have HI := Lib.hid (hi.below hB0)
  have HK := Lib.hid (hk.below hB0)
  clear hi hk
  go_enter Try.func65, Try.ntmps65
  go_wp2_with fail
  generalize w.alloc (.cells #[.int .i64 r.len, .slice sa r.fs.length cap] 24) = W0 at *
  refine (Behind_any _ _ r ks _ ⟨_, rfl, HI.out⟩ HK.out hr hks).mono ?_
  rintro e w1 ⟨g1, g2, rfl, A1, A2, hb1⟩
  have x0 := A1.cell (i := 0) (by omega)
  go_wp2
  go_ret
  exact ⟨rfl, bC hB0 hb1⟩

set_option maxRecDepth 100000 in
set_option maxHeartbeats 4000000 in
theorem rWorth_err (v kv : Value) (r : RibD) (ks : List KindD) (w : World) (hv : RibAt w v r) (hk : KindsAt w kv ks) (he : bothErr r ks ≠ 0) (hl : r.fs.length ≤ 1000) (hl2 : ks.length ≤ 1000) :
    Calls Try.prog 25 #[v, kv] w fun e w' => e = .returned (.tuple #[.int .i64 0, .int .i64 (bothErr r ks)]) ∧ Below w.heap.size w w' := by
  obtain ⟨sv, rfl, hi⟩ := hv
  obtain ⟨sa, cap, rfl⟩ := hi.slice
  obtain ⟨ka, kcap, rfl⟩ := hk.slice
  have hB0 := below1 w (.cells #[.int .i64 r.len, .slice sa r.fs.length cap] 24)
  have b0 := Blk.new w (.cells #[.int .i64 r.len, .slice sa r.fs.length cap] 24)
  have HI := Lib.hid (hi.below hB0)
  have HK := Lib.hid (hk.below hB0)
  clear hi hk
  go_enter Try.func25, Try.ntmps25
  go_wp2_with fail
  generalize w.alloc (.cells #[.int .i64 r.len, .slice sa r.fs.length cap] 24) = W0 at *
  have HE : (bothErr r ks != 0) = true := by simp [he]
  clear he
  refine (rboth_any _ _ r ks _ ⟨_, rfl, HI.out⟩ HK.out hl hl2).mono ?_
  rintro e w1 ⟨rfl, hb1⟩
  have b1 := b0.below hb1
  have c0 := b1.cell 0
  have c1 := b1.cell 1
  simp at c0 c1
  have hB1 := bC hB0 hb1
  have HI1 := Lib.hid (HI.out.below hb1)
  have HK1 := Lib.hid (HK.out.below hb1)
  go_wp2_with fail
  refine (rboth_any _ _ r ks _ ⟨_, rfl, HI1.out⟩ HK1.out hl hl2).mono ?_
  rintro e w2 ⟨rfl, hb2⟩
  go_wp2
  go_ret2
  exact ⟨rfl, bC hB1 hb2⟩

set_option maxRecDepth 100000 in
set_option maxHeartbeats 4000000 in
theorem rWorth_ok (v kv : Value) (r : RibD) (ks : List KindD) (w : World) (hv : RibAt w v r) (hk : KindsAt w kv ks) (hr : RibOk r) (hks : KindsOk ks) :
    Calls Try.prog 25 #[v, kv] w fun e w' => e = .returned (.tuple #[.int .i64 (dn (tabOf r ks) 0), .int .i64 0]) ∧ Below w.heap.size w w' := by
  obtain ⟨sv, rfl, hi⟩ := hv
  obtain ⟨sa, cap, rfl⟩ := hi.slice
  obtain ⟨ka, kcap, rfl⟩ := hk.slice
  have hB0 := below1 w (.cells #[.int .i64 r.len, .slice sa r.fs.length cap] 24)
  have b0 := Blk.new w (.cells #[.int .i64 r.len, .slice sa r.fs.length cap] 24)
  have HI := Lib.hid (hi.below hB0)
  have HK := Lib.hid (hk.below hB0)
  clear hi hk
  go_enter Try.func25, Try.ntmps25
  go_wp2_with fail
  generalize w.alloc (.cells #[.int .i64 r.len, .slice sa r.fs.length cap] 24) = W0 at *
  have HRK := Lib.hid (And.intro hr hks)
  have hc24 := hr.count
  have hk6 := hks.1
  clear hr hks
  refine (rboth_ok _ _ r ks _ ⟨_, rfl, HI.out⟩ HK.out HRK.out.1 HRK.out.2).mono ?_
  rintro e w1 ⟨rfl, hb1⟩
  have b1 := b0.below hb1
  have c0 := b1.cell 0
  have c1 := b1.cell 1
  simp at c0 c1
  have hB1 := bC hB0 hb1
  have HI1 := Lib.hid (HI.out.below hb1)
  have HK1 := Lib.hid (HK.out.below hb1)
  clear hb1
  go_wp2_with fail
  refine (WorthOf_any _ _ r ks _ ⟨_, rfl, HI1.out⟩ HK1.out HRK.out.1 HRK.out.2).mono ?_
  rintro e w2 ⟨rfl, hb2⟩
  go_wp2
  go_ret2
  exact ⟨rfl, bC hB1 hb2⟩

set_option maxRecDepth 100000 in
set_option maxHeartbeats 4000000 in
theorem rCount_err (v kv : Value) (r : RibD) (ks : List KindD) (w : World) (hv : RibAt w v r) (hk : KindsAt w kv ks) (he : bothErr r ks ≠ 0) (hl : r.fs.length ≤ 1000) (hl2 : ks.length ≤ 1000) :
    Calls Try.prog 29 #[v, kv] w fun e w' => e = .returned (.tuple #[.int .i64 0, .int .i64 (bothErr r ks)]) ∧ Below w.heap.size w w' := by
  obtain ⟨sv, rfl, hi⟩ := hv
  obtain ⟨sa, cap, rfl⟩ := hi.slice
  obtain ⟨ka, kcap, rfl⟩ := hk.slice
  have hB0 := below1 w (.cells #[.int .i64 r.len, .slice sa r.fs.length cap] 24)
  have b0 := Blk.new w (.cells #[.int .i64 r.len, .slice sa r.fs.length cap] 24)
  have HI := Lib.hid (hi.below hB0)
  have HK := Lib.hid (hk.below hB0)
  clear hi hk
  go_enter Try.func29, Try.ntmps29
  go_wp2_with fail
  generalize w.alloc (.cells #[.int .i64 r.len, .slice sa r.fs.length cap] 24) = W0 at *
  have HE : (bothErr r ks != 0) = true := by simp [he]
  clear he
  refine (rboth_any _ _ r ks _ ⟨_, rfl, HI.out⟩ HK.out hl hl2).mono ?_
  rintro e w1 ⟨rfl, hb1⟩
  have b1 := b0.below hb1
  have c0 := b1.cell 0
  have c1 := b1.cell 1
  simp at c0 c1
  have hB1 := bC hB0 hb1
  have HI1 := Lib.hid (HI.out.below hb1)
  have HK1 := Lib.hid (HK.out.below hb1)
  go_wp2_with fail
  refine (rboth_any _ _ r ks _ ⟨_, rfl, HI1.out⟩ HK1.out hl hl2).mono ?_
  rintro e w2 ⟨rfl, hb2⟩
  go_wp2
  go_ret2
  exact ⟨rfl, bC hB1 hb2⟩

set_option maxRecDepth 100000 in
set_option maxHeartbeats 4000000 in
theorem rCount_ok (v kv : Value) (r : RibD) (ks : List KindD) (w : World) (hv : RibAt w v r) (hk : KindsAt w kv ks) (hr : RibOk r) (hks : KindsOk ks) :
    Calls Try.prog 29 #[v, kv] w fun e w' => e = .returned (.tuple #[.int .i64 (many (tabOf r ks) 0), .int .i64 0]) ∧ Below w.heap.size w w' := by
  obtain ⟨sv, rfl, hi⟩ := hv
  obtain ⟨sa, cap, rfl⟩ := hi.slice
  obtain ⟨ka, kcap, rfl⟩ := hk.slice
  have hB0 := below1 w (.cells #[.int .i64 r.len, .slice sa r.fs.length cap] 24)
  have b0 := Blk.new w (.cells #[.int .i64 r.len, .slice sa r.fs.length cap] 24)
  have HI := Lib.hid (hi.below hB0)
  have HK := Lib.hid (hk.below hB0)
  clear hi hk
  go_enter Try.func29, Try.ntmps29
  go_wp2_with fail
  generalize w.alloc (.cells #[.int .i64 r.len, .slice sa r.fs.length cap] 24) = W0 at *
  have HRK := Lib.hid (And.intro hr hks)
  have hc24 := hr.count
  have hk6 := hks.1
  clear hr hks
  refine (rboth_ok _ _ r ks _ ⟨_, rfl, HI.out⟩ HK.out HRK.out.1 HRK.out.2).mono ?_
  rintro e w1 ⟨rfl, hb1⟩
  have b1 := b0.below hb1
  have c0 := b1.cell 0
  have c1 := b1.cell 1
  simp at c0 c1
  have hB1 := bC hB0 hb1
  have HI1 := Lib.hid (HI.out.below hb1)
  have HK1 := Lib.hid (HK.out.below hb1)
  clear hb1
  go_wp2_with fail
  refine (Behind_any _ _ r ks _ ⟨_, rfl, HI1.out⟩ HK1.out HRK.out.1 HRK.out.2).mono ?_
  rintro e w2 ⟨g1, g2, rfl, A1, A2, hb2⟩
  have x0 := A2.cell (i := 0) (by omega)
  go_wp2
  go_ret2
  exact ⟨rfl, bC hB1 hb2⟩

end Go.Proofs.Ytnkeikhkafbokaa
