import Derived.Test.YtnkeikhkafbokaaQn
namespace Go.Proofs.Ytnkeikhkafbokaa
open Go.RowKit Go.Dag Go.Sort Go.Shelf
attribute [local go_sem] Oper.semAt_some

/-! ## The program: the sheets that end at a place -/
theorem grown_of_below {W W' : World} (h : Below W.heap.size W W') : W.grownBy W' none := ⟨h.os, h.tape, h.output, h.size, fun k hk _ => h.block k hk⟩
def shK (t : Tab) (p k : Nat) : List (Nat × Nat) := ((List.range k).filter (canTo t p)).map fun i => (p - t.W i, i)
def shL (t : Tab) (p : Nat) : List (Nat × Nat) := shK t p t.K
theorem shK_yes {t : Tab} {p k : Nat} (h : canTo t p k = true) : shK t p (k + 1) = shK t p k ++ [(p - t.W k, k)] := by
  unfold shK
  rw [List.range_succ, List.filter_append, List.map_append, List.filter_cons, if_pos h]
  rfl
theorem shK_no {t : Tab} {p k : Nat} (h : canTo t p k = false) : shK t p (k + 1) = shK t p k := by
  unfold shK
  rw [List.range_succ, List.filter_append, List.filter_cons, if_neg (by rw [h]; simp)]
  simp
theorem shK_pfx (t : Tab) (p : Nat) : ∀ {k m : Nat}, k ≤ m → shK t p k <+: shK t p m := by
  intro k m h
  obtain ⟨d, rfl⟩ : ∃ d, m = k + d := ⟨m - k, by omega⟩
  clear h
  induction d with
  | zero => exact List.prefix_refl _
  | succ d ih =>
    rw [← Nat.add_assoc]
    cases e : canTo t p (k + d) with
    | true => rw [shK_yes e]; exact ih.trans (List.prefix_append _ _)
    | false => rw [shK_no e]; exact ih
theorem shK_len (t : Tab) (p k : Nat) : (shK t p k).length ≤ k := by
  unfold shK
  rw [List.length_map]
  have := List.length_filter_le (canTo t p) (List.range k)
  rwa [List.length_range] at this
theorem shL_mem {t : Tab} {p : Nat} {s : Nat × Nat} : s ∈ shL t p ↔ s.2 < t.K ∧ canTo t p s.2 = true ∧ s.1 = p - t.W s.2 := by
  unfold shL shK
  rw [List.mem_map]
  constructor
  · rintro ⟨i, hi, rfl⟩
    rw [List.mem_filter, List.mem_range] at hi
    exact ⟨hi.1, hi.2, rfl⟩
  · rintro ⟨h1, h2, h3⟩
    exact ⟨s.2, List.mem_filter.2 ⟨List.mem_range.2 h1, h2⟩, by rw [← h3]⟩
/-- What the iterator asks of a round: all that is older than it is as it was, but the table's numbers and the map. -/
structure KT (T M n₀ : Nat) (W W' : World) : Prop where
  size : W.heap.size ≤ W'.heap.size
  same : ∀ k, k < n₀ → k ≠ T → k ≠ M → W'.heap[k]? = W.heap[k]?
  head : ∀ j, j < 4 → W'.cell? ⟨T, j, none⟩ = W.cell? ⟨T, j, none⟩
theorem KT.refl (T M n₀ : Nat) (W : World) : KT T M n₀ W W := ⟨Nat.le_refl _, fun _ _ _ _ => rfl, fun _ _ => rfl⟩
theorem KT.trans {T M n₀ : Nat} {A B C : World} (h : KT T M n₀ A B) (k : KT T M n₀ B C) : KT T M n₀ A C :=
  ⟨Nat.le_trans h.size k.size, fun i a b c => (k.same i a b c).trans (h.same i a b c), fun j hj => (k.head j hj).trans (h.head j hj)⟩
theorem KT.of_below {T M n₀ : Nat} {W W' : World} (h : Below W.heap.size W W') (hn : n₀ ≤ W.heap.size) (hT : T < W.heap.size) : KT T M n₀ W W' :=
  ⟨h.size, fun k hk _ _ => h.block k (by omega), fun j _ => h.cell (p := ⟨T, j, none⟩) hT⟩
theorem KT.cell {T M n₀ : Nat} {W W' : World} (h : KT T M n₀ W W') {b o : Nat} {v : Value} (hc : W.cell? ⟨b, o, none⟩ = some v) (hb : b < n₀) (h1 : b ≠ T) (h2 : b ≠ M) : W'.cell? ⟨b, o, none⟩ = some v := by
  rw [← hc]
  exact World.cell?_of_block (h.same b hb h1 h2)
theorem KT.blk {T M n₀ : Nat} {W W' : World} (h : KT T M n₀ W W') {b : Nat} {o : Obj} (hc : Blk W b o) (hb : b < n₀) (h1 : b ≠ T) (h2 : b ≠ M) : Blk W' b o := (h.same b hb h1 h2).trans hc
theorem TabIn.kt {w w' : World} {T M n₀ : Nat} {r : RibD} {ks : List KindD} {kb koff kcap q mb moff mcap : Nat} (h : TabIn w T M r ks kb koff kcap q mb moff mcap) (hk : KT T M n₀ w w') (hkb : kb < n₀) (hq : q < n₀) (hm : mb < n₀) : TabIn w' T M r ks kb koff kcap q mb moff mcap :=
  ⟨(hk.head 0 (by omega)).trans h.c0, (hk.head 2 (by omega)).trans h.c2, (hk.head 3 (by omega)).trans h.c3, fun i hi => ⟨hk.cell (h.kin i hi).1 hkb h.nk.1 h.nk.2, hk.cell (h.kin i hi).2.1 hkb h.nk.1 h.nk.2, hk.cell (h.kin i hi).2.2 hkb h.nk.1 h.nk.2⟩,
    hk.cell h.qc hq h.nq.1 h.nq.2, fun i hi => hk.cell (h.mc i hi) hm h.nm.1 h.nm.2, h.cap, h.cap2, h.nk, h.nq, h.nm⟩
theorem canTo_canI {r : RibD} {ks : List KindD} {p i : Nat} (hw : 0 ≤ (kd ks i).w) : canI r ks ((p : Int) - (kd ks i).w) i = canTo (tabOf r ks) p i := by
  unfold canI canTo
  simp only [tabOf]
  rw [Bool.eq_iff_iff]
  simp only [Bool.and_eq_true, decide_eq_true_eq]
  constructor
  · rintro ⟨h1, h2⟩
    refine ⟨decide_eq_true (show (kd ks i).w.toNat ≤ p by omega), ?_⟩
    rwa [show p - (kd ks i).w.toNat = ((p : Int) - (kd ks i).w).toNat by omega]
  · rintro ⟨h1, h2⟩
    have h1 : (kd ks i).w.toNat ≤ p := of_decide_eq_true h1
    refine ⟨by omega, ?_⟩
    rwa [show ((p : Int) - (kd ks i).w).toNat = p - (kd ks i).w.toNat by omega]

set_option maxRecDepth 100000 in
set_option maxHeartbeats 4000000 in
theorem sheets1_in (n : Nat) (_hn : 1 ≤ n) (l T M n₀ b1 b2 p : Nat) (r : RibD) (ks : List KindD) (kb koff kcap q mb moff mcap : Nat) (W : World) (hT : TabIn W T M r ks kb koff kcap q mb moff mcap) (hr : RibOk r) (hks : KindsOk ks) (hp : p ≤ 24)
    (hn0 : n₀ ≤ W.heap.size) (hkb : kb < n₀) (hq : q < n₀) (hm : mb < n₀) (h1 : b1 < n₀ ∧ b1 ≠ T ∧ b1 ≠ M) (h2 : b2 < n₀ ∧ b2 ≠ T ∧ b2 ≠ M)
    (hc1 : W.cell? ⟨b1, 0, none⟩ = some (.pointer (some ⟨T, 0, none⟩))) (hc2 : W.cell? ⟨b2, 0, none⟩ = some (.int .i64 p)) (J Jx : List (Nat × Nat) → World → Prop)
    (hY : ∀ pre x W, x ∈ shL (tabOf r ks) p → J pre W → pre.length < (shL (tabOf r ks) p).length → YieldAt Fence.wide (n - 1) Try.prog l #[shV (x.1 : Nat) (x.2 : Nat)] W fun e W' =>
      (e = .returned (.bool true) ∧ J (pre ++ [x]) W' ∧ KT T M n₀ W W') ∨ (e = .returned (.bool false) ∧ Jx (pre ++ [x]) W'))
    (hJa : ∀ pre W W', J pre W → Below W.heap.size W W' → J pre W') (h0 : J [] W) :
    CallsIn Fence.wide n Try.prog 79 #[.func (.yield l) #[] #[], .pointer (some ⟨b1, 0, none⟩), .pointer (some ⟨b2, 0, none⟩)] W fun e W' => (∃ v, e = .returned v) ∧
      ((∃ ys, ys = shL (tabOf r ks) p ∧ J ys W') ∨ (∃ pre, (pre <+: shL (tabOf r ks) p) ∧ Jx pre W')) := by
  have HT := Lib.hid hT
  have HRK := Lib.hid (And.intro hr hks)
  have hk6 := hks.1
  have t2 := hT.c2
  have HC := Lib.hid (And.intro hc1 hc2)
  have HK1 := Lib.hid (show (tabOf r ks).K = ks.length from rfl)
  clear hT hr hks
  refine callsIn_of_wp Try.func79 rfl trivial ?_ rfl
  simp only [Try.ntmps79, List.size_toArray, List.length_cons, List.length_nil, Nat.reduceAdd, Nat.reduceSub, Array.replicate_succ, Array.replicate_zero, List.push_toArray, List.append_toArray, List.nil_append, List.cons_append]
  gi_wp2
  clear t2 hc1 hc2
  gi_loopw [12] (fun i wr => ∃ k : Nat, k ≤ ks.length ∧ i = .int .i64 k ∧ J (shK (tabOf r ks) p k) wr ∧ KT T M n₀ W wr)
    (fun i _ => ks.length - (intOf i).toNat)
  case atStart => exact ⟨0, Nat.zero_le _, rfl, h0, KT.refl _ _ _ _⟩
  case round =>
    obtain ⟨k, hk, rfl, hJs, hKT⟩ := hrel
    have HJ := Lib.hid hJs
    have HKT := Lib.hid hKT
    have HT3 := Lib.hid (HT.out.kt hKT hkb hq hm)
    have hz3 := hKT.size
    have x1 := hKT.cell HC.out.1 h1.1 h1.2.1 h1.2.2
    have x2 := hKT.cell HC.out.2 h2.1 h2.2.1 h2.2.2
    clear hJs hKT
    by_cases hlt : k < ks.length
    · obtain ⟨y1, y2, y3⟩ := HT3.out.kin k hlt
      have hkd := kd_get hlt
      have hko := kd_ok HRK.out.2 hlt
      rw [hkd] at hko
      have kw1 := hko.w1
      have kw2 := hko.w2
      have HKD := Lib.hid hkd
      have hct := canTo_canI (r := r) (ks := ks) (p := p) (i := k) (by rw [hkd]; omega)
      rw [hkd] at hct
      have HWT := Lib.hid (show (tabOf r ks).W k = ks[k].w.toNat by simp only [tabOf]; rw [hkd])
      have HCT := Lib.hid hct
      clear hct
      clear hkd hko
      have b2w : b2 < wr.heap.size := by have := h2.1; omega
      have b1w : b1 < wr.heap.size := by have := h1.1; omega
      have ww : IntKind.i64.wrap ((p : Int) - ks[k].w) = (p : Int) - ks[k].w := IntWalk.i64_in _ (by omega)
      have hB2 := below2 wr (.cells #[.int .i64 ks[k].w, .int .i64 ks[k].p, .int .i64 ks[k].m] 67) (.cells #[.int .i64 ((p : Int) - ks[k].w), .int .i64 k] 56)
      have HB2 := Lib.hid hB2
      have bS := Blk.new (wr.alloc (.cells #[.int .i64 ks[k].w, .int .i64 ks[k].p, .int .i64 ks[k].m] 67)) (.cells #[.int .i64 ((p : Int) - ks[k].w), .int .i64 k] 56)
      rw [World.size_alloc] at bS
      have HBS := Lib.hid bS
      clear bS
      have HCC := Lib.hid (canCut_any T M r ks ((p : Int) - ks[k].w) k _ ⟨_, _, _, _, _, _, _, HT3.out.below hB2⟩ HRK.out.1 HRK.out.2 hlt (by omega) (by omega))
      clear hB2
      gi_wp2_with fail
      refine ⟨trivial, (callsIn_wide.2 HCC.out).mono ?_⟩
      rintro e w2 ⟨rfl, hb2⟩
      rw [HCT.out]
      have hsz2 := hb2.size
      simp at hsz2
      have hBW := bC HB2.out hb2
      have bS := HBS.out.below hb2
      have s0 := bS.cell 0
      have s1 := bS.cell 1
      simp at s0 s1
      have HK3 := Lib.hid (HKT.out.trans (KT.of_below hBW (by omega) (by have := lt_of_cell HT3.out.c0; exact this)))
      have HJ3 := Lib.hid (hJa _ _ _ HJ.out hBW)
      clear hBW hb2 bS x1 x2 y1 y2 y3 ww
      cases hct : canTo (tabOf r ks) p k with
      | false =>
        have HS := Lib.hid (shK_no hct)
        clear hct
        gi_wp2
        refine ⟨fun _ h => (by cases h), ?_⟩
        gi_wp2
        go_roundw
        case rel => exact ⟨k + 1, by omega, by simp, by rw [HS.out]; exact HJ3.out, HK3.out⟩
        case measure => simp [intOf]; omega
      | true =>
        have HS := Lib.hid (shK_yes hct)
        have hle : ks[k].w.toNat ≤ p := by
          unfold canTo at hct
          rw [Bool.and_eq_true, decide_eq_true_eq, HWT.out] at hct
          exact hct.1
        have hlen : (shK (tabOf r ks) p k).length < (shL (tabOf r ks) p).length := by
          have h1 := (shK_pfx (tabOf r ks) p (show k + 1 ≤ (tabOf r ks).K by rw [HK1.out]; omega)).length_le
          rw [HS.out, List.length_append] at h1
          simp only [List.length_singleton] at h1
          unfold shL
          omega
        obtain ⟨fn, tmps, assign, body, hy, hR⟩ := hY _ (p - (tabOf r ks).W k, k) w2 (shL_mem.2 ⟨by rw [HK1.out]; exact hlt, hct, rfl⟩) HJ3.out hlen
        rw [HWT.out, show ((p - ks[k].w.toNat : Nat) : Int) = (p : Int) - ks[k].w by omega] at hy
        unfold shV at hy
        clear hct
        gi_wp2
        refine hR.mono ?_
        rintro e W3 (⟨rfl, hJ3, hk3⟩ | ⟨rfl, hJx3⟩)
        · gi_wp2
          go_roundw
          case rel => exact ⟨k + 1, by omega, by simp, by rw [HS.out]; exact hJ3, HK3.out.trans hk3⟩
          case measure => simp [intOf]; omega
        · gi_wp2
          refine bodyPost_ret (results_none rfl _ _ _) rfl ?_
          exact ⟨⟨_, rfl⟩, .inr ⟨_, by rw [← HS.out]; exact shK_pfx _ _ (by rw [HK1.out]; omega), hJx3⟩⟩
    · obtain rfl : k = ks.length := by omega
      gi_wp2
      go_end0
      exact ⟨⟨_, rfl⟩, .inl ⟨_, rfl, HJ.out⟩⟩
end Go.Proofs.Ytnkeikhkafbokaa

/-! The mathematics of layer 2: in how many ways best cuts go on, told from the last place to the first. -/
namespace Go.Proofs.Ytnkeikhkafbokaa
open Go.Dag
theorem isum_filter {α : Type} (xs : List α) (q : α → Bool) (f : α → Int) : isum (xs.filter q) f = isum xs fun x => if q x = true then f x else 0 := by
  induction xs with
  | nil => rfl
  | cons x xs ih =>
    rw [List.filter_cons, isum_cons]
    by_cases h : q x = true
    · rw [if_pos h, if_pos h, isum_cons, ih]
    · rw [if_neg h, if_neg h, ih]; omega
theorem isum_map {α β : Type} (xs : List α) (g : α → β) (f : β → Int) : isum (xs.map g) f = isum xs fun x => f (g x) := by
  unfold isum
  rw [List.map_map]
  rfl
/-- In how many ways best cuts go on with a sheet of a kind from q on. -/
def con (t : Tab) (q i : Nat) : Int := if t.can q i = true ∧ up t q + t.P i = up t (q + t.W i) then Dag.ways t (q + t.W i) else 0
/-- .. with a sheet that ends behind p. -/
def Yb (t : Tab) (p q : Nat) : Int := isum (List.range t.K) fun i => if p < q + t.W i then con t q i else 0
/-- What sheets that end at p add at q. -/
def addW (t : Tab) (p : Nat) (xs : List (Nat × Nat)) (q : Nat) : Int := isum xs fun x => if x.1 = q ∧ up t x.1 + t.P x.2 = up t p then Dag.ways t p else 0
theorem addW_snoc (t : Tab) (p : Nat) (xs : List (Nat × Nat)) (x : Nat × Nat) (q : Nat) : addW t p (xs ++ [x]) q = addW t p xs q + if x.1 = q ∧ up t x.1 + t.P x.2 = up t p then Dag.ways t p else 0 := by
  unfold addW
  rw [isum_append, isum_cons]
  simp [isum]
theorem Yb_step {t : Tab} (h : t.Ok) {p q : Nat} (hp : 1 ≤ p) : Yb t (p - 1) q = Yb t p q + addW t p (shL t p) q := by
  unfold Yb addW shL shK
  rw [isum_map, isum_filter, ← isum_add]
  refine isum_same fun i hi => ?_
  have hw := h.w i (List.mem_range.1 hi)
  by_cases c1 : p < q + t.W i
  · rw [if_pos (by omega), if_pos c1]
    by_cases c3 : canTo t p i = true
    · rw [if_pos c3]
      unfold canTo at c3
      rw [Bool.and_eq_true, decide_eq_true_eq] at c3
      rw [if_neg (fun hh => by have := hh.1; simp only at this; omega)]
      omega
    · rw [if_neg c3]; omega
  · rw [if_neg c1]
    by_cases c2 : q + t.W i = p
    · rw [if_pos (by omega)]
      have e : p - t.W i = q := by omega
      unfold con canTo
      simp only [e, c2]
      by_cases c3 : t.can q i = true
      · rw [c3]
        rw [decide_eq_true (by omega)]
        by_cases c4 : up t q + t.P i = up t p
        · simp [c4]
        · simp [c4]
      · rw [Bool.not_eq_true] at c3
        rw [c3]
        simp
    · rw [if_neg (by omega)]
      by_cases c3 : canTo t p i = true
      · rw [if_pos c3]
        unfold canTo at c3
        rw [Bool.and_eq_true, decide_eq_true_eq] at c3
        rw [if_neg (fun hh => by have := hh.1; simp only at this; omega)]
        rfl
      · rw [if_neg c3]; rfl
theorem ways_Yb {t : Tab} (h : t.Ok) {q : Nat} (hq : q < t.L) : Dag.ways t q = (if up t q = up t (q + 1) then Dag.ways t (q + 1) else 0) + Yb t q q := by
  rw [Dag.ways_step h hq]
  congr 1
  unfold Yb
  refine isum_same fun i hi => ?_
  have hw := h.w i (List.mem_range.1 hi)
  rw [if_pos (show q < q + t.W i by omega)]
  rfl
/-- What the program holds when the places behind p have been told of. -/
def Yv (t : Tab) (p q : Nat) : Int := if p ≤ q then Dag.ways t q else Yb t p q
theorem Yb_end {t : Tab} (h : t.Ok) (q : Nat) : Yb t t.L q = 0 := by
  unfold Yb
  refine isum_zero fun i hi => ?_
  by_cases c : t.L < q + t.W i
  · rw [if_pos c]
    unfold con
    rw [if_neg]
    rintro ⟨h1, _⟩
    have := h.fit q i (List.mem_range.1 hi) h1
    omega
  · rw [if_neg c]
theorem Yv_start {t : Tab} (h : t.Ok) {q : Nat} (hq : q ≤ t.L) : Yv t t.L q = if q = t.L then 1 else 0 := by
  unfold Yv
  by_cases e : q = t.L
  · subst e
    rw [if_pos (Nat.le_refl _), if_pos rfl]
    unfold Dag.ways
    rw [if_pos (on_end h), many_end t (Nat.le_refl _)]
  · rw [if_neg (by omega), if_neg e, Yb_end h]
/-- From place p to the one before it. -/
theorem Yv_step {t : Tab} (h : t.Ok) {p q : Nat} (hp : 1 ≤ p) (hpL : p ≤ t.L) : Yv t (p - 1) q = (Yv t p q + if q = p - 1 ∧ up t (p - 1) = up t p then Dag.ways t p else 0) + if q < p then addW t p (shL t p) q else 0 := by
  unfold Yv
  by_cases c1 : p ≤ q
  · rw [if_pos (by omega), if_pos c1, if_neg (by omega), if_neg (by omega)]; omega
  · rw [if_neg c1, if_pos (show q < p by omega)]
    have hs := Yb_step h (q := q) hp
    by_cases c2 : q = p - 1
    · subst c2
      rw [if_pos (Nat.le_refl (p - 1)), ways_Yb h (by omega), show p - 1 + 1 = p by omega]
      by_cases c3 : up t (p - 1) = up t p
      · rw [if_pos c3, if_pos ⟨rfl, c3⟩]; omega
      · rw [if_neg c3, if_neg (fun hh => c3 hh.2)]; omega
    · rw [if_neg (show ¬ p - 1 ≤ q by omega), if_neg (fun (hh : q = p - 1 ∧ _) => c2 hh.1)]; omega
theorem ways_bd {t : Tab} (h : t.Ok) (hK : t.K ≤ 6) (hL : t.L ≤ 24) {q : Nat} (hq : 1 ≤ q) : 0 ≤ Dag.ways t q ∧ Dag.ways t q ≤ b23 := by
  have h1 := many_pos h _ q rfl
  have h2 := many_le h hK _ q rfl
  have h3 := six_mono (show t.L - q ≤ 23 by omega)
  have h5 : (6 : Int) ^ 23 = b23 := rfl
  unfold Dag.ways
  split <;> omega
theorem con_bd {t : Tab} (h : t.Ok) (hK : t.K ≤ 6) (hL : t.L ≤ 24) {p q i : Nat} (hp : p < q + t.W i) (h1 : 1 ≤ p) : 0 ≤ con t q i ∧ 6 * con t q i ≤ b23 := by
  have hb : (6 : Int) * 6 ^ 22 = b23 := by unfold b23; omega
  have hb0 : (0 : Int) ≤ 6 ^ 22 := by omega
  unfold con
  split
  · have m1 := many_pos h _ (q + t.W i) rfl
    have m2 := many_le h hK _ (q + t.W i) rfl
    have m3 := six_mono (show t.L - (q + t.W i) ≤ 22 by omega)
    unfold Dag.ways
    split <;> omega
  · omega
theorem Yb_bd {t : Tab} (h : t.Ok) (hK : t.K ≤ 6) (hL : t.L ≤ 24) {p q : Nat} (h1 : 1 ≤ p) : 0 ≤ Yb t p q ∧ Yb t p q ≤ b23 := by
  have h0 : ∀ i, i ∈ List.range t.K → 0 ≤ (if p < q + t.W i then con t q i else 0) := fun i _ => by
    split
    · exact (con_bd h hK hL ‹_› h1).1
    · exact Int.le_refl _
  refine ⟨isum_nonneg h0, ?_⟩
  have hb : (6 : Int) * 6 ^ 22 = b23 := by unfold b23; omega
  have hb0 : (0 : Int) ≤ 6 ^ 22 := by omega
  have := isum_bound (f := fun i => if p < q + t.W i then con t q i else 0) (B := 6 ^ 22) t.K (fun i _ => by
    split
    · have := (con_bd h hK hL ‹_› h1).2; omega
    · exact hb0)
  have h6 : (t.K : Int) * 6 ^ 22 ≤ 6 * 6 ^ 22 := Int.mul_le_mul_of_nonneg_right (by omega) hb0
  unfold Yb
  omega
theorem addW_bd {t : Tab} (h : t.Ok) (hK : t.K ≤ 6) (hL : t.L ≤ 24) {p : Nat} (hp : 1 ≤ p) (q : Nat) : ∀ xs : List (Nat × Nat), 0 ≤ addW t p xs q ∧ addW t p xs q ≤ (xs.length : Int) * b23
  | [] => by simp [addW, isum]
  | x :: xs => by
    have ih := addW_bd h hK hL hp q xs
    have hw := ways_bd h hK hL hp
    have e : addW t p (x :: xs) q = (if x.1 = q ∧ up t x.1 + t.P x.2 = up t p then Dag.ways t p else 0) + addW t p xs q := isum_cons _ _ _
    have e2 : ((x :: xs).length : Int) * b23 = (xs.length : Int) * b23 + b23 := by
      rw [List.length_cons, show ((xs.length + 1 : Nat) : Int) = (xs.length : Int) + 1 by omega, Int.add_mul, Int.one_mul]
    rw [e, e2]
    split <;> omega
end Go.Proofs.Ytnkeikhkafbokaa
