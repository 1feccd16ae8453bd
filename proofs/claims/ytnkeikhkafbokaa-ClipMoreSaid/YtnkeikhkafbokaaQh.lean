import Derived.Test.YtnkeikhkafbokaaQg
import Derived.Test.YtnkeikhkafbokaaQb
namespace Go.Proofs.Ytnkeikhkafbokaa
open Go.RowKit Go.Dag Go.Sort Go.Shelf
attribute [local go_sem] Oper.semAt_some

/-! ## The reference: the first best cuts -/
theorem ArrAt.grown {W W' : World} {base size n : Nat} {e T : TypeId} {v : Value} {xs : List Value} {g k : Nat} {f : Nat → Int} (hA : ArrAt W g k T f) (h : W.ownsRow base e size v n xs) (hne : T ≠ e) (hg : W.grownBy W' v.ownBlock) : ArrAt W' g k T f := by
  obtain ⟨cs, h1, h2⟩ := hA
  exact ⟨cs, h1.grown h hne hg, h2⟩
theorem infoS : (Try.prog.info? 56).map (fun i => (i.zero, i.size, i.bytes)) = some (some (.agg #[.int .i64 0, .int .i64 0]), 2, 16) := by kernel_rfl
theorem undS : Try.prog.underlying 26 = some (.slice 56) := by kernel_rfl
theorem one2 (x y : Int) : ∀ q ∈ [Value.int .i64 x, Value.int .i64 y], q.oneCell' = true := by
  intro u hu
  simp only [List.mem_cons, List.not_mem_nil, or_false] at hu
  rcases hu with rfl | rfl <;> rfl
/-- A sheet of a kind from a place on that best cuts can have there. -/
def pB (t : Tab) (n i : Nat) : Bool := t.can n i && decide (t.P i + dn t (n + t.W i) = dn t n)
/-- The least such kind from j on, or -1. -/
def KindIs (t : Tab) (n K j : Nat) (v : Value) : Prop :=
  (v = .int .i64 (-1) ∧ ∀ i, j ≤ i → i < K → pB t n i = false) ∨ ∃ q : Nat, v = .int .i64 q ∧ j ≤ q ∧ q < K ∧ pB t n q = true ∧ ∀ i, j ≤ i → i < q → pB t n i = false
theorem KindIs.no {t : Tab} {n K j : Nat} {v : Value} (h : KindIs t n K (j + 1) v) (hp : pB t n j = false) : KindIs t n K j v := by
  rcases h with ⟨h1, h2⟩ | ⟨q, h1, h2, h3, h4, h5⟩
  · exact .inl ⟨h1, fun i hi hK => by
      by_cases e : i = j
      · subst e; exact hp
      · exact h2 i (by omega) hK⟩
  · exact .inr ⟨q, h1, by omega, h3, h4, fun i hi hq => by
      by_cases e : i = j
      · subst e; exact hp
      · exact h5 i (by omega) hq⟩
theorem KindIs.yes {t : Tab} {n K j : Nat} (hp : pB t n j = true) (hj : j < K) : KindIs t n K j (.int .i64 j) :=
  .inr ⟨j, rfl, Nat.le_refl _, hj, hp, fun i h1 h2 => by omega⟩
theorem first_none {t : Tab} {n f : Nat} (h : ∀ i, 0 ≤ i → i < t.K → pB t n i = false) (hn : n < t.L) : firstF t (f + 1) n = firstF t f (n + 1) := by
  rw [firstF, if_pos hn]
  have e : ((List.range t.K).find? fun i => t.can n i && decide (t.P i + dn t (n + t.W i) = dn t n)) = none := by
    rw [List.find?_eq_none]
    intro i hi
    have := h i (Nat.zero_le _) (List.mem_range.1 hi)
    unfold pB at this
    rw [this]
    simp
  rw [e]
theorem first_some {t : Tab} {n f q : Nat} (hq : q < t.K) (hp : pB t n q = true) (h : ∀ i, 0 ≤ i → i < q → pB t n i = false) (hn : n < t.L) : firstF t (f + 1) n = (n, q) :: firstF t f (n + t.W q) := by
  rw [firstF, if_pos hn]
  have e : ((List.range t.K).find? fun i => t.can n i && decide (t.P i + dn t (n + t.W i) = dn t n)) = some q := by
    rw [List.find?_range_eq_some]
    refine ⟨hp, List.mem_range.2 hq, fun j hj => ?_⟩
    have := h j (Nat.zero_le _) hj
    unfold pB at this
    rw [this]
    rfl
  rw [e]
theorem first_end {t : Tab} {n f : Nat} (hn : t.L ≤ n) : firstF t f n = [] := by
  cases f with
  | zero => rfl
  | succ f => rw [firstF, if_neg (by omega)]
theorem pairs_snoc (l : List (Int × Int)) (x y : Int) : pairCells (l ++ [(x, y)]) = pairCells l ++ [.int .i64 x, .int .i64 y] := by simp [pairCells]
/-- Where the search stands: what has been found, and what is still to be. -/
def CSt (t : Tab) (g1 : Nat) (W0 : World) (o : Value) (n : Nat) (wr : World) : Prop :=
  ∃ (f : Nat) (gl : List (Nat × Nat)), t.L - n ≤ f ∧ n ≤ t.L ∧ firstF t t.L 0 = gl ++ firstF t f n ∧ gl.length ≤ n ∧ wr.ownsRow W0.heap.size 56 2 o gl.length (pairCells (gl.map intP)) ∧ ArrAt wr g1 (t.L + 1) 2 (dn t) ∧ Below W0.heap.size W0 wr
theorem CSt.below {t : Tab} {g1 : Nat} {W0 : World} {o : Value} {n : Nat} {wr w' : World} (h : CSt t g1 W0 o n wr) (hb : Below wr.heap.size wr w') : CSt t g1 W0 o n w' := by
  obtain ⟨f, gl, h1, h0, h2, h3, h4, h5, h6⟩ := h
  exact ⟨f, gl, h1, h0, h2, h3, owns_below h4 hb, h5.below hb, bC h6 hb⟩
theorem CSt.arr {t : Tab} {g1 : Nat} {W0 : World} {o : Value} {n : Nat} {wr : World} (h : CSt t g1 W0 o n wr) : ArrAt wr g1 (t.L + 1) 2 (dn t) := by
  obtain ⟨f, gl, h1, h0, h2, h3, h4, h5, h6⟩ := h
  exact h5
theorem CSt.bel {t : Tab} {g1 : Nat} {W0 : World} {o : Value} {n : Nat} {wr : World} (h : CSt t g1 W0 o n wr) : Below W0.heap.size W0 wr := by
  obtain ⟨f, gl, h1, h0, h2, h3, h4, h5, h6⟩ := h
  exact h6
theorem CSt.waste {t : Tab} {g1 : Nat} {W0 : World} {o : Value} {n : Nat} {wr : World} (h : CSt t g1 W0 o n wr) (hn : n < t.L) (hp : ∀ i, 0 ≤ i → i < t.K → pB t n i = false) : CSt t g1 W0 o (n + 1) wr := by
  obtain ⟨f, gl, h1, h0, h2, h3, h4, h5, h6⟩ := h
  obtain ⟨f, rfl⟩ : ∃ f', f = f' + 1 := ⟨f - 1, by omega⟩
  exact ⟨f, gl, by omega, by omega, by rw [h2, first_none hp hn], by omega, h4, h5, h6⟩

set_option maxRecDepth 100000 in
set_option maxHeartbeats 4000000 in
theorem rCuts_err (v kv : Value) (r : RibD) (ks : List KindD) (w : World) (hv : RibAt w v r) (hk : KindsAt w kv ks) (he : bothErr r ks ≠ 0) (hl : r.fs.length ≤ 1000) (hl2 : ks.length ≤ 1000) :
    Calls Try.prog 27 #[v, kv] w fun e w' => e = .returned (.tuple #[.slice none 0 0, .int .i64 (bothErr r ks)]) ∧ Below w.heap.size w w' := by
  obtain ⟨sv, rfl, hi⟩ := hv
  obtain ⟨sa, cap, rfl⟩ := hi.slice
  obtain ⟨ka, kcap, rfl⟩ := hk.slice
  have hB0 := below1 w (.cells #[.int .i64 r.len, .slice sa r.fs.length cap] 24)
  have b0 := Blk.new w (.cells #[.int .i64 r.len, .slice sa r.fs.length cap] 24)
  have HI := Lib.hid (hi.below hB0)
  have HK := Lib.hid (hk.below hB0)
  clear hi hk
  go_enter Try.func27, Try.ntmps27
  go_wp2_with fail
  generalize w.alloc (.cells #[.int .i64 r.len, .slice sa r.fs.length cap] 24) = W0 at *
  have HE : (bothErr r ks != 0) = true := by simp [he]
  clear he
  refine (rboth_any _ _ r ks _ ⟨_, rfl, HI.out⟩ HK.out hl hl2).mono ?_
  rintro e w1 ⟨rfl, hb1⟩
  have b1 := b0.below hb1
  have c0 := b1.cell 0
  have c1 := b1.cell 1
  simp at c0 c1
  have hB1 := bC hB0 hb1
  have HI1 := Lib.hid (HI.out.below hb1)
  have HK1 := Lib.hid (HK.out.below hb1)
  go_wp2_with fail
  refine (rboth_any _ _ r ks _ ⟨_, rfl, HI1.out⟩ HK1.out hl hl2).mono ?_
  rintro e w2 ⟨rfl, hb2⟩
  go_wp2
  go_ret2
  exact ⟨rfl, bC hB1 hb2⟩

def firstL (t : Tab) : List (Int × Int) := (firstF t t.L 0).map intP
set_option maxRecDepth 100000 in
set_option maxHeartbeats 4000000 in
theorem rCuts_ok (v kv : Value) (r : RibD) (ks : List KindD) (w : World) (hv : RibAt w v r) (hk : KindsAt w kv ks) (hr : RibOk r) (hks : KindsOk ks) :
    Calls Try.prog 27 #[v, kv] w fun e w' => ∃ v, e = .returned (.tuple #[v, .int .i64 0]) ∧ PairsAt w' v (firstL (tabOf r ks)) ∧ Below w.heap.size w w' := by
  obtain ⟨sv, rfl, hi⟩ := hv
  obtain ⟨sa, cap, rfl⟩ := hi.slice
  obtain ⟨ka, kcap, rfl⟩ := hk.slice
  have hB0 := below1 w (.cells #[.int .i64 r.len, .slice sa r.fs.length cap] 24)
  have b0 := Blk.new w (.cells #[.int .i64 r.len, .slice sa r.fs.length cap] 24)
  have HI := Lib.hid (hi.below hB0)
  have HK := Lib.hid (hk.below hB0)
  have hl1 := hr.l1
  have hl2 := hr.l2
  have HOK := Lib.hid (tabOf_ok (r := r) (ks := ks) (by omega) hks)
  obtain ⟨L, hL⟩ : ∃ L : Nat, r.len = (L : Int) := ⟨r.len.toNat, by omega⟩
  have HTL := Lib.hid (show (tabOf r ks).L = L ∧ (tabOf r ks).K = ks.length from ⟨by simp only [tabOf]; omega, rfl⟩)
  have hL24 : L ≤ 24 := by omega
  have HLL := Lib.hid hL
  clear hL
  obtain ⟨i0, hif, hz0, hz1, hz2⟩ := info_parts infoS
  have HIF := Lib.hid hif
  have HZ0 := Lib.hid hz0
  have HZ1 := Lib.hid hz1
  have HZ2 := Lib.hid hz2
  clear hif hz0 hz1 hz2
  clear hi hk
  go_enter Try.func27, Try.ntmps27
  go_wp2_with fail
  generalize w.alloc (.cells #[.int .i64 r.len, .slice sa r.fs.length cap] 24) = W0 at *
  have HRK := Lib.hid (And.intro hr hks)
  have hc24 := hr.count
  have hk6 := hks.1
  clear hr hks
  refine (rboth_ok _ _ r ks _ ⟨_, rfl, HI.out⟩ HK.out HRK.out.1 HRK.out.2).mono ?_
  rintro e w1 ⟨rfl, hb1⟩
  have b1 := b0.below hb1
  have c0 := b1.cell 0
  have c1 := b1.cell 1
  simp at c0 c1
  have HB01 := Lib.hid hb1
  have hB1 := bC hB0 hb1
  have HI1 := Lib.hid (HI.out.below hb1)
  have HK1 := Lib.hid (HK.out.below hb1)
  clear hb1
  go_wp2_with fail
  refine (Behind_any _ _ r ks _ ⟨_, rfl, HI1.out⟩ HK1.out HRK.out.1 HRK.out.2).mono ?_
  rintro e w2 ⟨g1, g2, rfl, A1, A2, hb2⟩
  rw [HTL.out.1]
  have HB2 := Lib.hid (bC hB1 hb2)
  have hbx := bC (Below.refl _ W0) (bC (show Below W0.heap.size W0 w1 from HB01.out) hb2)
  have HST : Hid (CSt (tabOf r ks) g1 W0 (.slice none 0 0) 0 w2) := Lib.hid ⟨L, [], by rw [HTL.out.1]; omega, Nat.zero_le _, by rw [HTL.out.1]; rfl, Nat.le_refl _, ⟨rfl, .inl ⟨rfl, rfl⟩⟩, A1, hbx⟩
  clear A1 A2 hb2 hbx c0 c1
  go_wp2_with fail
  go_loopw [8, 9] (fun o s wr => ∃ n : Nat, n ≤ L ∧ s = .int .i64 n ∧ CSt (tabOf r ks) g1 W0 o n wr) (fun _ s _ => L - (intOf s).toNat)
  case atStart => exact ⟨0, Nat.zero_le _, rfl, HST.out⟩
  case round =>
    clear HST
    obtain ⟨n, hn, rfl, hst⟩ := hrel
    have HST := Lib.hid hst
    clear hst
    have HBW := Lib.hid (show Below W0.heap.size W0 wr from HST.out.bel)
    have hbb := b0.below HBW.out
    have c0 := hbb.cell 0
    have c1 := hbb.cell 1
    simp at c0 c1
    rw [HLL.out] at c0
    clear hbb
    by_cases hlt : n < L
    · go_wp2_with fail
      go_loopw [10, 11] (fun sk si wr => ∃ j : Nat, j ≤ ks.length ∧ ((j = 0 ∧ si = .int .i64 (-1)) ∨ ∃ i : Nat, j = i + 1 ∧ si = .int .i64 i) ∧ KindIs (tabOf r ks) n ks.length j sk ∧ CSt (tabOf r ks) g1 W0 u8 n wr) (fun _ si _ => (intOf si + 1).toNat)
      case atStart => exact ⟨ks.length, Nat.le_refl _, .inr ⟨ks.length - 1, by omega, by rw [show ((ks.length - 1 : Nat) : Int) = (ks.length : Int) - 1 by omega]⟩, .inl ⟨rfl, fun i h1 h2 => by omega⟩, HST.out⟩
      case round =>
        clear HST HBW c0 c1
        obtain ⟨j, hj, hsi, hki, hst⟩ := hrel
        have HKI := Lib.hid hki
        have HST := Lib.hid hst
        clear hki hst
        have HBW := Lib.hid (show Below W0.heap.size W0 wr from HST.out.bel)
        rcases hsi with ⟨rfl, rfl⟩ | ⟨i, rfl, rfl⟩
        · rcases HKI.out with ⟨hx, hno⟩ | ⟨q, hx, hq0, hq, hpq, hno⟩
          · subst hx
            have HCW := Lib.hid (HST.out.waste (by rw [HTL.out.1]; exact hlt) (by rw [HTL.out.2]; exact hno))
            clear HKI hno HST
            go_wp2
            rename_i wr8
            go_roundw
            case rel => exact ⟨n + 1, by omega, by go_num, HCW.out⟩
            case measure => simp [intOf]; omega
          · subst hx
            obtain ⟨f, gl, h1, h0, h2, h3, h4, h5, h6⟩ := HST.out
            have hcq : (tabOf r ks).can n q = true := by
              have := hpq
              unfold pB at this
              rw [Bool.and_eq_true] at this
              exact this.1
            have hfit := HOK.out.fit n q (by rw [HTL.out.2]; exact hq) hcq
            have hww := HOK.out.w q (by rw [HTL.out.2]; exact hq)
            obtain ⟨f, rfl⟩ : ∃ f', f = f' + 1 := ⟨f - 1, by rw [HTL.out.1] at h1; omega⟩
            have h2' := first_some (f := f) (by rw [HTL.out.2]; exact hq) hpq hno (by rw [HTL.out.1]; exact hlt)
            rw [h2'] at h2
            have hkd := kd_get hq
            have hko := kd_ok HRK.out.2 hq
            rw [hkd] at hko
            obtain ⟨Wn, hWn⟩ : ∃ Wn : Nat, ks[q].w = (Wn : Int) := ⟨ks[q].w.toNat, by have := hko.w1; omega⟩
            have hWt : (tabOf r ks).W q = Wn := by simp only [tabOf]; rw [hkd, hWn]; rfl
            rw [hWt, HTL.out.1] at hfit
            rw [hWt] at hww h2
            have hgl : gl.length ≤ 24 := by omega
            rw [HTL.out.1] at h1
            have hf : L - (n + Wn) ≤ f := by omega
            obtain ⟨kb, koff, hka, cw, cp, cm⟩ := HK.out.get q hq
            rw [hWn] at cw
            subst hka
            have hgn : gl.length ≤ n := h3
            have H2 := Lib.hid h2
            have H4 := Lib.hid h4
            have H5 := Lib.hid h5
            have hzz := HBW.out.size
            have ww1 : IntKind.i64.wrap ((n : Int) + (Wn : Int)) = (n : Int) + (Wn : Int) := IntWalk.i64_in _ (by omega)
            clear h0 h1 h2 h3 h4 h5 h6 h2' hkd hko hWn hWt cp cm hcq hpq hno HKI HST
            go_wp2_with (at_builtin; refine wpList_append_own _ rfl (.tmp 71) (.tmp 75) 26 rfl W0.heap.size 56 i0 (.agg #[.int .i64 0, .int .i64 0]) 2 16 undS HIF.out HZ0.out HZ1.out HZ2.out rfl (by decide) _ _ _ rfl (owns_below H4.out (below1 _ _)) ⟨wr.heap.size, 0, none⟩ 1 1 [.int .i64 n, .int .i64 q] rfl rfl (new_cells _ _ _) (one2 _ _) (by unfold maxLen; omega) (by omega) (by simp; omega) ?_; intro v2 w3 own3 gr3 _; have hb3 := below_owns (owns_below H4.out (below1 _ _)) gr3 (HBW.out.alloc hzz (.cells #[.int .i64 n, .int .i64 q] 56)) (by simp; omega); have kw := cellB cw hb3)
            have hA3 := (H5.out.below (below1 wr (.cells #[.int .i64 n, .int .i64 q] 56))).grown (owns_below H4.out (below1 _ _)) (by decide) gr3
            have HCS : Hid (CSt (tabOf r ks) g1 W0 v2 (n + Wn) w3) := Lib.hid ⟨f, gl ++ [(n, q)], by rw [HTL.out.1]; omega, by rw [HTL.out.1]; omega, by rw [H2.out, List.append_assoc]; rfl, by rw [List.length_append]; simp only [List.length_singleton]; omega, by
              rw [List.length_append, List.map_append, List.map_singleton]
              unfold intP
              rw [pairs_snoc]
              exact own3, hA3, hb3⟩
            clear own3 gr3 hA3 hb3 kw
            rename_i wr8
            go_roundw
            case rel => exact ⟨n + Wn, by omega, by go_num, HCS.out⟩
            case measure => simp [intOf]; omega
        · have hlt2 : i < ks.length := by omega
          have hbb := b0.below HBW.out
          have c0 := hbb.cell 0
          have c1 := hbb.cell 1
          simp at c0 c1
          rw [HLL.out] at c0
          have HA := Lib.hid HST.out.arr
          have hkd := kd_get hlt2
          have hko := kd_ok HRK.out.2 hlt2
          rw [hkd] at hko
          obtain ⟨Wn, hWn⟩ : ∃ Wn : Nat, ks[i].w = (Wn : Int) := ⟨ks[i].w.toNat, by have := hko.w1; omega⟩
          have hW1 : 1 ≤ Wn := by have := hko.w1; omega
          have hW24 : Wn ≤ 24 := by have := hko.w2; omega
          have hp1 := hko.p1
          have hp2 := hko.p2
          obtain ⟨kb, koff, hka, cw, cp, cm⟩ := HK.out.get i hlt2
          rw [hWn] at cw
          subst hka
          have kw := cellB cw HBW.out
          have kp := cellB cp HBW.out
          have km := cellB cm HBW.out
          have e1' : (tabOf r ks).W i = Wn := by simp only [tabOf]; rw [hkd, hWn]; rfl
          have e2' : (tabOf r ks).P i = ks[i].p := by simp only [tabOf]; rw [hkd]
          have e3' : (tabOf r ks).can n i = canB r ks[i] n := by simp only [tabOf]; rw [hkd]
          have HPB := Lib.hid (show pB (tabOf r ks) n i = (canB r ks[i] n && decide (ks[i].p + dn (tabOf r ks) (n + Wn) = dn (tabOf r ks) n)) by unfold pB; rw [e1', e2', e3'])
          have HWN := Lib.hid hWn
          clear hWn hkd cw cp cm hbb e1' e2' e3'
          have g_0 := fun d os => cell_regrown c0 d os
          have g_1 := fun d os => cell_regrown c1 d os
          have g_2 := fun d os => cell_regrown kw d os
          have g_3 := fun d os => cell_regrown kp d os
          have g_4 := fun d os => cell_regrown km d os
          have hcG : ∀ (d : Nat) (os : Array Obj), _ := fun d os => Calls.regrown_of (rCan_any (.agg #[.int .i64 r.len, .slice sa r.fs.length cap]) r ks[i] n (grow (redrawn wr d) os) ⟨_, rfl, (HI.out.below (HBW.out)).below (below_regrown wr d os)⟩ (by omega) (by omega) (by omega) (by have := HWN.out; omega) (by have := HWN.out; omega))
          unfold kV at hcG
          rw [HWN.out, HLL.out] at hcG
          by_cases hc : canB r ks[i] n = true
          · have hfit : n + Wn ≤ L := by
              have h1 := (canB_iff.1 hc).1
              have h2 := HWN.out
              have h3 := HLL.out
              omega
            have d1 := HA.out.cell (i := n + Wn) (by rw [HTL.out.1]; omega)
            have d2 := HA.out.cell (i := n) (by rw [HTL.out.1]; omega)
            have hdn := tabOf_dn (r := r) (by omega) hl2 HRK.out.2 (n + Wn)
            obtain ⟨dv, hdv⟩ : ∃ dv, dn (tabOf r ks) (n + Wn) = dv := ⟨_, rfl⟩
            obtain ⟨d0, hd0⟩ : ∃ d0, dn (tabOf r ks) n = d0 := ⟨_, rfl⟩
            rw [hdv] at d1 hdn HPB
            rw [hd0] at d2 HPB
            rw [hc] at hcG HPB
            clear hdv hd0
            have g_5 := fun d os => cell_regrown d1 d os
            have g_6 := fun d os => cell_regrown d2 d os
            have ww1 : IntKind.i64.wrap ((n : Int) + (Wn : Int)) = (n : Int) + (Wn : Int) := IntWalk.i64_in _ (by omega)
            have ww2 : IntKind.i64.wrap (ks[i].p + dv) = ks[i].p + dv := IntWalk.i64_in _ (by omega)
            have ix0 : (0 : Int) ≤ (n : Int) + (Wn : Int) := by omega
            have ix1 : ((n : Int) + (Wn : Int)).toNat = n + Wn := by omega
            have ix2 : (n : Int) + (Wn : Int) < (L : Int) + 1 := by omega
            have ix3 : (n : Int) < (L : Int) + 1 := by omega
            by_cases he : ks[i].p + dv = d0
            · have he' : (ks[i].p + dv == d0) = true := by simpa using he
              have HY := Lib.hid (KindIs.yes (t := tabOf r ks) (n := n) (K := ks.length) (j := i) (by rw [HPB.out, decide_eq_true he]; rfl) hlt2)
              clear he
              go_wp2_with fail
              have hun : undef = Value.tuple #[] := rfl
              refine wp_region_quiet_below (by kernel_rfl) (by kernel_rfl) ?_
              repeat (
                with_reducible refine wpQuiet_step (fun K hK => ?_)
                go_simp
                first
                  | (with_reducible refine hK _ ?_; clear hK K)
                  | (apply Exists.intro; refine ⟨fun _ => ?_, hK _ ?_⟩; (go_at_call 60; exact hcG _ _); clear hK K))
              rw [← hun]
              clear hun
              refine wpQuiet_nil ?_
              intro _ hw'
              obtain ⟨⟨dq, osq⟩, hw''⟩ := hw'
              subst hw''
              have HS3 := Lib.hid (HST.out.below (below_regrown wr dq osq))
              clear g_0 g_1 g_2 g_3 g_4 g_5 g_6 hcG c0 c1 kw kp km d1 d2 ww1 ww2 ix0 ix1 ix2 ix3 he'
              generalize grow (redrawn wr dq) osq = w3 at *
              go_wp2
              rename_i wr8
              go_roundw
              case rel => exact ⟨i, by omega, nextF i, HY.out, HS3.out⟩
              case measure => simp [intOf]
            · have he' : (ks[i].p + dv == d0) = false := by simpa using he
              have HY := Lib.hid (HKI.out.no (j := i) (by rw [HPB.out, decide_eq_false he]; rfl))
              clear he
              go_wp2_with fail
              have hun : undef = Value.tuple #[] := rfl
              refine wp_region_quiet_below (by kernel_rfl) (by kernel_rfl) ?_
              repeat (
                with_reducible refine wpQuiet_step (fun K hK => ?_)
                go_simp
                first
                  | (with_reducible refine hK _ ?_; clear hK K)
                  | (apply Exists.intro; refine ⟨fun _ => ?_, hK _ ?_⟩; (go_at_call 60; exact hcG _ _); clear hK K))
              rw [← hun]
              clear hun
              refine wpQuiet_nil ?_
              intro _ hw'
              obtain ⟨⟨dq, osq⟩, hw''⟩ := hw'
              subst hw''
              have HS3 := Lib.hid (HST.out.below (below_regrown wr dq osq))
              clear g_0 g_1 g_2 g_3 g_4 g_5 g_6 hcG c0 c1 kw kp km d1 d2 ww1 ww2 ix0 ix1 ix2 ix3 he'
              generalize grow (redrawn wr dq) osq = w3 at *
              go_wp2
              rename_i wr8
              go_roundw
              case rel => exact ⟨i, by omega, nextF i, HY.out, HS3.out⟩
              case measure => simp [intOf]
          · rw [Bool.not_eq_true] at hc
            rw [hc] at hcG HPB
            have HY := Lib.hid (HKI.out.no (j := i) (by rw [HPB.out]; rfl))
            go_wp2_with fail
            have hun : undef = Value.tuple #[] := rfl
            refine wp_region_quiet_below (by kernel_rfl) (by kernel_rfl) ?_
            repeat (
              with_reducible refine wpQuiet_step (fun K hK => ?_)
              go_simp
              first
                | (with_reducible refine hK _ ?_; clear hK K)
                | (apply Exists.intro; refine ⟨fun _ => ?_, hK _ ?_⟩; (go_at_call 60; exact hcG _ _); clear hK K))
            rw [← hun]
            clear hun
            refine wpQuiet_nil ?_
            intro _ hw'
            obtain ⟨⟨dq, osq⟩, hw''⟩ := hw'
            subst hw''
            have HS3 := Lib.hid (HST.out.below (below_regrown wr dq osq))
            clear g_0 g_1 g_2 g_3 g_4 hcG c0 c1 kw kp km 
            generalize grow (redrawn wr dq) osq = w3 at *
            go_wp2
            rename_i wr8
            go_roundw
            case rel => exact ⟨i, by omega, nextF i, HY.out, HS3.out⟩
            case measure => simp [intOf]
    · obtain rfl : n = L := by omega
      obtain ⟨f, gl, h1, h0, h2, h3, h4, h5, h6⟩ := HST.out
      have hfin : firstL (tabOf r ks) = gl.map intP := by
        unfold firstL
        rw [h2, first_end (by rw [HTL.out.1]; omega), List.append_nil]
      have HF := Lib.hid hfin
      have HO := Lib.hid h4
      clear hfin h0 h1 h2 h3 h4 h5 h6
      go_wp2
      go_ret2
      refine ⟨_, rfl, ?_, bC hB0 HBW.out⟩
      rw [HF.out]
      have := Row.of_owns HO.out
      rw [show gl.length = (gl.map intP).length by simp] at this
      exact this.pairs
end Go.Proofs.Ytnkeikhkafbokaa
