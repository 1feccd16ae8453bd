import Derived.Test.YtjbeoakikdkdaaaTa
namespace Go.Proofs.Ytjbeoakikdkdaaa
open Go.RowKit Go.Vat Go.Sort Go.Shelf
attribute [local go_sem] Oper.semAt_some

/-! ## Logs that are kept -/
section
variable {y : YardD} {loads : Int}
theorem keep_good (y : YardD) (loads : Int) : GoodL (okK y loads) y.logs.length (keepL y loads) :=
  lng_good (Nat.le_refl _) List.Pairwise.nil (by simp) ⟨List.Pairwise.nil, by simp, .inl rfl⟩
theorem keep_le (y : YardD) (loads : Int) : (keepL y loads).length ≤ y.logs.length := by
  have := inc_len (a := 0) (b := y.logs.length) (keep_good y loads).inc fun x hx => ⟨Nat.zero_le _, (keep_good y loads).lt x hx⟩
  omega
theorem only_len {t : List Nat} (hy : y.Ok) (ht : t.Pairwise (· < ·)) (hr : ∀ x ∈ t, x < y.logs.length) : t.length ≤ 10 := by
  have := inc_len (a := 0) (b := y.logs.length) ht fun x hx => ⟨Nat.zero_le _, hr x hx⟩
  have := hy.count
  omega
theorem keep_max (hy : y.Ok) {t : List Nat} (ht : t.Pairwise (· < ·)) (hr : ∀ x ∈ t, x < y.logs.length) (hU : U ⟨y.load, onlyL y t⟩ 101 ≤ loads) : t.length ≤ (keepL y loads).length := by
  have h := lng_max (ok := okK y loads) (N := y.logs.length) (m := y.logs.length) (begun := []) (best := []) (t := t) (Nat.le_refl _) ht (fun x hx => ⟨by omega, hr x hx⟩) (fun p hp _ => by
    rw [List.nil_append]
    refine decide_eq_true (Int.le_trans (U_sub (only_ok hy hr (only_len hy ht hr)) (only_ok hy (fun x hx => hr x (hp.subset hx)) ?_) rfl ?_ 101) hU)
    · exact Nat.le_trans hp.length_le (only_len hy ht hr)
    · exact hp.sublist.map _) (Nat.le_refl _)
  have h2 : ([] : List Nat).length + t.length ≤ (keepL y loads).length := h
  rw [List.length_nil] at h2
  omega
theorem keep_U (hy : y.Ok) (h0 : 0 ≤ loads) : U ⟨y.load, onlyL y (keepL y loads)⟩ 101 ≤ loads := by
  rcases (keep_good y loads).ok with h | h
  · have hn : YardD.Ok ⟨y.load, []⟩ := ⟨hy.l1, hy.l2, Nat.zero_le _, by simp⟩
    rw [h]
    show U ⟨y.load, []⟩ 101 ≤ loads
    rw [U_empty hn]
    exact h0
  · exact of_decide_eq_true h
theorem keep_mono (hy : y.Ok) (h0 : 0 ≤ loads) : (keepL y loads).length ≤ (keepL y (loads + 1)).length :=
  keep_max hy (keep_good y loads).inc (keep_good y loads).lt (by have := keep_U hy h0; omega)
theorem only_all (y : YardD) : onlyL y (List.range y.logs.length) = y.logs := by
  unfold onlyL
  refine List.ext_getElem (by simp) fun i h1 h2 => ?_
  simp only [List.getElem_map, List.getElem_range]
  exact getD_log h2
theorem keep_full (hy : y.Ok) (h0 : 0 ≤ loads) : (keepL y loads).length = y.logs.length ↔ U y 101 ≤ loads := by
  constructor
  · intro h
    have h1 := inc_full (a := 0) (keep_good y loads).inc (fun x hx => ⟨Nat.zero_le _, by rw [Nat.zero_add]; exact (keep_good y loads).lt x hx⟩) h
    have h2 := keep_U hy h0
    rw [h1, ← List.range_eq_range', only_all] at h2
    exact h2
  · intro h
    have h1 := keep_max (loads := loads) hy (t := List.range y.logs.length) List.pairwise_lt_range (fun x hx => List.mem_range.1 hx) (by rw [only_all]; exact h)
    have h2 := keep_le y loads
    rw [List.length_range] at h1
    omega
theorem casts_len (l : List Nat) : (l.map (Nat.cast : Nat → Int)).length = l.length := List.length_map _
theorem inc_get {l : List Nat} (h : l.Pairwise (· < ·)) {i j : Nat} (hij : i < j) (hj : j < l.length) : l[i]'(Nat.lt_trans hij hj) < l[j] := List.pairwise_iff_getElem.1 h i j (Nat.lt_trans hij hj) hj hij
end
set_option maxRecDepth 100000 in
set_option maxHeartbeats 16000000 in
theorem isList_yes (sa : Option Addr) (cap : Nat) (l : List Nat) (n : Nat) (w : World) (hl : IntsAt w (.slice sa l.length cap) (l.map (Nat.cast : Nat → Int))) (hp : l.Pairwise (· < ·)) (hlt : ∀ x ∈ l, x < n) (hn : l.length ≤ 1000) :
    Calls Try.prog 47 #[.slice sa l.length cap, .int .i64 (n : Int)] w fun e w' => e = .returned (.bool true) ∧ Below w.heap.size w w' := by
  have HG := Lib.hid (fun k (hk : k < l.length) => IntsAt.getN hl hk)
  have HP := Lib.hid (fun i j (hij : i < j) (hj : j < l.length) => inc_get hp hij hj)
  have HL := Lib.hid (fun k (hk : k < l.length) => hlt _ (List.getElem_mem hk))
  clear hl hp hlt
  go_enter Try.func47, Try.ntmps47
  go_wp2_with fail
  go_loopw [5] (fun s wr => ∃ i : Nat, i ≤ l.length ∧ s = .int .i64 i ∧ Below w.heap.size w wr) (fun s _ => l.length - (intOf s).toNat)
  case atStart => exact ⟨0, Nat.zero_le _, rfl, Below.refl _ _⟩
  case round =>
    obtain ⟨i, hi, rfl, hbw⟩ := hrel
    have HBW := Lib.hid hbw
    clear hbw
    by_cases hit : i < l.length
    · obtain ⟨b, off, rfl, hbl, x1⟩ := HG.out i hit
      replace x1 := cellB x1 HBW.out
      have hv := HL.out i hit
      have HPV := Lib.hid (fun j (hj : j + 1 = i) => HP.out j i (by omega) hit)
      obtain ⟨v, hv1⟩ : ∃ v, l[i] = v := ⟨_, rfl⟩
      rw [hv1] at x1 hv HPV
      have d1 : decide ((v : Int) < 0) = false := decide_eq_false (by omega)
      have d2 : decide ((v : Int) ≥ (n : Int)) = false := decide_eq_false (by omega)
      have d3 : decide ((n : Int) ≤ (v : Int)) = false := decide_eq_false (by omega)
      have d4 : decide (n ≤ v) = false := decide_eq_false (by omega)
      have j0 : (i : Int) < (l.length : Int) := by omega
      clear hv1 hv
      by_cases hi0 : i = 0
      · subst hi0
        rw [Nat.add_zero] at x1
        have t0 : (0 : Int) < (l.length : Int) := by omega
        go_wp2_with fail
        have g1 := fun d os => cell_regrown x1 d os
        clear x1
        refine wp_region_quiet_below (by kernel_rfl) (by kernel_rfl) ?_
        have hun : undef = Value.tuple #[] := rfl
        repeat (with_reducible refine wpQuiet_step (fun K hK => ?_); go_simp; with_reducible refine hK _ ?_; clear hK K)
        refine wpQuiet_nil ?_
        intro _ hw'
        obtain ⟨⟨dq, osq⟩, hw''⟩ := hw'
        subst hw''
        have HB9 := Lib.hid (bC HBW.out (below_regrown wr dq osq))
        rw [← hun]
        clear hun g1
        generalize grow (redrawn wr dq) osq = w9 at *
        go_wp2
        go_roundw
        case rel => exact ⟨0 + 1, by omega, by go_num, HB9.out⟩
        case measure => simp [intOf] <;> omega
      · obtain ⟨j, hj⟩ : ∃ j, j + 1 = i := ⟨i - 1, by omega⟩
        have z1 : decide ((i : Int) > 0) = true := decide_eq_true (by omega)
        have z2 : decide ((0 : Int) < (i : Int)) = true := decide_eq_true (by omega)
        have z3 : decide (0 < i) = true := decide_eq_true (by omega)
        have k1 : j < l.length := by omega
        have hv1 := HPV.out j hj
        obtain ⟨b4, o4, e, _, x4⟩ := HG.out j k1
        cases e
        replace x4 := cellB x4 HBW.out
        obtain ⟨u, hu⟩ : ∃ u, l[j] = u := ⟨_, rfl⟩
        rw [hu] at hv1 x4
        have d6 : decide ((v : Int) ≤ (u : Int)) = false := decide_eq_false (by omega)
        have d7 : decide (v ≤ u) = false := decide_eq_false (by omega)
        have w1 : IntKind.i64.wrap ((i : Int) - 1) = (j : Int) := by rw [IntWalk.i64_in _ (by omega)]; omega
        have w2 : IntKind.i64.wrap (j : Int) = (j : Int) := IntWalk.i64_in _ (by omega)
        have j3 : (j : Int) < (l.length : Int) := by omega
        have j5 : (i : Int) - 1 = (j : Int) := by omega
        clear hu hv1
        go_wp2_with fail
        have g1 := fun d os => cell_regrown x1 d os
        have g4 := fun d os => cell_regrown x4 d os
        clear x1 x4
        refine wp_region_quiet_below (by kernel_rfl) (by kernel_rfl) ?_
        repeat (with_reducible refine wpQuiet_step (fun K hK => ?_); go_simp; with_reducible refine hK _ ?_; clear hK K)
        refine wpQuiet_nil ?_
        intro _ hw'
        obtain ⟨⟨dq, osq⟩, hw''⟩ := hw'
        subst hw''
        have HB9 := Lib.hid (bC HBW.out (below_regrown wr dq osq))
        clear g1 g4
        generalize grow (redrawn wr dq) osq = w9 at *
        go_wp2
        go_roundw
        case rel => exact ⟨i + 1, by omega, by go_num, HB9.out⟩
        case measure => simp [intOf] <;> omega
    · obtain rfl : i = l.length := by omega
      go_wp2
      go_ret
      exact ⟨rfl, HBW.out⟩
end Go.Proofs.Ytjbeoakikdkdaaa

namespace Go.Proofs.Ytjbeoakikdkdaaa
open Go.RowKit Go.Vat Go.Sort Go.Shelf
attribute [local go_sem] Oper.semAt_some

/-! ## So many loads are enough for the logs that are kept -/
theorem own_ok {y : YardD} (hy : y.Ok) {own : List Nat} (hp : own.Pairwise (· < ·)) (hr : ∀ x ∈ own, x < y.logs.length) : YardD.Ok ⟨y.load, onlyL y own⟩ := only_ok hy hr (only_len hy hp hr)
theorem inc_snoc {l : List Nat} {i : Nat} (h : l.Pairwise (· < ·)) (hl : ∀ x ∈ l, x < i) : (l ++ [i]).Pairwise (· < ·) ∧ ∀ x ∈ l ++ [i], x < i + 1 :=
  ⟨snoc_inc h hl, fun x hx => by
    rcases List.mem_append.1 hx with hx | hx
    · have := hl x hx; omega
    · rw [List.mem_singleton.1 hx]; omega⟩
set_option maxRecDepth 100000 in
set_option maxHeartbeats 16000000 in
theorem SteamKept_any (v : Value) (number bits : Int) (y : YardD) (w : World) (hv : YardAt w v y) (hm : 0 ≤ number ∧ number ≤ 255) :
    Calls Try.prog 13 #[v, .int .u8 number, .int .u16 bits] w fun e w' => e = .returned (.bool true) ∧ Below w.heap.size w w' := by
  obtain ⟨sv, rfl, hp⟩ := hv
  obtain ⟨sa, cap, rfl⟩ := hp.slice
  have hB0 := below1 w (.cells #[.int .i64 y.load, .slice sa y.logs.length cap] 24)
  have B0 := Lib.hid (Blk.new w (.cells #[.int .i64 y.load, .slice sa y.logs.length cap] 24))
  have HB := Lib.hid hB0
  have HV := Lib.hid (show YardAt _ (.agg #[.int .i64 y.load, .slice sa y.logs.length cap]) y from ⟨_, rfl, hp.below hB0⟩)
  clear hp hB0
  by_cases hyd : y.Ok
  case neg =>
    go_enter Try.func13, Try.ntmps13
    go_wp2_with fail
    generalize w.alloc (.cells #[.int .i64 y.load, .slice sa y.logs.length cap] 24) = W0 at *
    refine (fine_no (.agg #[.int .i64 y.load, .slice sa y.logs.length cap]) y _ HV.out hyd).mono ?_
    rintro e v1 ⟨rfl, hb⟩
    replace HV := Lib.hid (HV.out.below hb)
    replace B0 := Lib.hid (B0.out.below hb)
    replace HB := Lib.hid (bC HB.out hb)
    clear hb
    have B0c0 := B0.out.cell 0
    have B0c1 := B0.out.cell 1
    simp at B0c0 B0c1
    go_wp2_with fail
    clear B0c0 B0c1
    refine (Works_any _).mono ?_
    rintro e v2 ⟨rfl, hb⟩
    replace HV := Lib.hid (HV.out.below hb)
    replace B0 := Lib.hid (B0.out.below hb)
    replace HB := Lib.hid (bC HB.out hb)
    clear hb
    go_wp2
    go_ret
    exact ⟨rfl, HB.out⟩
  have HYD := Lib.hid hyd
  have hl10 := hyd.count
  clear hyd
  go_enter Try.func13, Try.ntmps13
  go_wp2_with fail
  generalize w.alloc (.cells #[.int .i64 y.load, .slice sa y.logs.length cap] 24) = W0 at *
  refine (fine_yes (.agg #[.int .i64 y.load, .slice sa y.logs.length cap]) y _ HV.out HYD.out).mono ?_
  rintro e v1 ⟨rfl, hb⟩
  replace HV := Lib.hid (HV.out.below hb)
  replace B0 := Lib.hid (B0.out.below hb)
  replace HB := Lib.hid (bC HB.out hb)
  clear hb
  obtain ⟨loads, hld⟩ : ∃ loads : Int, number % 10 = loads := ⟨_, rfl⟩
  have hl0 : 0 ≤ loads ∧ loads ≤ 9 := by omega
  have q0 : IntKind.i64.wrap number = number := IntWalk.i64_in _ (by omega)
  have q0' : wrap64 number = number := IntWalk.wrap64_in _ (by omega)
  have HLD := Lib.hid hld
  have HK1 := Lib.hid (show okInts 0 10 [loads] = true by simp [okInts]; omega)
  have HK2 := Lib.hid (show okInts 0 10 [loads + 1] = true by simp [okInts]; omega)
  have HMN := Lib.hid (keep_mono HYD.out hl0.1)
  have HFL := Lib.hid (keep_full HYD.out hl0.1)
  have HKU := Lib.hid (keep_U HYD.out hl0.1)
  have HGD := Lib.hid (keep_good y loads)
  have HKL := Lib.hid (keep_le y loads)
  have HKL2 := Lib.hid (keep_le y (loads + 1))
  have HMX := Lib.hid (fun t ht hr hU => keep_max (loads := loads) HYD.out (t := t) ht hr hU)
  obtain ⟨kl, hkl⟩ : ∃ kl, keepL y loads = kl := ⟨_, rfl⟩
  obtain ⟨ll, hll⟩ : ∃ ll, keepL y (loads + 1) = ll := ⟨_, rfl⟩
  rw [hkl] at HMN HFL HKU HGD HKL HMX
  rw [hll] at HMN HKL2
  have H1 := Lib.hid hkl
  have H2 := Lib.hid hll
  clear hkl hll
  clear hld
  have B0c0 := B0.out.cell 0
  have B0c1 := B0.out.cell 1
  simp at B0c0 B0c1
  go_wp2_with fail
  clear B0c0 B0c1
  rw [HLD.out]
  refine (fewest_law (.agg #[.int .i64 y.load, .slice sa y.logs.length cap]) y _ HV.out HYD.out).mono ?_
  rintro e v2 ⟨vh, xs, rfl, hi, hf, hn, hb⟩
  replace HV := Lib.hid (HV.out.below hb)
  replace B0 := Lib.hid (B0.out.below hb)
  replace HB := Lib.hid (bC HB.out hb)
  clear hb
  clear hi hf hn
  obtain ⟨F, hF⟩ : ∃ F, U y 101 = F := ⟨_, rfl⟩
  rw [hF] at HFL ⊢
  clear hF
  have B0c0 := B0.out.cell 0
  have B0c1 := B0.out.cell 1
  simp at B0c0 B0c1
  go_wp2_with fail
  clear B0c0 B0c1
  refine (Keep_yes (.agg #[.int .i64 y.load, .slice sa y.logs.length cap]) loads y _ HV.out HYD.out HK1.out).mono ?_
  rintro e v3 ⟨vk, rfl, hi, hb⟩
  replace HV := Lib.hid (HV.out.below hb)
  replace B0 := Lib.hid (B0.out.below hb)
  replace HB := Lib.hid (bC HB.out hb)
  clear hb
  rw [H1.out] at hi
  obtain ⟨ka, kc, rfl⟩ := hi.slice
  rw [casts_len] at hi ⊢
  have HI := Lib.hid hi
  clear hi
  have u1 : IntKind.i64.wrap (loads + 1) = loads + 1 := IntWalk.i64_in _ (by omega)
  have B0c0 := B0.out.cell 0
  have B0c1 := B0.out.cell 1
  simp at B0c0 B0c1
  go_wp2_with fail
  clear B0c0 B0c1
  refine (Keep_yes (.agg #[.int .i64 y.load, .slice sa y.logs.length cap]) (loads + 1) y _ HV.out HYD.out HK2.out).mono ?_
  rintro e v4 ⟨vl, rfl, hi, hb⟩
  replace HV := Lib.hid (HV.out.below hb)
  replace HI := Lib.hid (HI.out.below hb)
  replace B0 := Lib.hid (B0.out.below hb)
  replace HB := Lib.hid (bC HB.out hb)
  clear hb
  rw [H2.out] at hi
  obtain ⟨la, lc, rfl⟩ := hi.slice
  rw [casts_len]
  clear hi
  have hk10 : kl.length ≤ 10 := by have := HKL.out; omega
  have hl10' : ll.length ≤ 10 := by have := HKL2.out; omega
  have hq1 := HMN.out
  have p1 : decide ((kl.length : Int) > (ll.length : Int)) = false := decide_eq_false (by omega)
  have p2 : decide ((ll.length : Int) < (kl.length : Int)) = false := decide_eq_false (by omega)
  have p3 : decide (ll.length < kl.length) = false := decide_eq_false (by omega)
  clear hq1
  have HFB := Lib.hid (show decide ((kl.length : Int) = (y.logs.length : Int)) = decide (loads ≥ F) from by
    by_cases h : F ≤ loads
    · rw [decide_eq_true h, decide_eq_true (by have := HFL.out.2 h; omega)]
    · rw [decide_eq_false h, decide_eq_false (fun e => h (HFL.out.1 (by omega)))])
  have B0c0 := B0.out.cell 0
  have B0c1 := B0.out.cell 1
  simp at B0c0 B0c1
  go_wp2_with fail
  clear B0c0 B0c1
  refine (isList_yes ka kc kl y.logs.length _ HI.out HGD.out.inc HGD.out.lt (by omega)).mono ?_
  rintro e v5 ⟨rfl, hb⟩
  replace HV := Lib.hid (HV.out.below hb)
  replace HI := Lib.hid (HI.out.below hb)
  replace B0 := Lib.hid (B0.out.below hb)
  replace HB := Lib.hid (bC HB.out hb)
  clear hb
  obtain ⟨bf, hbf⟩ : ∃ b, decide (loads ≥ F) = b := ⟨_, rfl⟩
  rw [hbf] at HFB
  have p4 : decide (F ≤ loads) = bf := hbf
  have p5 := HFB.out
  have p6 : ((kl.length : Int) == (y.logs.length : Int)) = bf := p5
  clear HFB HFL
  have B0c0 := B0.out.cell 0
  have B0c1 := B0.out.cell 1
  simp at B0c0 B0c1
  go_wp2_with fail
  clear B0c0 B0c1
  clear hbf p4 p5 p6 p1 p2 p3
  refine (rPart_any (.agg #[.int .i64 y.load, .slice sa y.logs.length cap]) (.slice ka kl.length kc) kl y _ HV.out HYD.out HI.out HGD.out.lt (by omega)).mono ?_
  rintro e v6 ⟨vp, rfl, hyp, hb⟩
  replace HV := Lib.hid (HV.out.below hb)
  replace HI := Lib.hid (HI.out.below hb)
  replace B0 := Lib.hid (B0.out.below hb)
  replace HB := Lib.hid (bC HB.out hb)
  clear hb
  have HYP := Lib.hid hyp
  clear hyp
  have B0c0 := B0.out.cell 0
  have B0c1 := B0.out.cell 1
  simp at B0c0 B0c1
  go_wp2_with fail
  clear B0c0 B0c1
  refine (fewest_law vp _ _ HYP.out (own_ok HYD.out HGD.out.inc HGD.out.lt)).mono ?_
  rintro e v7 ⟨vh2, xs2, rfl, hi, hf, hn, hb⟩
  replace HV := Lib.hid (HV.out.below hb)
  replace HI := Lib.hid (HI.out.below hb)
  replace HYP := Lib.hid (HYP.out.below hb)
  replace B0 := Lib.hid (B0.out.below hb)
  replace HB := Lib.hid (bC HB.out hb)
  clear hb
  clear hi hf hn HYP
  obtain ⟨M, hM⟩ : ∃ M, U ⟨y.load, onlyL y kl⟩ 101 = M := ⟨_, rfl⟩
  rw [hM] at HKU ⊢
  clear hM
  have hmu := HKU.out
  have B0c0 := B0.out.cell 0
  have B0c1 := B0.out.cell 1
  simp at B0c0 B0c1
  go_wp2_with fail
  go_loopw [17, 18] (fun o s wr => ∃ (i : Nat) (own : List Nat), i ≤ y.logs.length ∧ s = .int .i64 (i : Int) ∧ own.Pairwise (· < ·) ∧ (∀ x ∈ own, x < i) ∧ wr.ownsRow v7.heap.size 3 1 o own.length ((own.map (Nat.cast : Nat → Int)).map (Value.int .i64)) ∧ Below v7.heap.size v7 wr) (fun _ s _ => y.logs.length - (intOf s).toNat)
  case atStart => exact ⟨0, [], Nat.zero_le _, rfl, List.Pairwise.nil, by simp, owns_nil _ _ _ _, Below.refl _ _⟩
  case round =>
    clear B0c0 B0c1
    obtain ⟨i, own, hi, rfl, hpw, hlt, hown, hbw⟩ := hrel
    have HPW := Lib.hid hpw
    have HLT := Lib.hid hlt
    have HOWN := Lib.hid hown
    have HBW := Lib.hid hbw
    obtain ⟨oa, oc, rfl⟩ := owns_slice hown
    have hol := Lib.hid (only_len HYD.out hpw fun x hx => Nat.lt_of_lt_of_le (hlt x hx) hi)
    have c1 := (B0.out.below hbw).cell 1
    simp at c1
    clear hpw hlt hown hbw
    by_cases hit : i < y.logs.length
    · cases hbt : (Go.bits BinOp.and IntKind.u16 (bits / 2 ^ i) 1 == 1)
      · go_wp2_with fail
        go_roundw
        case rel => exact ⟨i + 1, own, by omega, by go_num, HPW.out, fun x hx => by have := HLT.out x hx; omega, HOWN.out, HBW.out⟩
        case measure => simp [intOf] <;> omega
      · have HSN := Lib.hid (inc_snoc HPW.out HLT.out)
        have HCS := Lib.hid (casts_snoc own i)
        have hA := below1 wr (.cells #[.int .i64 (i : Int)] 3)
        have own2 := owns_below HOWN.out hA
        have bN := Blk.new wr (.cells #[.int .i64 (i : Int)] 3)
        have bel2 := bC HBW.out hA
        have hz8 := HBW.out.size
        have hol8 := hol.out
        clear hA
        go_wp2_with (at_builtin; refine wp_appI rfl (.tmp 105) (.tmp 107) rfl _ _ _ _ rfl own2 _ _ _ rfl bN (by omega) bel2 (by rw [World.size_alloc]; omega) ?_; intro a2 c2 w3 own3 bel3 gr3)
        go_roundw
        case rel => exact ⟨i + 1, own ++ [i], by omega, by go_num, HSN.out.1, HSN.out.2, by rw [HCS.out, List.length_append]; exact own3, bel3⟩
        case measure => simp [intOf] <;> omega
    · obtain rfl : i = y.logs.length := by omega
      replace HV := Lib.hid (HV.out.below HBW.out)
      replace B0 := Lib.hid (B0.out.below HBW.out)
      replace HB := Lib.hid (bC HB.out HBW.out)
      have HO := Lib.hid (show IntsAt wr (.slice oa own.length oc) (own.map (Nat.cast : Nat → Int)) from by
        have h := Row.of_owns HOWN.out
        rw [← casts_len own] at h ⊢
        exact h.ints)
      have HMO := Lib.hid (HMX.out own HPW.out HLT.out)
      have HOK := Lib.hid (own_ok HYD.out HPW.out HLT.out)
      clear HOWN c1 HBW
      generalize wr = v20 at *
      have B0c0 := B0.out.cell 0
      have B0c1 := B0.out.cell 1
      simp at B0c0 B0c1
      go_wp2_with fail
      clear B0c0 B0c1
      refine (rPart_any (.agg #[.int .i64 y.load, .slice sa y.logs.length cap]) (.slice oa own.length oc) own y _ HV.out HYD.out HO.out HLT.out (by have := hol.out; omega)).mono ?_
      rintro e v21 ⟨vq, rfl, hyp, hb⟩
      replace HV := Lib.hid (HV.out.below hb)
      replace HO := Lib.hid (HO.out.below hb)
      replace B0 := Lib.hid (B0.out.below hb)
      replace HB := Lib.hid (bC HB.out hb)
      clear hb
      have HYQ := Lib.hid hyp
      clear hyp
      have B0c0 := B0.out.cell 0
      have B0c1 := B0.out.cell 1
      simp at B0c0 B0c1
      go_wp2_with fail
      clear B0c0 B0c1
      refine (fewest_law vq _ _ HYQ.out HOK.out).mono ?_
      rintro e v22 ⟨vh3, xs3, rfl, hi3, hf3, hn3, hb⟩
      replace HV := Lib.hid (HV.out.below hb)
      replace HO := Lib.hid (HO.out.below hb)
      replace HYQ := Lib.hid (HYQ.out.below hb)
      replace B0 := Lib.hid (B0.out.below hb)
      replace HB := Lib.hid (bC HB.out hb)
      clear hb
      clear hi3 hf3 hn3 HYQ HOK
      obtain ⟨O, hO⟩ : ∃ O, U ⟨y.load, onlyL y own⟩ 101 = O := ⟨_, rfl⟩
      rw [hO] at HMO ⊢
      clear hO
      have q2 : decide (M ≤ loads) = true := decide_eq_true hmu
      have hol9 := hol.out
      by_cases ho : O ≤ loads
      · have q3 : decide (O > loads) = false := decide_eq_false (by omega)
        have q4 : decide (loads < O) = false := decide_eq_false (by omega)
        have hle := HMO.out ho
        have q5 : decide ((own.length : Int) ≤ (kl.length : Int)) = true := decide_eq_true (by omega)
        have q6 : decide (own.length ≤ kl.length) = true := decide_eq_true hle
        clear ho hle
        have B0c0 := B0.out.cell 0
        have B0c1 := B0.out.cell 1
        simp at B0c0 B0c1
        go_wp2_with fail
        clear B0c0 B0c1
        refine (Works_any _).mono ?_
        rintro e v23 ⟨rfl, hb⟩
        replace HV := Lib.hid (HV.out.below hb)
        replace B0 := Lib.hid (B0.out.below hb)
        replace HB := Lib.hid (bC HB.out hb)
        clear hb
        go_wp2
        go_ret
        exact ⟨rfl, HB.out⟩
      · have q3 : decide (O > loads) = true := decide_eq_true (by omega)
        have q4 : decide (loads < O) = true := decide_eq_true (by omega)
        have hun : undef = Value.tuple #[] := rfl
        clear ho
        have B0c0 := B0.out.cell 0
        have B0c1 := B0.out.cell 1
        simp at B0c0 B0c1
        go_wp2_with fail
        clear B0c0 B0c1
        clear hun
        refine (Works_any _).mono ?_
        rintro e v23 ⟨rfl, hb⟩
        replace HV := Lib.hid (HV.out.below hb)
        replace B0 := Lib.hid (B0.out.below hb)
        replace HB := Lib.hid (bC HB.out hb)
        clear hb
        go_wp2
        go_ret
        exact ⟨rfl, HB.out⟩
end Go.Proofs.Ytjbeoakikdkdaaa
