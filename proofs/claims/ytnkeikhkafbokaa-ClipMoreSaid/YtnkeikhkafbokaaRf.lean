import Derived.Test.YtnkeikhkafbokaaRe
namespace Go.Proofs.Ytnkeikhkafbokaa
open Go.RowKit Go.Dag Go.Sort Go.Shelf
attribute [local go_sem] Oper.semAt_some

set_option maxRecDepth 100000 in
set_option maxHeartbeats 8000000 in
theorem Prices_cap (v kv : Value) (r : RibD) (ks : List KindD) (w : World) (hv : RibAt w v r) (hk : KindsAt w kv ks) (hr : RibOk r) (hks : KindsOk ks) :
    Calls Try.prog 33 #[v, kv] w fun e w' => ∃ v, e = .returned (.tuple #[v, .int .i64 0]) ∧ IntsAt w' v (pricesL (tabOf r ks)) ∧ CapOk v ∧ Below w.heap.size w w' := by
  obtain ⟨sv, rfl, hi⟩ := hv
  obtain ⟨sa, cap, rfl⟩ := hi.slice
  obtain ⟨ka, kcap, rfl⟩ := hk.slice
  have hB0 := below1 w (.cells #[.int .i64 r.len, .slice sa r.fs.length cap] 24)
  have b0 := Blk.new w (.cells #[.int .i64 r.len, .slice sa r.fs.length cap] 24)
  have HI := Lib.hid (hi.below hB0)
  have HK := Lib.hid (hk.below hB0)
  clear hi hk
  go_enter Try.func33, Try.ntmps33
  go_wp2_with fail
  generalize w.alloc (.cells #[.int .i64 r.len, .slice sa r.fs.length cap] 24) = W0 at *
  have HRK := Lib.hid (And.intro hr hks)
  have hfc := hr.count
  have hl1 := hr.l1
  have hl2 := hr.l2
  have hk6 := hks.1
  have hokt := tabOf_ok (r := r) (ks := ks) (by omega) hks
  have HOK := Lib.hid hokt
  refine (lay_ok _ _ r ks _ ⟨_, rfl, HI.out⟩ HK.out hr hks).mono ?_
  rintro e w1 ⟨T, M, rfl, hla, hT, hM, hb1⟩
  have HB1 := Lib.hid (bC hB0 hb1)
  have HL1 := Lib.hid hla
  replace b0 := b0.below hb1
  clear hb1 hB0 hr hks hla HI HK hokt
  obtain ⟨L, hL⟩ : ∃ L : Nat, r.len = (L : Int) := ⟨r.len.toNat, by omega⟩
  have hL24 : L ≤ 24 := by omega
  have t0 := HL1.out.1.len
  rw [hL] at t0
  have hmk : ∀ w, _ := fun w => make64 L w (by omega)
  have HLT := Lib.hid (show r.len.toNat = L by omega)
  have HTL := Lib.hid (show (tabOf r ks).L = L by simp only [tabOf]; omega)
  have HUB := Lib.hid (fun q (hq : q ≤ L) => up_le24 HRK.out.1 HRK.out.2 (q := q) (by omega))
  have HUP := Lib.hid (fun q (hq : q ≤ L) => HL1.out.up (q := q) (by omega) hl2)
  have hTl := HL1.out.1.lt.1
  have HB2 := Lib.hid (bC HB1.out (below1 w1 (.cells (madeCells #[.int .i64 0] L) 2)))
  have hz := ArrAt.zeros w1 L 2
  have HA := Lib.hid (hz.same (f' := fun u => if u < 0 then priceV (tabOf r ks) u else 0) fun i _ => by rw [if_neg (Nat.not_lt_zero _)])
  have hw1 := HB1.out.size
  clear hL hz HL1 b0 HB1
  go_wp2_with fail
  clear hmk t0
  go_loopw [27] (fun s wr => ∃ k : Nat, k ≤ L ∧ s = .int .i64 k ∧ ArrAt wr w1.heap.size L 2 (fun u => if u < k then priceV (tabOf r ks) u else 0) ∧ (∀ q, q ≤ L → wr.cell? ⟨T, 4 + q, none⟩ = some (.int .i64 (up (tabOf r ks) q))) ∧ Below w.heap.size w wr ∧ w1.heap.size < wr.heap.size) (fun s _ => L - (intOf s).toNat)
  case atStart => exact ⟨0, Nat.zero_le _, rfl, HA.out, fun q hq => cellB (HUP.out q hq) (below1 _ _), HB2.out, by simp⟩
  case round =>
    rename_i wr
    clear HA HUP HB2
    obtain ⟨k, hk, rfl, hA, hU, hB, hz⟩ := hrel
    have HA := Lib.hid hA
    have HU := Lib.hid hU
    have HB := Lib.hid hB
    clear hA hU hB
    by_cases hlt : k < L
    · have e1 := HU.out k (by omega)
      have e2 := HU.out (k + 1) (by omega)
      obtain ⟨b1, b1'⟩ := HUB.out k (by omega)
      obtain ⟨b2, b2'⟩ := HUB.out (k + 1) (by omega)
      obtain ⟨u1, hu1⟩ : ∃ u1, up (tabOf r ks) k = u1 := ⟨_, rfl⟩
      obtain ⟨u2, hu2⟩ : ∃ u2, up (tabOf r ks) (k + 1) = u2 := ⟨_, rfl⟩
      rw [hu1] at e1 b1 b1'
      rw [hu2] at e2 b2 b2'
      have HPV := Lib.hid (show priceV (tabOf r ks) k = u2 - u1 by unfold priceV; rw [hu1, hu2])
      have ww1 : IntKind.i64.wrap ((k : Int) + 1) = (k : Int) + 1 := IntWalk.i64_in _ (by omega)
      have ww2 : IntKind.i64.wrap (u2 - u1) = u2 - u1 := IntWalk.i64_in _ (by omega)
      have ip0 : (0 : Int) ≤ (k : Int) + 1 := by omega
      have ip1 : ((k : Int) + 1).toNat = k + 1 := by omega
      have ip2 : (k : Int) + 1 < 25 := by omega
      have ip3 : (k : Int) < 25 := by omega
      have ip4 : (k : Int) < (L : Int) := by omega
      have g1 := fun d os => cell_regrown e1 d os
      have g2 := fun d os => cell_regrown e2 d os
      clear hu1 hu2 b1 b1' b2 b2' e1 e2
      go_wp2_with fail
      refine (wp_region_tail 17 (by kernel_rfl) (by kernel_rfl) ?_)
      repeat (quiet_step (fail))
      refine wpQuiet_nil ?_
      intro _ hw'
      obtain ⟨⟨dq, osq⟩, hw''⟩ := hw'
      subst hw''
      simp only [List.drop_succ_cons, List.drop_zero]
      have hbq := below_regrown wr dq osq
      have HB3 := Lib.hid (bC HB.out hbq)
      have HA3 := Lib.hid (HA.out.below hbq)
      have HU3 := Lib.hid (fun q hq => cellB (HU.out q hq) hbq)
      have hz3 := hbq.size
      clear g1 g2 hbq ww1 HA HU HB
      generalize grow (redrawn wr dq) osq = w3 at *
      have xa := HA3.out.cell hlt
      have xf := HA3.out.frozen k
      have xl := HA3.out.lt
      go_wp2
      have HAs := Lib.hid ((HA3.out.set k (u2 - u1)).same (f' := fun u => if u < k + 1 then priceV (tabOf r ks) u else 0) fun i hi => by
        unfold updF
        dsimp only
        by_cases e : i = k
        · subst e; rw [if_pos (by omega), if_pos rfl, HPV.out]
        · rw [if_neg e]
          by_cases c : i < k
          · rw [if_pos (by omega), if_pos c]
          · rw [if_neg (by omega), if_neg c])
      have HUs := Lib.hid (fun q hq => cell_other (b' := w1.heap.size) (o' := k) (u := .int .i64 (u2 - u1)) (HU3.out q hq) (by omega))
      have HBs := Lib.hid (HB3.out.setCell (p := ⟨w1.heap.size, k, none⟩) (by simp; omega) (.int .i64 (u2 - u1)))
      rename_i wr8
      go_roundw
      case rel => exact ⟨k + 1, by omega, by go_num, HAs.out, HUs.out, HBs.out, by simp [World.setCell]; omega⟩
      case measure => simp [intOf]; omega
    · obtain rfl : k = L := by omega
      have hi := HA.out.ints k
      have e : (List.range k).map (fun u => if u < k then priceV (tabOf r ks) u else 0) = pricesL (tabOf r ks) := by
        unfold pricesL
        rw [HTL.out]
        exact List.map_congr_left fun u hu => if_pos (List.mem_range.1 hu)
      rw [e] at hi
      have HI := Lib.hid hi
      clear hi e
      go_wp2
      go_ret2
      exact ⟨_, rfl, HI.out, fun a n c e => by cases e; exact Nat.le_refl _, HB.out⟩

/-- What given cuts are. -/
theorem given_facts {r : RibD} {ks : List KindD} (hr : RibOk r) (hks : KindsOk ks) (l : List Int) :
    cutsErr r ks (intPs (givenF (tabOf r ks) l 0)) = 0 ∧ cutsV r ks (intPs (givenF (tabOf r ks) l 0)) = wth (tabOf r ks) (givenF (tabOf r ks) l 0) ∧ wth (tabOf r ks) (givenF (tabOf r ks) l 0) ≤ dn (tabOf r ks) 0 ∧ (intPs (givenF (tabOf r ks) l 0)).length ≤ 1000 ∧ IsCuts (tabOf r ks) 0 (givenF (tabOf r ks) l 0) := by
  have h0 : (0 : Int) ≤ r.len := by have := hr.l1; omega
  have ht := tabOf_ok (r := r) (ks := ks) h0 hks
  have hc := given_cuts (t := tabOf r ks) (by have := hks.1.1; simp only [tabOf]; omega) l 0
  have hl := cuts_len ht (Nat.zero_le _) hc
  have hL : (tabOf r ks).L ≤ 24 := by have := hr.l2; simp only [tabOf]; omega
  exact ⟨(cuts_of hr hks hc).1, (cuts_of hr hks hc).2, hc.le ht, by simp only [intPs, List.length_map]; omega, hc⟩
set_option maxRecDepth 100000 in
set_option maxHeartbeats 16000000 in
theorem ClipProved_any (v kv : Value) (bv cv : Value) (l pl : List Int) (r : RibD) (ks : List KindD) (w : World) (hv : RibAt w v r) (hk : KindsAt w kv ks) (hbv : U8At w bv l) (hl8 : ∀ x ∈ l, 0 ≤ x ∧ x ≤ 255) (hcv : IntsAt w cv pl) (hcap : CapOk cv) :
    Calls Try.prog 7 #[v, kv, bv, cv] w fun e w' => e = .returned (.bool true) ∧ Below w.heap.size w w' := by
  obtain ⟨sv, rfl, hi⟩ := hv
  obtain ⟨sa, cap, rfl⟩ := hi.slice
  obtain ⟨ka, kcap, rfl⟩ := hk.slice
  obtain ⟨ba, bcap, rfl⟩ := hbv.slice
  obtain ⟨ca, cc, rfl⟩ := hcv.slice
  have hB0 := below1 w (.cells #[.int .i64 r.len, .slice sa r.fs.length cap] 24)
  have HB := Lib.hid hB0
  have B0 := Lib.hid (Blk.new w (.cells #[.int .i64 r.len, .slice sa r.fs.length cap] 24))
  have HV := Lib.hid (show RibAt _ (.agg #[.int .i64 r.len, .slice sa r.fs.length cap]) r from ⟨_, rfl, hi.below hB0⟩)
  have HK := Lib.hid (hk.below hB0)
  have HBV := Lib.hid (hbv.below hB0)
  have HL8 := Lib.hid hl8
  have HC := Lib.hid (hcv.below hB0)
  have HCAP := Lib.hid hcap
  clear hi hk hB0 hbv hl8 hcv hcap
  by_cases hok : RibOk r ∧ KindsOk ks
  case neg =>
    have HN := Lib.hid hok
    clear hok
    go_enter Try.func7, Try.ntmps7
    go_wp2_with fail
    generalize w.alloc (.cells #[.int .i64 r.len, .slice sa r.fs.length cap] 24) = W0 at *
    refine (fine_no (.agg #[.int .i64 r.len, .slice sa r.fs.length cap]) (.slice ka ks.length kcap) r ks _ HV.out HK.out HN.out).mono ?_
    rintro e v1 ⟨rfl, hb⟩
    replace HV := Lib.hid (HV.out.below hb)
    replace HK := Lib.hid (HK.out.below hb)
    replace HBV := Lib.hid (HBV.out.below hb)
    replace HC := Lib.hid (HC.out.below hb)
    replace B0 := Lib.hid (B0.out.below hb)
    replace HB := Lib.hid (bC HB.out hb)
    clear hb
    have B0c0 := B0.out.cell 0
    have B0c1 := B0.out.cell 1
    simp at B0c0 B0c1
    go_wp2_with fail
    clear B0c0 B0c1
    refine (Works_any _).mono ?_
    rintro e v2 ⟨rfl, hb⟩
    replace HV := Lib.hid (HV.out.below hb)
    replace HK := Lib.hid (HK.out.below hb)
    replace HBV := Lib.hid (HBV.out.below hb)
    replace HC := Lib.hid (HC.out.below hb)
    replace B0 := Lib.hid (B0.out.below hb)
    replace HB := Lib.hid (bC HB.out hb)
    clear hb
    go_wp2
    go_ret
    exact ⟨rfl, HB.out⟩
  have HR := Lib.hid hok
  have hfc := hok.1.count
  have hk6 := hok.2.1.2
  clear hok
  by_cases q1 : 60 < l.length
  · have d1 : decide ((l.length : Int) > 60) = true := by simp; omega
    have d2 : decide ((60 : Int) < (l.length : Int)) = true := by simp; omega
    clear q1
    go_enter Try.func7, Try.ntmps7
    go_wp2_with fail
    generalize w.alloc (.cells #[.int .i64 r.len, .slice sa r.fs.length cap] 24) = W0 at *
    refine (fine_yes (.agg #[.int .i64 r.len, .slice sa r.fs.length cap]) (.slice ka ks.length kcap) r ks _ HV.out HK.out HR.out.1 HR.out.2).mono ?_
    rintro e v1 ⟨rfl, hb⟩
    replace HV := Lib.hid (HV.out.below hb)
    replace HK := Lib.hid (HK.out.below hb)
    replace HBV := Lib.hid (HBV.out.below hb)
    replace HC := Lib.hid (HC.out.below hb)
    replace B0 := Lib.hid (B0.out.below hb)
    replace HB := Lib.hid (bC HB.out hb)
    clear hb
    have B0c0 := B0.out.cell 0
    have B0c1 := B0.out.cell 1
    simp at B0c0 B0c1
    go_wp2_with fail
    clear B0c0 B0c1
    refine (Works_any _).mono ?_
    rintro e v2 ⟨rfl, hb⟩
    replace HV := Lib.hid (HV.out.below hb)
    replace HK := Lib.hid (HK.out.below hb)
    replace HBV := Lib.hid (HBV.out.below hb)
    replace HC := Lib.hid (HC.out.below hb)
    replace B0 := Lib.hid (B0.out.below hb)
    replace HB := Lib.hid (bC HB.out hb)
    clear hb
    go_wp2
    go_ret
    exact ⟨rfl, HB.out⟩
  have d1 : decide ((l.length : Int) > 60) = false := by simp; omega
  have d2 : decide ((60 : Int) < (l.length : Int)) = false := by simp; omega
  by_cases q2 : 40 < pl.length
  · have p1 : decide ((pl.length : Int) > 40) = true := by simp; omega
    have p2 : decide ((40 : Int) < (pl.length : Int)) = true := by simp; omega
    clear q1 q2
    go_enter Try.func7, Try.ntmps7
    go_wp2_with fail
    generalize w.alloc (.cells #[.int .i64 r.len, .slice sa r.fs.length cap] 24) = W0 at *
    refine (fine_yes (.agg #[.int .i64 r.len, .slice sa r.fs.length cap]) (.slice ka ks.length kcap) r ks _ HV.out HK.out HR.out.1 HR.out.2).mono ?_
    rintro e v1 ⟨rfl, hb⟩
    replace HV := Lib.hid (HV.out.below hb)
    replace HK := Lib.hid (HK.out.below hb)
    replace HBV := Lib.hid (HBV.out.below hb)
    replace HC := Lib.hid (HC.out.below hb)
    replace B0 := Lib.hid (B0.out.below hb)
    replace HB := Lib.hid (bC HB.out hb)
    clear hb
    have B0c0 := B0.out.cell 0
    have B0c1 := B0.out.cell 1
    simp at B0c0 B0c1
    go_wp2_with fail
    clear B0c0 B0c1
    refine (Works_any _).mono ?_
    rintro e v2 ⟨rfl, hb⟩
    replace HV := Lib.hid (HV.out.below hb)
    replace HK := Lib.hid (HK.out.below hb)
    replace HBV := Lib.hid (HBV.out.below hb)
    replace HC := Lib.hid (HC.out.below hb)
    replace B0 := Lib.hid (B0.out.below hb)
    replace HB := Lib.hid (bC HB.out hb)
    clear hb
    go_wp2
    go_ret
    exact ⟨rfl, HB.out⟩
  have p1 : decide ((pl.length : Int) > 40) = false := by simp; omega
  have p2 : decide ((40 : Int) < (pl.length : Int)) = false := by simp; omega
  obtain ⟨G1, G2, G3, G4, G5⟩ := given_facts HR.out.1 HR.out.2 l
  obtain ⟨gl, hgl⟩ : ∃ gl, intPs (givenF (tabOf r ks) l 0) = gl := ⟨_, rfl⟩
  obtain ⟨A, hA⟩ : ∃ A, wth (tabOf r ks) (givenF (tabOf r ks) l 0) = A := ⟨_, rfl⟩
  obtain ⟨D, hD⟩ : ∃ D, dn (tabOf r ks) 0 = D := ⟨_, rfl⟩
  obtain ⟨P, hP⟩ : ∃ P, pricesV r ks pl = P := ⟨_, rfl⟩
  obtain ⟨E, hE⟩ : ∃ E, pricesErr r ks pl = E := ⟨_, rfl⟩
  have hPD : E = 0 → D ≤ P := by rw [← hE, ← hD, ← hP]; exact prices_prove
  have hPG := prices_good HR.out.1 HR.out.2
  have hpll : (pricesL (tabOf r ks)).length ≤ 24 := by
    have h2 := HR.out.1.l2
    simp only [pricesL, List.length_map, List.length_range, tabOf]
    omega
  rw [hA] at G2 G3
  rw [hgl] at G1 G2 G4
  rw [hD] at G3 hPG
  have HGL := Lib.hid hgl
  have HD := Lib.hid hD
  have HPV := Lib.hid hP
  have HPE := Lib.hid hE
  have HG1 := Lib.hid G1
  have HG2 := Lib.hid G2
  have HPG := Lib.hid hPG
  have a1 : decide (A > D) = false := by simp; omega
  have a2 : decide (D < A) = false := by simp; omega
  have hl60 : l.length ≤ 60 := by omega
  have hp40 : pl.length ≤ 40 := by omega
  clear hgl hA hD hP hE G1 G2 G5 hPG q1 q2
  by_cases he : E = 0
  · subst he
    have hDP := hPD rfl
    have b1 : decide (P ≥ D) = true := by simp; omega
    have b2 : decide (D ≤ P) = true := by simp; omega
    have b3 : decide (P ≥ A) = true := by simp; omega
    have b4 : decide (A ≤ P) = true := by simp; omega
    clear hPD
    go_enter Try.func7, Try.ntmps7
    go_wp2_with fail
    generalize w.alloc (.cells #[.int .i64 r.len, .slice sa r.fs.length cap] 24) = W0 at *
    refine (fine_yes (.agg #[.int .i64 r.len, .slice sa r.fs.length cap]) (.slice ka ks.length kcap) r ks _ HV.out HK.out HR.out.1 HR.out.2).mono ?_
    rintro e v1 ⟨rfl, hb⟩
    replace HV := Lib.hid (HV.out.below hb)
    replace HK := Lib.hid (HK.out.below hb)
    replace HBV := Lib.hid (HBV.out.below hb)
    replace HC := Lib.hid (HC.out.below hb)
    replace B0 := Lib.hid (B0.out.below hb)
    replace HB := Lib.hid (bC HB.out hb)
    clear hb
    have B0c0 := B0.out.cell 0
    have B0c1 := B0.out.cell 1
    simp at B0c0 B0c1
    go_wp2_with fail
    clear B0c0 B0c1
    refine (best_any (.agg #[.int .i64 r.len, .slice sa r.fs.length cap]) (.slice ka ks.length kcap) r ks _ HV.out HK.out HR.out.1 HR.out.2).mono ?_
    rintro e v2 ⟨vb, rfl, hp, hb⟩
    replace HV := Lib.hid (HV.out.below hb)
    replace HK := Lib.hid (HK.out.below hb)
    replace HBV := Lib.hid (HBV.out.below hb)
    replace HC := Lib.hid (HC.out.below hb)
    replace B0 := Lib.hid (B0.out.below hb)
    replace HB := Lib.hid (bC HB.out hb)
    clear hb
    have HY := Lib.hid hp
    clear hp
    obtain ⟨ya, yc, rfl⟩ := HY.out.slice
    rw [HD.out]
    have B0c0 := B0.out.cell 0
    have B0c1 := B0.out.cell 1
    simp at B0c0 B0c1
    go_wp2_with fail
    clear B0c0 B0c1
    have c0 := B0.out.cell 0
    have c1 := B0.out.cell 1
    simp at c0 c1
    refine (wp_region_T 11 (fun W' => W'.cell? ⟨w.heap.size, 0, none⟩ = some (.int .i64 r.len) ∧ W'.cell? ⟨w.heap.size, 1, none⟩ = some (.slice sa r.fs.length cap)) (by kernel_rfl) (by kernel_rfl) ⟨c0, c1⟩ ?_)
    intro inv hS
    clear c0 c1
    have hb : Below v2.heap.size v2 v2.drew := (Below.refl _ _).drew
    generalize v2.drew = d0 at *
    replace HV := Lib.hid (HV.out.below hb)
    replace HK := Lib.hid (HK.out.below hb)
    replace HBV := Lib.hid (HBV.out.below hb)
    replace HC := Lib.hid (HC.out.below hb)
    replace HY := Lib.hid (HY.out.below hb)
    replace B0 := Lib.hid (B0.out.below hb)
    replace HB := Lib.hid (bC HB.out hb)
    clear hb
    refine wpAnyT_take inv (by kernel_rfl) (by omega) (i := 0) (v := .agg #[.int .i64 r.len, .slice sa r.fs.length cap]) rfl (by kernel_rfl) (by kernel_rfl) (fun _ _ _ h => h) (Or.inl ⟨by kernel_rfl, ?_⟩) (by assumption) ?_
    · rintro W' ⟨q0, q1⟩
      go_simp
    intro inv2
    clear inv
    have inv := inv2
    clear inv2
    simp only [Act.put, List.setIfInBounds_toArray]
    refine wpAnyT_take inv (by kernel_rfl) (by omega) (i := 1) (v := .slice ka ks.length kcap) rfl (by kernel_rfl) (by kernel_rfl) (fun _ _ _ h => h) (Or.inl ⟨by kernel_rfl, ?_⟩) (by assumption) ?_
    · rintro W' ⟨q0, q1⟩
      go_simp
    intro inv2
    clear inv
    have inv := inv2
    clear inv2
    simp only [Act.put]
    refine wpAnyT_take inv (by kernel_rfl) (by omega) (i := 2) (v := .agg #[.int .i64 r.len, .slice sa r.fs.length cap]) rfl (by kernel_rfl) (by kernel_rfl) (fun _ _ _ h => h) (Or.inl ⟨by kernel_rfl, ?_⟩) (by assumption) ?_
    · rintro W' ⟨q0, q1⟩
      go_simp
    intro inv2
    clear inv
    have inv := inv2
    clear inv2
    simp only [Act.put]
    refine wpAnyT_take inv (by kernel_rfl) (by omega) (i := 3) (v := .slice ka ks.length kcap) rfl (by kernel_rfl) (by kernel_rfl) (fun _ _ _ h => h) (Or.inl ⟨by kernel_rfl, ?_⟩) (by assumption) ?_
    · rintro W' ⟨q0, q1⟩
      go_simp
    intro inv2
    clear inv
    have inv := inv2
    clear inv2
    simp only [Act.put]
    refine wpAnyT_take inv (by kernel_rfl) (by omega) (i := 4) (v := .slice ba l.length bcap) rfl (by kernel_rfl) (by kernel_rfl) (fun _ _ _ h => h) (Or.inl ⟨by kernel_rfl, ?_⟩) (by assumption) ?_
    · rintro W' ⟨q0, q1⟩
      go_simp
    intro inv2
    clear inv
    have inv := inv2
    clear inv2
    simp only [Act.put]
    refine wpAnyT_ready [5] (by kernel_rfl) (by simp) ?_
    refine AllReadyT.cons rfl (fun K hK => ?_) AllReadyT.nil
    go_simp
    refine (Given_any (.agg #[.int .i64 r.len, .slice sa r.fs.length cap]) (.slice ka ks.length kcap) (.slice ba l.length bcap) r ks l _ HV.out HK.out HBV.out HL8.out hl60 HR.out.1 HR.out.2).mono ?_
    rintro e v3 ⟨vg, rfl, hp, hb⟩
    rw [HGL.out] at hp
    obtain ⟨ga, gc, rfl⟩ := hp.slice
    refine hK.out _ _ (fun _ => ⟨cellB hS.1 hb, cellB hS.2 hb⟩) (fun _ => ?_)
    replace inv := HeadM.step inv 5 (by kernel_rfl) (by omega)
    clear hK K
    try simp only [Act.put]
    replace hS := And.intro (cellB hS.1 hb) (cellB hS.2 hb)
    replace HV := Lib.hid (HV.out.below hb)
    replace HK := Lib.hid (HK.out.below hb)
    replace HBV := Lib.hid (HBV.out.below hb)
    replace HC := Lib.hid (HC.out.below hb)
    replace HY := Lib.hid (HY.out.below hb)
    replace B0 := Lib.hid (B0.out.below hb)
    replace HB := Lib.hid (bC HB.out hb)
    clear hb
    have HGV := Lib.hid hp
    clear hp
    refine wpAnyT_ready [6] (by kernel_rfl) (by simp) ?_
    refine AllReadyT.cons rfl (fun K hK => ?_) AllReadyT.nil
    go_simp
    refine (CheckCuts_ok (.agg #[.int .i64 r.len, .slice sa r.fs.length cap]) (.slice ka ks.length kcap) r ks _ gl _ HV.out HK.out HGV.out G4 HR.out.1 HR.out.2).mono ?_
    rintro e v4 ⟨rfl, hb⟩
    rw [HG1.out, HG2.out]
    refine hK.out _ _ (fun _ => ⟨cellB hS.1 hb, cellB hS.2 hb⟩) (fun _ => ?_)
    replace inv := HeadM.step inv 6 (by kernel_rfl) (by omega)
    clear hK K
    try simp only [Act.put]
    replace hS := And.intro (cellB hS.1 hb) (cellB hS.2 hb)
    replace HV := Lib.hid (HV.out.below hb)
    replace HK := Lib.hid (HK.out.below hb)
    replace HBV := Lib.hid (HBV.out.below hb)
    replace HC := Lib.hid (HC.out.below hb)
    replace HY := Lib.hid (HY.out.below hb)
    replace HGV := Lib.hid (HGV.out.below hb)
    replace B0 := Lib.hid (B0.out.below hb)
    replace HB := Lib.hid (bC HB.out hb)
    clear hb
    refine wpAnyT_take inv (by kernel_rfl) (by omega) (i := 7) (v := .tuple #[.int .i64 A, .int .i64 0]) rfl (by kernel_rfl) (by kernel_rfl) (fun _ _ _ h => h) (Or.inl ⟨by kernel_rfl, ?_⟩) (by assumption) ?_
    · rintro W' ⟨q0, q1⟩
      go_simp
    intro inv2
    clear inv
    have inv := inv2
    clear inv2
    simp only [Act.put]
    refine wpAnyT_take inv (by kernel_rfl) (by omega) (i := 8) (v := .int .i64 A) rfl (by kernel_rfl) (by kernel_rfl) (fun _ _ _ h => h) (Or.inl ⟨by kernel_rfl, ?_⟩) (by assumption) ?_
    · rintro W' ⟨q0, q1⟩
      go_simp
    intro inv2
    clear inv
    have inv := inv2
    clear inv2
    simp only [Act.put]
    refine wpAnyT_take inv (by kernel_rfl) (by omega) (i := 9) (v := .int .i64 0) rfl (by kernel_rfl) (by kernel_rfl) (fun _ _ _ h => h) (Or.inl ⟨by kernel_rfl, ?_⟩) (by assumption) ?_
    · rintro W' ⟨q0, q1⟩
      go_simp
    intro inv2
    clear inv
    have inv := inv2
    clear inv2
    simp only [Act.put]
    refine wpAnyT_take inv (by kernel_rfl) (by omega) (i := 10) (v := .int .i64 A) rfl (by kernel_rfl) (by kernel_rfl) (fun _ _ _ h => h) (Or.inl ⟨by kernel_rfl, ?_⟩) (by assumption) ?_
    · rintro W' ⟨q0, q1⟩
      go_simp
    intro inv2
    clear inv
    have inv := inv2
    clear inv2
    simp only [Act.put]
    refine wpAnyT_chain (fuel := 1) rfl (by kernel_rfl) ?_
    simp only [List.drop_succ_cons, List.drop_zero]
    clear inv hS
    have B0c0 := B0.out.cell 0
    have B0c1 := B0.out.cell 1
    simp at B0c0 B0c1
    go_wp2_with fail
    clear B0c0 B0c1
    refine (Prices_cap (.agg #[.int .i64 r.len, .slice sa r.fs.length cap]) (.slice ka ks.length kcap) r ks _ HV.out HK.out HR.out.1 HR.out.2).mono ?_
    rintro e v5 ⟨vp, rfl, hp, hcp, hb⟩
    replace HV := Lib.hid (HV.out.below hb)
    replace HK := Lib.hid (HK.out.below hb)
    replace HBV := Lib.hid (HBV.out.below hb)
    replace HC := Lib.hid (HC.out.below hb)
    replace HY := Lib.hid (HY.out.below hb)
    replace HGV := Lib.hid (HGV.out.below hb)
    replace B0 := Lib.hid (B0.out.below hb)
    replace HB := Lib.hid (bC HB.out hb)
    clear hb
    obtain ⟨pa, pc, rfl⟩ := hp.slice
    have HPP := Lib.hid hp
    have HCP := Lib.hid hcp
    clear hp hcp
    have B0c0 := B0.out.cell 0
    have B0c1 := B0.out.cell 1
    simp at B0c0 B0c1
    go_wp2_with fail
    clear B0c0 B0c1
    refine (CheckPrices_ok (.agg #[.int .i64 r.len, .slice sa r.fs.length cap]) (.slice ka ks.length kcap) r ks _ (pricesL (tabOf r ks)) _ HV.out HK.out HPP.out HCP.out (by omega) HR.out.1 HR.out.2).mono ?_
    rintro e v6 ⟨rfl, hb⟩
    replace HV := Lib.hid (HV.out.below hb)
    replace HK := Lib.hid (HK.out.below hb)
    replace HBV := Lib.hid (HBV.out.below hb)
    replace HC := Lib.hid (HC.out.below hb)
    replace HY := Lib.hid (HY.out.below hb)
    replace HGV := Lib.hid (HGV.out.below hb)
    replace HPP := Lib.hid (HPP.out.below hb)
    replace B0 := Lib.hid (B0.out.below hb)
    replace HB := Lib.hid (bC HB.out hb)
    clear hb
    rw [HPG.out.1, HPG.out.2]
    have B0c0 := B0.out.cell 0
    have B0c1 := B0.out.cell 1
    simp at B0c0 B0c1
    go_wp2_with fail
    clear B0c0 B0c1
    refine (rCheckPrices_ok (.agg #[.int .i64 r.len, .slice sa r.fs.length cap]) (.slice ka ks.length kcap) r ks _ (pricesL (tabOf r ks)) _ HV.out HK.out HPP.out (by omega) HR.out.1 HR.out.2).mono ?_
    rintro e v7 ⟨rfl, hb⟩
    replace HV := Lib.hid (HV.out.below hb)
    replace HK := Lib.hid (HK.out.below hb)
    replace HBV := Lib.hid (HBV.out.below hb)
    replace HC := Lib.hid (HC.out.below hb)
    replace HY := Lib.hid (HY.out.below hb)
    replace HGV := Lib.hid (HGV.out.below hb)
    replace HPP := Lib.hid (HPP.out.below hb)
    replace B0 := Lib.hid (B0.out.below hb)
    replace HB := Lib.hid (bC HB.out hb)
    clear hb
    rw [HPG.out.1, HPG.out.2]
    have B0c0 := B0.out.cell 0
    have B0c1 := B0.out.cell 1
    simp at B0c0 B0c1
    go_wp2_with fail
    clear B0c0 B0c1
    refine (CheckPrices_ok (.agg #[.int .i64 r.len, .slice sa r.fs.length cap]) (.slice ka ks.length kcap) r ks _ pl _ HV.out HK.out HC.out HCAP.out (by omega) HR.out.1 HR.out.2).mono ?_
    rintro e v8 ⟨rfl, hb⟩
    replace HV := Lib.hid (HV.out.below hb)
    replace HK := Lib.hid (HK.out.below hb)
    replace HBV := Lib.hid (HBV.out.below hb)
    replace HC := Lib.hid (HC.out.below hb)
    replace HY := Lib.hid (HY.out.below hb)
    replace HGV := Lib.hid (HGV.out.below hb)
    replace HPP := Lib.hid (HPP.out.below hb)
    replace B0 := Lib.hid (B0.out.below hb)
    replace HB := Lib.hid (bC HB.out hb)
    clear hb
    rw [HPE.out, HPV.out]
    have B0c0 := B0.out.cell 0
    have B0c1 := B0.out.cell 1
    simp at B0c0 B0c1
    go_wp2_with fail
    clear B0c0 B0c1
    refine (Works_any _).mono ?_
    rintro e v9 ⟨rfl, hb⟩
    replace HV := Lib.hid (HV.out.below hb)
    replace HK := Lib.hid (HK.out.below hb)
    replace HBV := Lib.hid (HBV.out.below hb)
    replace HC := Lib.hid (HC.out.below hb)
    replace HY := Lib.hid (HY.out.below hb)
    replace HGV := Lib.hid (HGV.out.below hb)
    replace HPP := Lib.hid (HPP.out.below hb)
    replace B0 := Lib.hid (B0.out.below hb)
    replace HB := Lib.hid (bC HB.out hb)
    clear hb
    go_wp2
    go_ret
    exact ⟨rfl, HB.out⟩
  · have he' : (E != 0) = true := by simpa using he
    clear hPD he
    go_enter Try.func7, Try.ntmps7
    go_wp2_with fail
    generalize w.alloc (.cells #[.int .i64 r.len, .slice sa r.fs.length cap] 24) = W0 at *
    refine (fine_yes (.agg #[.int .i64 r.len, .slice sa r.fs.length cap]) (.slice ka ks.length kcap) r ks _ HV.out HK.out HR.out.1 HR.out.2).mono ?_
    rintro e v1 ⟨rfl, hb⟩
    replace HV := Lib.hid (HV.out.below hb)
    replace HK := Lib.hid (HK.out.below hb)
    replace HBV := Lib.hid (HBV.out.below hb)
    replace HC := Lib.hid (HC.out.below hb)
    replace B0 := Lib.hid (B0.out.below hb)
    replace HB := Lib.hid (bC HB.out hb)
    clear hb
    have B0c0 := B0.out.cell 0
    have B0c1 := B0.out.cell 1
    simp at B0c0 B0c1
    go_wp2_with fail
    clear B0c0 B0c1
    refine (best_any (.agg #[.int .i64 r.len, .slice sa r.fs.length cap]) (.slice ka ks.length kcap) r ks _ HV.out HK.out HR.out.1 HR.out.2).mono ?_
    rintro e v2 ⟨vb, rfl, hp, hb⟩
    replace HV := Lib.hid (HV.out.below hb)
    replace HK := Lib.hid (HK.out.below hb)
    replace HBV := Lib.hid (HBV.out.below hb)
    replace HC := Lib.hid (HC.out.below hb)
    replace B0 := Lib.hid (B0.out.below hb)
    replace HB := Lib.hid (bC HB.out hb)
    clear hb
    have HY := Lib.hid hp
    clear hp
    obtain ⟨ya, yc, rfl⟩ := HY.out.slice
    rw [HD.out]
    have B0c0 := B0.out.cell 0
    have B0c1 := B0.out.cell 1
    simp at B0c0 B0c1
    go_wp2_with fail
    clear B0c0 B0c1
    have c0 := B0.out.cell 0
    have c1 := B0.out.cell 1
    simp at c0 c1
    refine (wp_region_T 11 (fun W' => W'.cell? ⟨w.heap.size, 0, none⟩ = some (.int .i64 r.len) ∧ W'.cell? ⟨w.heap.size, 1, none⟩ = some (.slice sa r.fs.length cap)) (by kernel_rfl) (by kernel_rfl) ⟨c0, c1⟩ ?_)
    intro inv hS
    clear c0 c1
    have hb : Below v2.heap.size v2 v2.drew := (Below.refl _ _).drew
    generalize v2.drew = d0 at *
    replace HV := Lib.hid (HV.out.below hb)
    replace HK := Lib.hid (HK.out.below hb)
    replace HBV := Lib.hid (HBV.out.below hb)
    replace HC := Lib.hid (HC.out.below hb)
    replace HY := Lib.hid (HY.out.below hb)
    replace B0 := Lib.hid (B0.out.below hb)
    replace HB := Lib.hid (bC HB.out hb)
    clear hb
    refine wpAnyT_take inv (by kernel_rfl) (by omega) (i := 0) (v := .agg #[.int .i64 r.len, .slice sa r.fs.length cap]) rfl (by kernel_rfl) (by kernel_rfl) (fun _ _ _ h => h) (Or.inl ⟨by kernel_rfl, ?_⟩) (by assumption) ?_
    · rintro W' ⟨q0, q1⟩
      go_simp
    intro inv2
    clear inv
    have inv := inv2
    clear inv2
    simp only [Act.put, List.setIfInBounds_toArray]
    refine wpAnyT_take inv (by kernel_rfl) (by omega) (i := 1) (v := .slice ka ks.length kcap) rfl (by kernel_rfl) (by kernel_rfl) (fun _ _ _ h => h) (Or.inl ⟨by kernel_rfl, ?_⟩) (by assumption) ?_
    · rintro W' ⟨q0, q1⟩
      go_simp
    intro inv2
    clear inv
    have inv := inv2
    clear inv2
    simp only [Act.put]
    refine wpAnyT_take inv (by kernel_rfl) (by omega) (i := 2) (v := .agg #[.int .i64 r.len, .slice sa r.fs.length cap]) rfl (by kernel_rfl) (by kernel_rfl) (fun _ _ _ h => h) (Or.inl ⟨by kernel_rfl, ?_⟩) (by assumption) ?_
    · rintro W' ⟨q0, q1⟩
      go_simp
    intro inv2
    clear inv
    have inv := inv2
    clear inv2
    simp only [Act.put]
    refine wpAnyT_take inv (by kernel_rfl) (by omega) (i := 3) (v := .slice ka ks.length kcap) rfl (by kernel_rfl) (by kernel_rfl) (fun _ _ _ h => h) (Or.inl ⟨by kernel_rfl, ?_⟩) (by assumption) ?_
    · rintro W' ⟨q0, q1⟩
      go_simp
    intro inv2
    clear inv
    have inv := inv2
    clear inv2
    simp only [Act.put]
    refine wpAnyT_take inv (by kernel_rfl) (by omega) (i := 4) (v := .slice ba l.length bcap) rfl (by kernel_rfl) (by kernel_rfl) (fun _ _ _ h => h) (Or.inl ⟨by kernel_rfl, ?_⟩) (by assumption) ?_
    · rintro W' ⟨q0, q1⟩
      go_simp
    intro inv2
    clear inv
    have inv := inv2
    clear inv2
    simp only [Act.put]
    refine wpAnyT_ready [5] (by kernel_rfl) (by simp) ?_
    refine AllReadyT.cons rfl (fun K hK => ?_) AllReadyT.nil
    go_simp
    refine (Given_any (.agg #[.int .i64 r.len, .slice sa r.fs.length cap]) (.slice ka ks.length kcap) (.slice ba l.length bcap) r ks l _ HV.out HK.out HBV.out HL8.out hl60 HR.out.1 HR.out.2).mono ?_
    rintro e v3 ⟨vg, rfl, hp, hb⟩
    rw [HGL.out] at hp
    obtain ⟨ga, gc, rfl⟩ := hp.slice
    refine hK.out _ _ (fun _ => ⟨cellB hS.1 hb, cellB hS.2 hb⟩) (fun _ => ?_)
    replace inv := HeadM.step inv 5 (by kernel_rfl) (by omega)
    clear hK K
    try simp only [Act.put]
    replace hS := And.intro (cellB hS.1 hb) (cellB hS.2 hb)
    replace HV := Lib.hid (HV.out.below hb)
    replace HK := Lib.hid (HK.out.below hb)
    replace HBV := Lib.hid (HBV.out.below hb)
    replace HC := Lib.hid (HC.out.below hb)
    replace HY := Lib.hid (HY.out.below hb)
    replace B0 := Lib.hid (B0.out.below hb)
    replace HB := Lib.hid (bC HB.out hb)
    clear hb
    have HGV := Lib.hid hp
    clear hp
    refine wpAnyT_ready [6] (by kernel_rfl) (by simp) ?_
    refine AllReadyT.cons rfl (fun K hK => ?_) AllReadyT.nil
    go_simp
    refine (CheckCuts_ok (.agg #[.int .i64 r.len, .slice sa r.fs.length cap]) (.slice ka ks.length kcap) r ks _ gl _ HV.out HK.out HGV.out G4 HR.out.1 HR.out.2).mono ?_
    rintro e v4 ⟨rfl, hb⟩
    rw [HG1.out, HG2.out]
    refine hK.out _ _ (fun _ => ⟨cellB hS.1 hb, cellB hS.2 hb⟩) (fun _ => ?_)
    replace inv := HeadM.step inv 6 (by kernel_rfl) (by omega)
    clear hK K
    try simp only [Act.put]
    replace hS := And.intro (cellB hS.1 hb) (cellB hS.2 hb)
    replace HV := Lib.hid (HV.out.below hb)
    replace HK := Lib.hid (HK.out.below hb)
    replace HBV := Lib.hid (HBV.out.below hb)
    replace HC := Lib.hid (HC.out.below hb)
    replace HY := Lib.hid (HY.out.below hb)
    replace HGV := Lib.hid (HGV.out.below hb)
    replace B0 := Lib.hid (B0.out.below hb)
    replace HB := Lib.hid (bC HB.out hb)
    clear hb
    refine wpAnyT_take inv (by kernel_rfl) (by omega) (i := 7) (v := .tuple #[.int .i64 A, .int .i64 0]) rfl (by kernel_rfl) (by kernel_rfl) (fun _ _ _ h => h) (Or.inl ⟨by kernel_rfl, ?_⟩) (by assumption) ?_
    · rintro W' ⟨q0, q1⟩
      go_simp
    intro inv2
    clear inv
    have inv := inv2
    clear inv2
    simp only [Act.put]
    refine wpAnyT_take inv (by kernel_rfl) (by omega) (i := 8) (v := .int .i64 A) rfl (by kernel_rfl) (by kernel_rfl) (fun _ _ _ h => h) (Or.inl ⟨by kernel_rfl, ?_⟩) (by assumption) ?_
    · rintro W' ⟨q0, q1⟩
      go_simp
    intro inv2
    clear inv
    have inv := inv2
    clear inv2
    simp only [Act.put]
    refine wpAnyT_take inv (by kernel_rfl) (by omega) (i := 9) (v := .int .i64 0) rfl (by kernel_rfl) (by kernel_rfl) (fun _ _ _ h => h) (Or.inl ⟨by kernel_rfl, ?_⟩) (by assumption) ?_
    · rintro W' ⟨q0, q1⟩
      go_simp
    intro inv2
    clear inv
    have inv := inv2
    clear inv2
    simp only [Act.put]
    refine wpAnyT_take inv (by kernel_rfl) (by omega) (i := 10) (v := .int .i64 A) rfl (by kernel_rfl) (by kernel_rfl) (fun _ _ _ h => h) (Or.inl ⟨by kernel_rfl, ?_⟩) (by assumption) ?_
    · rintro W' ⟨q0, q1⟩
      go_simp
    intro inv2
    clear inv
    have inv := inv2
    clear inv2
    simp only [Act.put]
    refine wpAnyT_chain (fuel := 1) rfl (by kernel_rfl) ?_
    simp only [List.drop_succ_cons, List.drop_zero]
    clear inv hS
    have B0c0 := B0.out.cell 0
    have B0c1 := B0.out.cell 1
    simp at B0c0 B0c1
    go_wp2_with fail
    clear B0c0 B0c1
    refine (Prices_cap (.agg #[.int .i64 r.len, .slice sa r.fs.length cap]) (.slice ka ks.length kcap) r ks _ HV.out HK.out HR.out.1 HR.out.2).mono ?_
    rintro e v5 ⟨vp, rfl, hp, hcp, hb⟩
    replace HV := Lib.hid (HV.out.below hb)
    replace HK := Lib.hid (HK.out.below hb)
    replace HBV := Lib.hid (HBV.out.below hb)
    replace HC := Lib.hid (HC.out.below hb)
    replace HY := Lib.hid (HY.out.below hb)
    replace HGV := Lib.hid (HGV.out.below hb)
    replace B0 := Lib.hid (B0.out.below hb)
    replace HB := Lib.hid (bC HB.out hb)
    clear hb
    obtain ⟨pa, pc, rfl⟩ := hp.slice
    have HPP := Lib.hid hp
    have HCP := Lib.hid hcp
    clear hp hcp
    have B0c0 := B0.out.cell 0
    have B0c1 := B0.out.cell 1
    simp at B0c0 B0c1
    go_wp2_with fail
    clear B0c0 B0c1
    refine (CheckPrices_ok (.agg #[.int .i64 r.len, .slice sa r.fs.length cap]) (.slice ka ks.length kcap) r ks _ (pricesL (tabOf r ks)) _ HV.out HK.out HPP.out HCP.out (by omega) HR.out.1 HR.out.2).mono ?_
    rintro e v6 ⟨rfl, hb⟩
    replace HV := Lib.hid (HV.out.below hb)
    replace HK := Lib.hid (HK.out.below hb)
    replace HBV := Lib.hid (HBV.out.below hb)
    replace HC := Lib.hid (HC.out.below hb)
    replace HY := Lib.hid (HY.out.below hb)
    replace HGV := Lib.hid (HGV.out.below hb)
    replace HPP := Lib.hid (HPP.out.below hb)
    replace B0 := Lib.hid (B0.out.below hb)
    replace HB := Lib.hid (bC HB.out hb)
    clear hb
    rw [HPG.out.1, HPG.out.2]
    have B0c0 := B0.out.cell 0
    have B0c1 := B0.out.cell 1
    simp at B0c0 B0c1
    go_wp2_with fail
    clear B0c0 B0c1
    refine (rCheckPrices_ok (.agg #[.int .i64 r.len, .slice sa r.fs.length cap]) (.slice ka ks.length kcap) r ks _ (pricesL (tabOf r ks)) _ HV.out HK.out HPP.out (by omega) HR.out.1 HR.out.2).mono ?_
    rintro e v7 ⟨rfl, hb⟩
    replace HV := Lib.hid (HV.out.below hb)
    replace HK := Lib.hid (HK.out.below hb)
    replace HBV := Lib.hid (HBV.out.below hb)
    replace HC := Lib.hid (HC.out.below hb)
    replace HY := Lib.hid (HY.out.below hb)
    replace HGV := Lib.hid (HGV.out.below hb)
    replace HPP := Lib.hid (HPP.out.below hb)
    replace B0 := Lib.hid (B0.out.below hb)
    replace HB := Lib.hid (bC HB.out hb)
    clear hb
    rw [HPG.out.1, HPG.out.2]
    have B0c0 := B0.out.cell 0
    have B0c1 := B0.out.cell 1
    simp at B0c0 B0c1
    go_wp2_with fail
    clear B0c0 B0c1
    refine (CheckPrices_ok (.agg #[.int .i64 r.len, .slice sa r.fs.length cap]) (.slice ka ks.length kcap) r ks _ pl _ HV.out HK.out HC.out HCAP.out (by omega) HR.out.1 HR.out.2).mono ?_
    rintro e v8 ⟨rfl, hb⟩
    replace HV := Lib.hid (HV.out.below hb)
    replace HK := Lib.hid (HK.out.below hb)
    replace HBV := Lib.hid (HBV.out.below hb)
    replace HC := Lib.hid (HC.out.below hb)
    replace HY := Lib.hid (HY.out.below hb)
    replace HGV := Lib.hid (HGV.out.below hb)
    replace HPP := Lib.hid (HPP.out.below hb)
    replace B0 := Lib.hid (B0.out.below hb)
    replace HB := Lib.hid (bC HB.out hb)
    clear hb
    rw [HPE.out, HPV.out]
    have B0c0 := B0.out.cell 0
    have B0c1 := B0.out.cell 1
    simp at B0c0 B0c1
    go_wp2_with fail
    clear B0c0 B0c1
    refine (Works_any _).mono ?_
    rintro e v9 ⟨rfl, hb⟩
    replace HV := Lib.hid (HV.out.below hb)
    replace HK := Lib.hid (HK.out.below hb)
    replace HBV := Lib.hid (HBV.out.below hb)
    replace HC := Lib.hid (HC.out.below hb)
    replace HY := Lib.hid (HY.out.below hb)
    replace HGV := Lib.hid (HGV.out.below hb)
    replace HPP := Lib.hid (HPP.out.below hb)
    replace B0 := Lib.hid (B0.out.below hb)
    replace HB := Lib.hid (bC HB.out hb)
    clear hb
    go_wp2
    go_ret
    exact ⟨rfl, HB.out⟩
end Go.Proofs.Ytnkeikhkafbokaa
