import Derived.Test.YtnkeikhkafbokaaProgL
namespace Go.Proofs.Ytnkeikhkafbokaa
open Go.RowKit Go.Dag Go.Sort Go.Shelf
attribute [local go_sem] Oper.semAt_some

/-! ## The program: Cuts, Prices -/
theorem firstL_len {r : RibD} {ks : List KindD} (hr : RibOk r) (hks : KindsOk ks) : (firstL (tabOf r ks)).length ≤ 24 := by
  have h1 := hr.l1
  have h2 := hr.l2
  have hok := tabOf_ok (r := r) (ks := ks) (by omega) hks
  have hc := (first_best hok (tabOf r ks).L 0 (by omega)).1
  have := cuts_len hok (Nat.zero_le _) hc
  unfold firstL
  rw [List.length_map]
  have e : (tabOf r ks).L = r.len.toNat := rfl
  omega
set_option maxRecDepth 100000 in
set_option maxHeartbeats 4000000 in
theorem Cuts_ok (v kv : Value) (r : RibD) (ks : List KindD) (w : World) (hv : RibAt w v r) (hk : KindsAt w kv ks) (hr : RibOk r) (hks : KindsOk ks) :
    Calls Try.prog 26 #[v, kv] w fun e w' => ∃ v, e = .returned (.tuple #[v, .int .i64 0]) ∧ PairsAt w' v (firstL (tabOf r ks)) ∧ Below w.heap.size w w' := by
  obtain ⟨sv, rfl, hi⟩ := hv
  obtain ⟨sa, cap, rfl⟩ := hi.slice
  obtain ⟨ka, kcap, rfl⟩ := hk.slice
  have hB0 := below1 w (.cells #[.int .i64 r.len, .slice sa r.fs.length cap] 24)
  have b0 := Blk.new w (.cells #[.int .i64 r.len, .slice sa r.fs.length cap] 24)
  have HI := Lib.hid (hi.below hB0)
  have HK := Lib.hid (hk.below hB0)
  clear hi hk
  go_enter Try.func26, Try.ntmps26
  go_wp2_with fail
  generalize w.alloc (.cells #[.int .i64 r.len, .slice sa r.fs.length cap] 24) = W0 at *
  have HRK := Lib.hid (And.intro hr hks)
  have hfc := hr.count
  have hl1 := hr.l1
  have hl2 := hr.l2
  have hk6 := hks.1
  have hokt := tabOf_ok (r := r) (ks := ks) (by omega) hks
  have HOK := Lib.hid hokt
  refine (lay_ok _ _ r ks _ ⟨_, rfl, HI.out⟩ HK.out hr hks).mono ?_
  rintro e w1 ⟨T, M, rfl, hla, hT, hM, hb1⟩
  have HB1 := Lib.hid (bC hB0 hb1)
  have HL1 := Lib.hid hla
  replace b0 := b0.below hb1
  clear hb1 hB0 hr hks hla HI HK hokt
  have hfl := firstL_len HRK.out.1 HRK.out.2
  go_wp2_with fail
  refine (first_any T M r ks _ HL1.out HRK.out.1 HRK.out.2).mono ?_
  rintro e w2 ⟨v2, rfl, hrow, hnil, hb2⟩
  have HB2 := Lib.hid (bC HB1.out hb2)
  by_cases h0 : firstL (tabOf r ks) = []
  · obtain rfl := hnil h0
    have H0 := Lib.hid h0
    clear hrow hb2 h0 hnil
    go_wp2_with fail
    refine (takenS0_any _).mono ?_
    rintro e w3 ⟨v3, rfl, hp, hb3⟩
    have HB3 := Lib.hid (bC HB2.out hb3)
    have HP := Lib.hid hp
    clear hb3 hp
    go_wp2
    go_ret2
    exact ⟨v3, rfl, by rw [H0.out]; exact HP.out, HB3.out⟩
  · have HR := Lib.hid (Row.pairs hrow)
    have H0 := Lib.hid h0
    clear hrow hb2 h0 hnil
    go_wp2_with fail
    refine (takenS_any _ _ _ HR.out H0.out (by omega)).mono ?_
    rintro e w3 ⟨g, cap, rfl, hg, hk, hb3⟩
    have HB3 := Lib.hid (bC HB2.out hb3)
    have HP := Lib.hid (PairsAt.of_blk (cap := cap) hk)
    clear hb3 hk
    go_wp2
    go_ret2
    exact ⟨_, rfl, HP.out, HB3.out⟩

set_option maxRecDepth 100000 in
set_option maxHeartbeats 4000000 in
theorem Prices_ok (v kv : Value) (r : RibD) (ks : List KindD) (w : World) (hv : RibAt w v r) (hk : KindsAt w kv ks) (hr : RibOk r) (hks : KindsOk ks) :
    Calls Try.prog 33 #[v, kv] w fun e w' => ∃ v, e = .returned (.tuple #[v, .int .i64 0]) ∧ IntsAt w' v (pricesL (tabOf r ks)) ∧ Below w.heap.size w w' := by
  obtain ⟨sv, rfl, hi⟩ := hv
  obtain ⟨sa, cap, rfl⟩ := hi.slice
  obtain ⟨ka, kcap, rfl⟩ := hk.slice
  have hB0 := below1 w (.cells #[.int .i64 r.len, .slice sa r.fs.length cap] 24)
  have b0 := Blk.new w (.cells #[.int .i64 r.len, .slice sa r.fs.length cap] 24)
  have HI := Lib.hid (hi.below hB0)
  have HK := Lib.hid (hk.below hB0)
  clear hi hk
  go_enter Try.func33, Try.ntmps33
  go_wp2_with fail
  generalize w.alloc (.cells #[.int .i64 r.len, .slice sa r.fs.length cap] 24) = W0 at *
  have HRK := Lib.hid (And.intro hr hks)
  have hfc := hr.count
  have hl1 := hr.l1
  have hl2 := hr.l2
  have hk6 := hks.1
  have hokt := tabOf_ok (r := r) (ks := ks) (by omega) hks
  have HOK := Lib.hid hokt
  refine (lay_ok _ _ r ks _ ⟨_, rfl, HI.out⟩ HK.out hr hks).mono ?_
  rintro e w1 ⟨T, M, rfl, hla, hT, hM, hb1⟩
  have HB1 := Lib.hid (bC hB0 hb1)
  have HL1 := Lib.hid hla
  replace b0 := b0.below hb1
  clear hb1 hB0 hr hks hla HI HK hokt
  obtain ⟨L, hL⟩ : ∃ L : Nat, r.len = (L : Int) := ⟨r.len.toNat, by omega⟩
  have hL24 : L ≤ 24 := by omega
  have t0 := HL1.out.1.len
  rw [hL] at t0
  have hmk : ∀ w, _ := fun w => make64 L w (by omega)
  have HLT := Lib.hid (show r.len.toNat = L by omega)
  have HTL := Lib.hid (show (tabOf r ks).L = L by simp only [tabOf]; omega)
  have HUB := Lib.hid (fun q (hq : q ≤ L) => up_le24 HRK.out.1 HRK.out.2 (q := q) (by omega))
  have HUP := Lib.hid (fun q (hq : q ≤ L) => HL1.out.up (q := q) (by omega) hl2)
  have hTl := HL1.out.1.lt.1
  have HB2 := Lib.hid (bC HB1.out (below1 w1 (.cells (madeCells #[.int .i64 0] L) 2)))
  have hz := ArrAt.zeros w1 L 2
  have HA := Lib.hid (hz.same (f' := fun u => if u < 0 then priceV (tabOf r ks) u else 0) fun i _ => by rw [if_neg (Nat.not_lt_zero _)])
  have hw1 := HB1.out.size
  clear hL hz HL1 b0 HB1
  go_wp2_with fail
  clear hmk t0
  go_loopw [27] (fun s wr => ∃ k : Nat, k ≤ L ∧ s = .int .i64 k ∧ ArrAt wr w1.heap.size L 2 (fun u => if u < k then priceV (tabOf r ks) u else 0) ∧ (∀ q, q ≤ L → wr.cell? ⟨T, 4 + q, none⟩ = some (.int .i64 (up (tabOf r ks) q))) ∧ Below w.heap.size w wr ∧ w1.heap.size < wr.heap.size) (fun s _ => L - (intOf s).toNat)
  case atStart => exact ⟨0, Nat.zero_le _, rfl, HA.out, fun q hq => cellB (HUP.out q hq) (below1 _ _), HB2.out, by simp⟩
  case round =>
    rename_i wr
    clear HA HUP HB2
    obtain ⟨k, hk, rfl, hA, hU, hB, hz⟩ := hrel
    have HA := Lib.hid hA
    have HU := Lib.hid hU
    have HB := Lib.hid hB
    clear hA hU hB
    by_cases hlt : k < L
    · have e1 := HU.out k (by omega)
      have e2 := HU.out (k + 1) (by omega)
      obtain ⟨b1, b1'⟩ := HUB.out k (by omega)
      obtain ⟨b2, b2'⟩ := HUB.out (k + 1) (by omega)
      obtain ⟨u1, hu1⟩ : ∃ u1, up (tabOf r ks) k = u1 := ⟨_, rfl⟩
      obtain ⟨u2, hu2⟩ : ∃ u2, up (tabOf r ks) (k + 1) = u2 := ⟨_, rfl⟩
      rw [hu1] at e1 b1 b1'
      rw [hu2] at e2 b2 b2'
      have HPV := Lib.hid (show priceV (tabOf r ks) k = u2 - u1 by unfold priceV; rw [hu1, hu2])
      have ww1 : IntKind.i64.wrap ((k : Int) + 1) = (k : Int) + 1 := IntWalk.i64_in _ (by omega)
      have ww2 : IntKind.i64.wrap (u2 - u1) = u2 - u1 := IntWalk.i64_in _ (by omega)
      have ip0 : (0 : Int) ≤ (k : Int) + 1 := by omega
      have ip1 : ((k : Int) + 1).toNat = k + 1 := by omega
      have ip2 : (k : Int) + 1 < 25 := by omega
      have ip3 : (k : Int) < 25 := by omega
      have ip4 : (k : Int) < (L : Int) := by omega
      have g1 := fun d os => cell_regrown e1 d os
      have g2 := fun d os => cell_regrown e2 d os
      clear hu1 hu2 b1 b1' b2 b2' e1 e2
      go_wp2_with fail
      refine (wp_region_tail 17 (by kernel_rfl) (by kernel_rfl) ?_)
      repeat (quiet_step (fail))
      refine wpQuiet_nil ?_
      intro _ hw'
      obtain ⟨⟨dq, osq⟩, hw''⟩ := hw'
      subst hw''
      simp only [List.drop_succ_cons, List.drop_zero]
      have hbq := below_regrown wr dq osq
      have HB3 := Lib.hid (bC HB.out hbq)
      have HA3 := Lib.hid (HA.out.below hbq)
      have HU3 := Lib.hid (fun q hq => cellB (HU.out q hq) hbq)
      have hz3 := hbq.size
      clear g1 g2 hbq ww1 HA HU HB
      generalize grow (redrawn wr dq) osq = w3 at *
      have xa := HA3.out.cell hlt
      have xf := HA3.out.frozen k
      have xl := HA3.out.lt
      go_wp2
      have HAs := Lib.hid ((HA3.out.set k (u2 - u1)).same (f' := fun u => if u < k + 1 then priceV (tabOf r ks) u else 0) fun i hi => by
        unfold updF
        dsimp only
        by_cases e : i = k
        · subst e; rw [if_pos (by omega), if_pos rfl, HPV.out]
        · rw [if_neg e]
          by_cases c : i < k
          · rw [if_pos (by omega), if_pos c]
          · rw [if_neg (by omega), if_neg c])
      have HUs := Lib.hid (fun q hq => cell_other (b' := w1.heap.size) (o' := k) (u := .int .i64 (u2 - u1)) (HU3.out q hq) (by omega))
      have HBs := Lib.hid (HB3.out.setCell (p := ⟨w1.heap.size, k, none⟩) (by simp; omega) (.int .i64 (u2 - u1)))
      rename_i wr8
      go_roundw
      case rel => exact ⟨k + 1, by omega, by go_num, HAs.out, HUs.out, HBs.out, by simp [World.setCell]; omega⟩
      case measure => simp [intOf]; omega
    · obtain rfl : k = L := by omega
      have hi := HA.out.ints k
      have e : (List.range k).map (fun u => if u < k then priceV (tabOf r ks) u else 0) = pricesL (tabOf r ks) := by
        unfold pricesL
        rw [HTL.out]
        exact List.map_congr_left fun u hu => if_pos (List.mem_range.1 hu)
      rw [e] at hi
      have HI := Lib.hid hi
      clear hi e
      go_wp2
      go_ret2
      exact ⟨_, rfl, HI.out, HB.out⟩

end Go.Proofs.Ytnkeikhkafbokaa
