import Derived.Test.YtnkeikhkafbokaaQv
namespace Go.Proofs.Ytnkeikhkafbokaa
open Go.RowKit Go.Dag Go.Sort Go.Shelf
attribute [local go_sem] Oper.semAt_some

/-! ## The program: Cuts, Prices -/
theorem firstL_len {r : RibD} {ks : List KindD} (hr : RibOk r) (hks : KindsOk ks) : (firstL (tabOf r ks)).length ≤ 24 := by
  have h1 := hr.l1
  have h2 := hr.l2
  have hok := tabOf_ok (r := r) (ks := ks) (by omega) hks
  have hc := (first_best hok (tabOf r ks).L 0 (by omega)).1
  have := cuts_len hok (Nat.zero_le _) hc
  unfold firstL
  rw [List.length_map]
  have e : (tabOf r ks).L = r.len.toNat := rfl
  omega
set_option maxRecDepth 100000 in
set_option maxHeartbeats 4000000 in
theorem Cuts_ok (v kv : Value) (r : RibD) (ks : List KindD) (w : World) (hv : RibAt w v r) (hk : KindsAt w kv ks) (hr : RibOk r) (hks : KindsOk ks) :
    Calls Try.prog 26 #[v, kv] w fun e w' => ∃ v, e = .returned (.tuple #[v, .int .i64 0]) ∧ PairsAt w' v (firstL (tabOf r ks)) ∧ Below w.heap.size w w' := by
  obtain ⟨sv, rfl, hi⟩ := hv
  obtain ⟨sa, cap, rfl⟩ := hi.slice
  obtain ⟨ka, kcap, rfl⟩ := hk.slice
  have hB0 := below1 w (.cells #[.int .i64 r.len, .slice sa r.fs.length cap] 24)
  have b0 := Blk.new w (.cells #[.int .i64 r.len, .slice sa r.fs.length cap] 24)
  have HI := Lib.hid (hi.below hB0)
  have HK := Lib.hid (hk.below hB0)
  clear hi hk
  go_enter Try.func26, Try.ntmps26
  go_wp2_with fail
  generalize w.alloc (.cells #[.int .i64 r.len, .slice sa r.fs.length cap] 24) = W0 at *
  have HRK := Lib.hid (And.intro hr hks)
  have hfc := hr.count
  have hl1 := hr.l1
  have hl2 := hr.l2
  have hk6 := hks.1
  have hokt := tabOf_ok (r := r) (ks := ks) (by omega) hks
  have HOK := Lib.hid hokt
  refine (lay_ok _ _ r ks _ ⟨_, rfl, HI.out⟩ HK.out hr hks).mono ?_
  rintro e w1 ⟨T, M, rfl, hla, hT, hM, hb1⟩
  have HB1 := Lib.hid (bC hB0 hb1)
  have HL1 := Lib.hid hla
  replace b0 := b0.below hb1
  clear hb1 hB0 hr hks hla HI HK hokt
  have hfl := firstL_len HRK.out.1 HRK.out.2
  go_wp2_with fail
  refine (first_any T M r ks _ HL1.out HRK.out.1 HRK.out.2).mono ?_
  rintro e w2 ⟨v2, rfl, hrow, hnil, hb2⟩
  have HB2 := Lib.hid (bC HB1.out hb2)
  by_cases h0 : firstL (tabOf r ks) = []
  · obtain rfl := hnil h0
    have H0 := Lib.hid h0
    clear hrow hb2 h0 hnil
    go_wp2_with fail
    refine (takenS0_any _).mono ?_
    rintro e w3 ⟨v3, rfl, hp, hb3⟩
    have HB3 := Lib.hid (bC HB2.out hb3)
    have HP := Lib.hid hp
    clear hb3 hp
    go_wp2
    go_ret2
    exact ⟨v3, rfl, by rw [H0.out]; exact HP.out, HB3.out⟩
  · have HR := Lib.hid (Row.pairs hrow)
    have H0 := Lib.hid h0
    clear hrow hb2 h0 hnil
    go_wp2_with fail
    refine (takenS_any _ _ _ HR.out H0.out (by omega)).mono ?_
    rintro e w3 ⟨g, cap, rfl, hg, hk, hb3⟩
    have HB3 := Lib.hid (bC HB2.out hb3)
    have HP := Lib.hid (PairsAt.of_blk (cap := cap) hk)
    clear hb3 hk
    go_wp2
    go_ret2
    exact ⟨_, rfl, HP.out, HB3.out⟩

set_option maxRecDepth 100000 in
set_option maxHeartbeats 4000000 in
theorem Prices_ok (v kv : Value) (r : RibD) (ks : List KindD) (w : World) (hv : RibAt w v r) (hk : KindsAt w kv ks) (hr : RibOk r) (hks : KindsOk ks) :
    Calls Try.prog 33 #[v, kv] w fun e w' => ∃ v, e = .returned (.tuple #[v, .int .i64 0]) ∧ IntsAt w' v (pricesL (tabOf r ks)) ∧ Below w.heap.size w w' := by
  obtain ⟨sv, rfl, hi⟩ := hv
  obtain ⟨sa, cap, rfl⟩ := hi.slice
  obtain ⟨ka, kcap, rfl⟩ := hk.slice
  have hB0 := below1 w (.cells #[.int .i64 r.len, .slice sa r.fs.length cap] 24)
  have b0 := Blk.new w (.cells #[.int .i64 r.len, .slice sa r.fs.length cap] 24)
  have HI := Lib.hid (hi.below hB0)
  have HK := Lib.hid (hk.below hB0)
  clear hi hk
  go_enter Try.func33, Try.ntmps33
  go_wp2_with fail
  generalize w.alloc (.cells #[.int .i64 r.len, .slice sa r.fs.length cap] 24) = W0 at *
  have HRK := Lib.hid (And.intro hr hks)
  have hfc := hr.count
  have hl1 := hr.l1
  have hl2 := hr.l2
  have hk6 := hks.1
  have hokt := tabOf_ok (r := r) (ks := ks) (by omega) hks
  have HOK := Lib.hid hokt
  refine (lay_ok _ _ r ks _ ⟨_, rfl, HI.out⟩ HK.out hr hks).mono ?_
  rintro e w1 ⟨T, M, rfl, hla, hT, hM, hb1⟩
  have HB1 := Lib.hid (bC hB0 hb1)
  have HL1 := Lib.hid hla
  replace b0 := b0.below hb1
  clear hb1 hB0 hr hks hla HI HK hokt
  obtain ⟨L, hL⟩ : ∃ L : Nat, r.len = (L : Int) := ⟨r.len.toNat, by omega⟩
  have hL24 : L ≤ 24 := by omega
  have t0 := HL1.out.1.len
  rw [hL] at t0
  have hmk : ∀ w, _ := fun w => make64 L w (by omega)
  have HLT := Lib.hid (show r.len.toNat = L by omega)
  have HTL := Lib.hid (show (tabOf r ks).L = L by simp only [tabOf]; omega)
  have HUB := Lib.hid (fun q (hq : q ≤ L) => up_le24 HRK.out.1 HRK.out.2 (q := q) (by omega))
  have HUP := Lib.hid (fun q (hq : q ≤ L) => HL1.out.up (q := q) (by omega) hl2)
  have hTl := HL1.out.1.lt.1
  have HB2 := Lib.hid (bC HB1.out (below1 w1 (.cells (madeCells #[.int .i64 0] L) 2)))
  have hz := ArrAt.zeros w1 L 2
  have HA := Lib.hid (hz.same (f' := fun u => if u < 0 then priceV (tabOf r ks) u else 0) fun i _ => by rw [if_neg (Nat.not_lt_zero _)])
  have hw1 := HB1.out.size
  clear hL hz HL1 b0 HB1
  go_wp2_with fail
  clear hmk t0
  go_loopw [27] (fun s wr => ∃ k : Nat, k ≤ L ∧ s = .int .i64 k ∧ ArrAt wr w1.heap.size L 2 (fun u => if u < k then priceV (tabOf r ks) u else 0) ∧ (∀ q, q ≤ L → wr.cell? ⟨T, 4 + q, none⟩ = some (.int .i64 (up (tabOf r ks) q))) ∧ Below w.heap.size w wr ∧ w1.heap.size < wr.heap.size) (fun s _ => L - (intOf s).toNat)
  case atStart => exact ⟨0, Nat.zero_le _, rfl, HA.out, fun q hq => cellB (HUP.out q hq) (below1 _ _), HB2.out, by simp⟩
  case round =>
    rename_i wr
    clear HA HUP HB2
    obtain ⟨k, hk, rfl, hA, hU, hB, hz⟩ := hrel
    have HA := Lib.hid hA
    have HU := Lib.hid hU
    have HB := Lib.hid hB
    clear hA hU hB
    by_cases hlt : k < L
    · have e1 := HU.out k (by omega)
      have e2 := HU.out (k + 1) (by omega)
      obtain ⟨b1, b1'⟩ := HUB.out k (by omega)
      obtain ⟨b2, b2'⟩ := HUB.out (k + 1) (by omega)
      obtain ⟨u1, hu1⟩ : ∃ u1, up (tabOf r ks) k = u1 := ⟨_, rfl⟩
      obtain ⟨u2, hu2⟩ : ∃ u2, up (tabOf r ks) (k + 1) = u2 := ⟨_, rfl⟩
      rw [hu1] at e1 b1 b1'
      rw [hu2] at e2 b2 b2'
      have HPV := Lib.hid (show priceV (tabOf r ks) k = u2 - u1 by unfold priceV; rw [hu1, hu2])
      have ww1 : IntKind.i64.wrap ((k : Int) + 1) = (k : Int) + 1 := IntWalk.i64_in _ (by omega)
      have ww2 : IntKind.i64.wrap (u2 - u1) = u2 - u1 := IntWalk.i64_in _ (by omega)
      have ip0 : (0 : Int) ≤ (k : Int) + 1 := by omega
      have ip1 : ((k : Int) + 1).toNat = k + 1 := by omega
      have ip2 : (k : Int) + 1 < 25 := by omega
      have ip3 : (k : Int) < 25 := by omega
      have ip4 : (k : Int) < (L : Int) := by omega
      have g1 := fun d os => cell_regrown e1 d os
      have g2 := fun d os => cell_regrown e2 d os
      clear hu1 hu2 b1 b1' b2 b2' e1 e2
      go_wp2_with fail
      refine (wp_region_tail 17 (by kernel_rfl) (by kernel_rfl) ?_)
      repeat (quiet_step (fail))
      refine wpQuiet_nil ?_
      intro _ hw'
      obtain ⟨⟨dq, osq⟩, hw''⟩ := hw'
      subst hw''
      simp only [List.drop_succ_cons, List.drop_zero]
      have hbq := below_regrown wr dq osq
      have HB3 := Lib.hid (bC HB.out hbq)
      have HA3 := Lib.hid (HA.out.below hbq)
      have HU3 := Lib.hid (fun q hq => cellB (HU.out q hq) hbq)
      have hz3 := hbq.size
      clear g1 g2 hbq ww1 HA HU HB
      generalize grow (redrawn wr dq) osq = w3 at *
      have xa := HA3.out.cell hlt
      have xf := HA3.out.frozen k
      have xl := HA3.out.lt
      go_wp2
      have HAs := Lib.hid ((HA3.out.set k (u2 - u1)).same (f' := fun u => if u < k + 1 then priceV (tabOf r ks) u else 0) fun i hi => by
        unfold updF
        dsimp only
        by_cases e : i = k
        · subst e; rw [if_pos (by omega), if_pos rfl, HPV.out]
        · rw [if_neg e]
          by_cases c : i < k
          · rw [if_pos (by omega), if_pos c]
          · rw [if_neg (by omega), if_neg c])
      have HUs := Lib.hid (fun q hq => cell_other (b' := w1.heap.size) (o' := k) (u := .int .i64 (u2 - u1)) (HU3.out q hq) (by omega))
      have HBs := Lib.hid (HB3.out.setCell (p := ⟨w1.heap.size, k, none⟩) (by simp; omega) (.int .i64 (u2 - u1)))
      rename_i wr8
      go_roundw
      case rel => exact ⟨k + 1, by omega, by go_num, HAs.out, HUs.out, HBs.out, by simp [World.setCell]; omega⟩
      case measure => simp [intOf]; omega
    · obtain rfl : k = L := by omega
      have hi := HA.out.ints k
      have e : (List.range k).map (fun u => if u < k then priceV (tabOf r ks) u else 0) = pricesL (tabOf r ks) := by
        unfold pricesL
        rw [HTL.out]
        exact List.map_congr_left fun u hu => if_pos (List.mem_range.1 hu)
      rw [e] at hi
      have HI := Lib.hid hi
      clear hi e
      go_wp2
      go_ret2
      exact ⟨_, rfl, HI.out, HB.out⟩

end Go.Proofs.Ytnkeikhkafbokaa

namespace Go.Proofs.Ytnkeikhkafbokaa
open Go.RowKit Go.Dag Go.Sort Go.Shelf
attribute [local go_sem] Oper.semAt_some

/-! ## The program: when a place is parted, what a fault costs -/
def leftS (es : List (SK × Value × Nat)) (seen : Array Nat) : List (SK × Value × Nat) := es.filter fun e => !seen.contains e.2.2
theorem leftOf_S (es : List (SK × Value × Nat)) (seen : Array Nat) : leftOf (es.map ent).toArray seen = ((leftS es seen).map ent).toArray := by
  unfold leftOf leftS
  apply Array.toList_inj.1
  rw [Array.toList_filter]
  show List.filter _ (es.map ent) = _
  rw [List.filter_map]
  rfl
theorem leftS_push {es : List (SK × Value × Nat)} {seen : Array Nat} {e : SK × Value × Nat} (he : e ∈ leftS es seen) : (leftS es (seen.push e.2.2)).length < (leftS es seen).length := by
  have h : leftS es (seen.push e.2.2) = (leftS es seen).filter fun x => !decide (x.2.2 = e.2.2) := by
    unfold leftS
    rw [List.filter_filter]
    congr 1
    funext x
    rw [Bool.eq_iff_iff]
    simp
    exact And.comm
  rw [h, List.length_filter_lt_length_iff_exists]
  exact ⟨e, he, by simp⟩
theorem born_inj : ∀ {es : List (SK × Value × Nat)}, (es.map (·.2.2)).Nodup → ∀ {e e' : SK × Value × Nat}, e ∈ es → e' ∈ es → e.2.2 = e'.2.2 → e = e'
  | [], _, _, _, h, _, _ => by cases h
  | a :: es, hn, e, e', h1, h2, hb => by
    obtain ⟨n1, n2⟩ := List.nodup_cons.1 hn
    rcases List.mem_cons.1 h1 with q1 | q1 <;> rcases List.mem_cons.1 h2 with q2 | q2
    · rw [q1, q2]
    · rw [q1] at hb; exact (n1 (List.mem_map.2 ⟨e', q2, hb.symm⟩)).elim
    · rw [q2] at hb; exact (n1 (List.mem_map.2 ⟨e, q1, hb⟩)).elim
    · exact born_inj n2 q1 q2 hb
def leftN (M r : Nat) (w : World) : Nat :=
  match w.heap[M]?, w.heap[r]? with
  | some (.map es _), some (.mapIter _ _ seen _) => (leftOf es seen).size
  | _, _ => 0
theorem leftN_eq {M r : Nat} {w : World} {es : List (SK × Value × Nat)} {clock s c : Nat} {m : Option Nat} {seen : Array Nat} (h1 : Blk w M (entsO es clock)) (h2 : Blk w r (.mapIter m s seen c)) : leftN M r w = (leftS es seen).length := by
  unfold leftN
  unfold Blk entsO at h1
  unfold Blk at h2
  rw [h1, h2]
  show (leftOf _ seen).size = _
  rw [leftOf_S, List.size_toArray, List.length_map]
set_option maxRecDepth 100000 in
set_option maxHeartbeats 8000000 in
theorem parted_any (T M : Nat) (r : RibD) (ks : List KindD) (p : Nat) (w : World) (hL : LaidAt w T M r ks) (hr : RibOk r) (hks : KindsOk ks) (hp : (p : Int) ≤ r.len) :
    Calls Try.prog 72 #[.pointer (some ⟨T, 0, none⟩), .int .i64 p] w fun e w' => e = .returned (.int .i64 (partV (tabOf r ks) p)) ∧ Below w.heap.size w w' := by
  have hl1 := hr.l1
  have hl2 := hr.l2
  have HOK := Lib.hid (tabOf_ok (r := r) (ks := ks) (by omega) hks)
  have hTL : (tabOf r ks).L = r.len.toNat := rfl
  have HK := Lib.hid (show (tabOf r ks).K = ks.length from rfl)
  have y0 := hL.wy (q := p) (by omega) hl2
  have xm := hL.1.mp
  have hp25 : (p : Int) < 25 := by omega
  have HRK := Lib.hid (And.intro hr hks)
  have HL := Lib.hid hL
  have hWZ := ways_zero HOK.out p
  obtain ⟨vv, hvv⟩ : ∃ vv, Dag.ways (tabOf r ks) p = vv := ⟨_, rfl⟩
  rw [hvv] at y0 hWZ
  clear hvv hr hks
  obtain ⟨es, clock, hmap⟩ := hL.2
  have HMP := Lib.hid hmap
  have hc := hmap.blk
  have hMl := hc.lt
  clear hL hmap
  have hrng : (Instr.range 82 (.map (some M))).run Try.prog w = .ok (.pointer (some ⟨w.heap.size, 0, none⟩)) (w.alloc (.mapIter (some M) clock #[] clock)) := by
    have ht : Try.prog.underlying 82 = some (.map 56 4) := by kernel_rfl
    simp only [Instr.range, Sem.run_bind, run_underlying ht, Result.andThen_ok, run_getObj_map hc, Sem.run_pure]
    rfl
  by_cases hz : vv = 0
  · have d1 : (vv == 0) = true := by simpa using hz
    have HT := Lib.hid (show partV (tabOf r ks) p = 0 by unfold partV; rw [if_neg (hWZ.1 hz)])
    clear hz hWZ hc hrng
    go_enter Try.func72, Try.ntmps72
    go_wp2
    go_ret
    exact ⟨ret_int HT.out.symm, Below.refl _ _⟩
  · have d1 : (vv == 0) = false := by simpa using hz
    have hon : On (tabOf r ks) p := Classical.not_not.1 fun h => hz (hWZ.2 h)
    have HPV := Lib.hid (show partV (tabOf r ks) p = if crossB (tabOf r ks) p = true then 1 else 2 by unfold partV; rw [if_pos hon])
    have hit0 := Blk.new w (.mapIter (some M) clock #[] clock)
    have hW1 := below1 w (.mapIter (some M) clock #[] clock)
    clear hz hWZ hon
    go_enter Try.func72, Try.ntmps72
    go_wp2
    clear hrng y0 xm
    go_loopw [18] (fun _ wr => ∃ seen : Array Nat, Blk wr w.heap.size (.mapIter (some M) clock seen clock) ∧ (∀ e ∈ es, e.2.2 ∈ seen.toList → ¬ (e.1.1 < (p : Int) ∧ (p : Int) < e.1.1 + (sk ks e.1).w)) ∧ Below w.heap.size w wr)
      (fun _ wr => leftN M w.heap.size wr)
    case atStart => exact ⟨#[], hit0, fun e _ h => by simp at h, hW1⟩
    case round =>
      clear hit0 hW1
      obtain ⟨seen, hit, hdone, hB⟩ := hrel
      have hMb : Blk wr M (entsO es clock) := hc.below hB
      have HN := Lib.hid (leftN_eq hMb hit)
      have HD := Lib.hid hdone
      have hnx := run_next_at (P := Try.prog) wr 0 w.heap.size M clock clock seen (es.map ent).toArray clock hit hMb (by
        intro x hx
        simp only at hx
        obtain ⟨e, he, rfl⟩ := List.mem_map.1 hx
        exact HMP.out.old e he) (Nat.le_refl _)
      rw [leftOf_S] at hnx
      clear hdone
      rcases hnx with ⟨hz, hrun⟩ | ⟨me, hme, w1, hw1, hrun⟩
      · have hnil : leftS es seen = [] := by simpa using hz
        have hrun' : ∀ ty, (Instr.next (.pointer (some ⟨w.heap.size, 0, none⟩)) false ty).run Try.prog wr = .ok (.tuple #[.bool false]) wr := fun ty => hrun
        have HT := Lib.hid (show partV (tabOf r ks) p = 2 by
          rw [HPV.out, if_neg]
          rw [crossB_iff]
          rintro ⟨a, i, hb, h1, h2⟩
          have hk : ((a : Int), (i : Int)) ∈ keysOf es := (HMP.out.mem _).2 ((Bx_best HOK.out a i).2 hb)
          obtain ⟨e, he, hek⟩ := List.mem_map.1 hk
          have hs : e.2.2 ∈ seen.toList := by
            refine Classical.not_not.1 fun hn => ?_
            have : e ∈ leftS es seen := List.mem_filter.2 ⟨he, by simpa using hn⟩
            rw [hnil] at this
            cases this
          refine HD.out e he hs ?_
          rw [hek]
          have hw := kd_w HRK.out.2 i
          simp only [tabOf] at h2
          unfold sk
          simp only [Int.toNat_natCast]
          omega)
        have HB := Lib.hid hB
        clear hrun hz hnil HN hit hMb hB hc
        go_wp2
        go_ret
        exact ⟨ret_int HT.out.symm, HB.out⟩
      · simp only at hme
        obtain ⟨e, he, rfl⟩ := List.mem_map.1 hme
        have hees := (List.mem_filter.1 he).1
        obtain ⟨a, i, hai⟩ := Bx_nat ((HMP.out.mem e.1).1 (List.mem_map_of_mem hees))
        have hbest := (Bx_best HOK.out a i).1 (by rw [← hai]; exact (HMP.out.mem e.1).1 (List.mem_map_of_mem hees))
        have hik : i < ks.length := hbest.1
        have haL := HOK.out.fit a i hbest.1 hbest.2.1
        have hrun' : ∀ ty, (Instr.next (.pointer (some ⟨w.heap.size, 0, none⟩)) false ty).run Try.prog wr = .ok (.tuple #[.bool true, pkV e.1, e.2.1]) (w1.putObj w.heap.size (.mapIter (some M) clock (seen.push e.2.2) clock)) := fun ty => hrun
        have hBw : Below w.heap.size w w1 ∧ Blk w1 w.heap.size (.mapIter (some M) clock seen clock) ∧ Blk w1 M (entsO es clock) := by
          rcases hw1 with rfl | rfl
          · exact ⟨hB, hit, hMb⟩
          · exact ⟨hB.drew, hit, hMb⟩
        clear hrun hw1 hme hB hit hMb
        obtain ⟨hB1, hit1, hM1⟩ := hBw
        have hrlt1 := hit1.lt
        have hit2 : Blk (w1.putObj w.heap.size (.mapIter (some M) clock (seen.push e.2.2) clock)) w.heap.size (.mapIter (some M) clock (seen.push e.2.2) clock) := World.putObj_heap_same hrlt1
        have hM2 := hM1.put (b := w.heap.size) (by omega) (.mapIter (some M) clock (seen.push e.2.2) clock)
        have hB2 : Below w.heap.size w (w1.putObj w.heap.size (.mapIter (some M) clock (seen.push e.2.2) clock)) := hB1.trans ((Below.refl w.heap.size w1).grown (grownBy_putObj' w1 w.heap.size _) (by omega) (fun k e' => by cases e'; exact Nat.le_refl _))
        generalize w1.putObj w.heap.size (.mapIter (some M) clock (seen.push e.2.2) clock) = w2 at *
        have hent : (Instr.entry (.pointer (some ⟨w.heap.size, 0, none⟩))).run Try.prog w2 = .ok (.tuple #[pkV e.1, e.2.1]) w2 := by
          refine run_entry_at (P := Try.prog) w2 w.heap.size M clock seen (es.map ent).toArray clock (ent e) hit2 hM2 ?_ ?_
          · simp only
            exact List.mem_map_of_mem hees
          · simp only
            rw [List.map_map]
            exact HMP.out.born
        have HLS := Lib.hid (leftS_push he)
        have HM2 := Lib.hid hM2
        have HB2 := Lib.hid hB2
        have HE := Lib.hid (And.intro hai hees)
        rw [hai] at hrun' hent
        unfold pkV at hrun' hent
        simp only at hrun' hent
        obtain ⟨ev, hev⟩ : ∃ ev, e.2.1 = ev := ⟨_, rfl⟩
        rw [hev] at hrun' hent
        have hb3 := below1 w2 (.cells #[.int .i64 a, .int .i64 i] 56)
        have bx := Blk.new w2 (.cells #[.int .i64 a, .int .i64 i] 56)
        have HI3 := Lib.hid (hit2.below hb3)
        have HB3 := Lib.hid (bC hB2 hb3)
        have HM3 := Lib.hid (hM2.below hb3)
        have hz2 := hB2.size
        clear hai hees he hev hM2 hit2 hB2 hB1 hit1 hM1 hbest hrlt1 hb3
        have HNX : Hid (∀ e' ∈ es, e'.2.2 ∈ (seen.push e.2.2).toList → e'.2.2 ∈ seen.toList ∨ e' = e) := Lib.hid fun e' he' hs => by
          rw [Array.toList_push, List.mem_append, List.mem_singleton] at hs
          refine hs.imp id fun hs => ?_
          exact born_inj HMP.out.born he' HE.out.2 hs
        by_cases q1 : (a : Int) < (p : Int)
        · have e1 : decide ((a : Int) < (p : Int)) = true := by simpa using q1
          have e1' : decide (a < p) = true := by simp; omega
          go_wp2_with fail
          generalize w2.alloc (.cells #[.int .i64 a, .int .i64 i] 56) = w3 at *
          refine (end_any T M r ks (a : Int) i _ (HL.out.below HB3.out).1.tab HRK.out.1 HRK.out.2 hik (by omega) (by omega)).mono ?_
          rintro e4 w4 ⟨rfl, hb4⟩
          have HB4 := Lib.hid (bC HB3.out hb4)
          have HI4 := Lib.hid (HI3.out.below hb4)
          have HM4 := Lib.hid (HM3.out.below hb4)
          have HQ1 := Lib.hid q1
          clear hb4 HB3 HI3 HM3 q1 hrun' hent bx
          by_cases q2 : (p : Int) < (a : Int) + (kd ks i).w
          · have e2 : decide ((p : Int) < (a : Int) + (kd ks i).w) = true := by simpa using q2
            have HT := Lib.hid (show partV (tabOf r ks) p = 1 by
              rw [HPV.out, if_pos]
              rw [crossB_iff]
              have hb := (Bx_best HOK.out a i).1 (by rw [← HE.out.1]; exact (HMP.out.mem e.1).1 (List.mem_map_of_mem HE.out.2))
              refine ⟨a, i, hb, by have := HQ1.out; omega, ?_⟩
              have hw := kd_w HRK.out.2 i
              simp only [tabOf]
              omega)
            clear q2
            go_wp2
            go_ret
            exact ⟨ret_int HT.out.symm, HB4.out⟩
          · have e2 : decide ((p : Int) < (a : Int) + (kd ks i).w) = false := by simpa using q2
            have HQ2 := Lib.hid q2
            clear q2
            go_wp2
            rename_i wr8
            go_roundw
            case rel => exact ⟨_, HI4.out, fun e' he' hs hx => by
              rcases HNX.out e' he' hs with h | rfl
              · exact HD.out e' he' h hx
              · rw [HE.out.1] at hx
                unfold sk at hx
                simp only [Int.toNat_natCast] at hx
                exact absurd hx.2 (Int.not_lt.2 HQ2.out), HB4.out⟩
            case measure => rw [leftN_eq HM4.out HI4.out, HN.out]; exact HLS.out
        · have e1 : decide ((a : Int) < (p : Int)) = false := by simpa using q1
          have e1' : decide (a < p) = false := by simp; omega
          have HQ1 := Lib.hid q1
          clear q1
          go_wp2
          rename_i wr8
          go_roundw
          case rel => exact ⟨_, HI3.out, fun e' he' hs hx => by
            rcases HNX.out e' he' hs with h | rfl
            · exact HD.out e' he' h hx
            · rw [HE.out.1] at hx
              exact HQ1.out hx.1, HB3.out⟩
          case measure => rw [leftN_eq HM3.out HI3.out, HN.out]; exact HLS.out

end Go.Proofs.Ytnkeikhkafbokaa
