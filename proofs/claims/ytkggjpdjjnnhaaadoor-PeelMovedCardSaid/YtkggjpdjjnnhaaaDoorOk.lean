import Derived.Test.YtkggjpdjjnnhaaaDoorOg
namespace Go.Proofs.YtkggjpdjjnnhaaaDoor
open Go.RowKit Go.Shelf Go.Sort
attribute [local go_sem] Oper.semAt_some
attribute [local go_sem high] run_min_w run_max_w run_max_w3

/-! ## The law PeelMoved -/
set_option maxRecDepth 1000000 in
set_option maxHeartbeats 40000000 in
theorem PeelMoved_any (v : Value) (l : LogD) (ht sp : Int) (w : World) (hN : NoneAt w) (hv : LogAt w v l)
    (g1 : -32768 ≤ ht ∧ ht ≤ 32767) :
    Calls Tryd.prog 12 #[v, .int .i16 ht, .int .i8 sp] w fun e w' => e = .returned (.bool true) ∧ Below w.heap.size w w' := by
  obtain ⟨va, ve, rfl, h1, h2⟩ := hv
  obtain ⟨a, cap, rfl⟩ := h1.slice
  obtain ⟨a', cap', rfl⟩ := h2.slice
  have HV : Hid (LogAt w (.agg #[.slice a l.at_.length cap, .slice a' l.edges.length cap']) l) := Lib.hid ⟨_, _, rfl, h1, h2⟩
  have HI := Lib.hid h1
  have HP := Lib.hid h2
  have HN := Lib.hid hN
  clear h1 h2 hN
  have hL := Blk.new w (.cells #[.slice a l.at_.length cap, .slice a' l.edges.length cap'] 25)
  have hB0 := below1 w (.cells #[.slice a l.at_.length cap, .slice a' l.edges.length cap'] 25)
  have HL0 := Lib.hid hL
  have HB0 := Lib.hid hB0
  clear hB0 hL
  by_cases h0 : logErr l = 0
  · have HF : Hid (∀ W, LogAt W (.agg #[.slice a l.at_.length cap, .slice a' l.edges.length cap']) l → Calls Tryd.prog 41 #[(.agg #[.slice a l.at_.length cap, .slice a' l.edges.length cap'])] W (Gets (.bool true) W)) := Lib.hid (fun W h => by have := fine_any _ l W h; rw [decide_eq_true h0] at this; exact this)
    have hf := logErr_fit' h0
    have hlen := hf.lens _ (List.mem_singleton.2 rfl)
    have hlen8 := hf.eight
    have HFIT := Lib.hid hf
    have HE0 := Lib.hid h0
    obtain ⟨H, hH⟩ : ∃ H, ht.tmod 500 = H := ⟨_, rfl⟩
    obtain ⟨S, hS⟩ : ∃ S, sp.tmod 10 = S := ⟨_, rfl⟩
    have bH := tmodZ ht 500 (by decide)
    have bS := tmodZ sp 10 (by decide)
    rw [hH] at bH
    rw [hS] at bS
    have rht : IntKind.i64.wrap ht = ht := IntWalk.i64_in _ (by omega)
    have rH : IntKind.i64.wrap H = H := IntWalk.i64_in _ (by omega)
    have rS : IntKind.i64.wrap S = S := IntWalk.i64_in _ (by omega)
    obtain ⟨ir, hir, hk0, hk1, hk2⟩ := info_parts infoR
    have IR := Lib.hid hir
    have K0 := Lib.hid hk0
    have K1 := Lib.hid hk1
    have K2 := Lib.hid hk2
    have BH := Lib.hid bH
    have BS := Lib.hid bS
    have EH := Lib.hid hH
    have ES := Lib.hid hS
    have HLEN := Lib.hid hlen
    have HL8 := Lib.hid hlen8
    clear hir hk0 hk1 hk2 bH bS hlen hlen8 hf h0 g1 hH hS
    go_enter Tryd.func12, Tryd.ntmps12
    go_wp2_with fail
    refine (HF.out _ (HV.out.below HB0.out)).mono ?_
    rintro e w1x ⟨rfl, hb⟩
    have HB1 := Lib.hid (bC HB0.out hb)
    have HL1 := Lib.hid (HL0.out.below hb)
    clear hb HB0 HL0
    have Lc0 := HL1.out.cell 0
    have Lc1 := HL1.out.cell 1
    simp at Lc0 Lc1
    have Ll := HL1.out.lt
    go_wp2_with fail
    clear Lc0 Lc1 Ll
    have hI1 := HI.out.below HB1.out
    have hP1 := HP.out.below HB1.out
    have HIA := Lib.hid (IntsAt.at (w := w1x) (a := a) (n := l.at_.length) (cap := cap) hI1).2
    have HPA := Lib.hid (PairsAt.at (w := w1x) (a := a') (n := l.edges.length) (cap := cap') hP1).2
    have HLB := HL1.out.lt
    clear hI1 hP1
    go_loopw [8] (fun i wr => ∃ (k : Nat) (ve : Value), i = .int .i64 (k : Int) ∧ k ≤ l.at_.length ∧ wr.ownsRow w1x.heap.size 69 2 ve k (pairCells (upto (movG l H S) k)) ∧ Blk wr w1x.heap.size (.cells #[.slice a l.at_.length cap, ve] 25) ∧ Below w1x.heap.size w1x wr) (fun i _ => l.at_.length - (intOf i).toNat)
    case atStart =>
      have b4 := Blk.new w1x (.cells #[.slice a l.at_.length cap, .slice none 0 0] 25)
      exact ⟨0, .slice none 0 0, rfl, Nat.zero_le _, ⟨rfl, .inl ⟨rfl, rfl⟩⟩, b4, below1 _ _⟩
    case round =>
      rename_i wr
      obtain ⟨k, ve, rfl, hk, hre, hX, hB⟩ := hrel
      obtain ⟨a2, n2, c2, rfl⟩ := (Row.of_owns hre).slice
      have RE := Lib.hid hre
      have X := Lib.hid hX
      have BL := Lib.hid hB
      have hx0 : w1x.heap.size < wr.heap.size := hX.lt
      have hl8 := HL8.out
      have hL := HL1.out.below hB
      have m0 := hL.cell 0
      have m1 := hL.cell 1
      simp at m0 m1
      have ml := hL.lt
      have rk1 : IntKind.i64.wrap ((k : Int) + 1) = (k : Int) + 1 := IntWalk.i64_in _ (by omega)
      clear hre hX hB hL
      by_cases hlt : k < l.at_.length
      · have hle : k < l.edges.length := by have := HLEN.out; omega
        obtain ⟨b1, o1, rfl, hc1⟩ := HIA.out k hlt
        obtain ⟨b2, o2, rfl, hc2, hc3⟩ := HPA.out k hle
        rw [atD_eq hlt] at hc1
        rw [loD_eq hle] at hc2
        rw [hiD_eq hle] at hc3
        have hpt := log_pt HFIT.out hlt
        obtain ⟨A, hA⟩ : ∃ A, atD l k = A := ⟨_, rfl⟩
        obtain ⟨lo, hlo⟩ : ∃ lo, loD l k = lo := ⟨_, rfl⟩
        obtain ⟨hi, hhi⟩ : ∃ hi, hiD l k = hi := ⟨_, rfl⟩
        rw [hA] at hc1
        rw [hlo] at hc2
        rw [hhi] at hc3
        rw [hA, hlo, hhi] at hpt
        have HG := Lib.hid (show movG l H S k = (lo + (H + S * A), hi + (H + S * A)) by simp only [movG, hA, hlo, hhi])
        clear hA hlo hhi
        have bS := BS.out
        have bH := BH.out
        have q1 := mul_bd S A 10 100 (by omega) (by omega) hpt.1 hpt.2.1 (by decide)
        have y1 : IntKind.i64.wrap (S * A) = S * A := IntWalk.i64_in _ (by omega)
        have y2 : IntKind.i64.wrap (H + S * A) = H + S * A := IntWalk.i64_in _ (by omega)
        have y3 : IntKind.i64.wrap (lo + (H + S * A)) = lo + (H + S * A) := IntWalk.i64_in _ (by omega)
        have y4 : IntKind.i64.wrap (hi + (H + S * A)) = hi + (H + S * A) := IntWalk.i64_in _ (by omega)
        have hd1 := cellB hc1 BL.out
        have hH := EH.out
        have hS := ES.out
        clear bS bH q1 hpt
        go_wp2_with fail
        clear hH hS hd1 m0 m1 ml
        have c0 : wr.cell? ⟨w1x.heap.size, 1, none⟩ = some (.slice a2 n2 c2) := by rw [X.out.cell]; rfl
        have c1x : wr.cell? ⟨w.heap.size, 1, none⟩ = some (.slice (some ⟨b2, o2, none⟩) l.edges.length cap') := by rw [(HL1.out.below BL.out).cell]; rfl
        have c2x : wr.cell? ⟨b2, o2 + k * 2, none⟩ = some (.int .i64 lo) := cellB hc2 BL.out
        have c3x : wr.cell? ⟨b2, o2 + k * 2 + 1, none⟩ = some (.int .i64 hi) := cellB hc3 BL.out
        refine wp_region_T 20 (fun W' => W'.cell? ⟨w1x.heap.size, 1, none⟩ = some (.slice a2 n2 c2) ∧ W'.cell? ⟨w.heap.size, 1, none⟩ = some (.slice (some ⟨b2, o2, none⟩) l.edges.length cap') ∧ W'.cell? ⟨b2, o2 + k * 2, none⟩ = some (.int .i64 lo) ∧ W'.cell? ⟨b2, o2 + k * 2 + 1, none⟩ = some (.int .i64 hi)) (by kernel_rfl) (by kernel_rfl) ⟨c0, c1x, c2x, c3x⟩ ?_
        intro inv hS
        have hbD : Below wr.heap.size wr wr.drew := (Below.refl _ _).drew
        generalize wr.drew = V0 at *
        replace RE := Lib.hid (owns_below RE.out hbD)
        replace X := Lib.hid (X.out.below hbD)
        replace BL := Lib.hid (bC BL.out hbD)
        clear hbD
        clear c0
        have c0 : V0.cell? ⟨w1x.heap.size, 1, none⟩ = some (.slice a2 n2 c2) := by rw [X.out.cell]; rfl
        clear c1x
        have c1x : V0.cell? ⟨w.heap.size, 1, none⟩ = some (.slice (some ⟨b2, o2, none⟩) l.edges.length cap') := by rw [(HL1.out.below BL.out).cell]; rfl
        clear c2x
        have c2x : V0.cell? ⟨b2, o2 + k * 2, none⟩ = some (.int .i64 lo) := cellB hc2 BL.out
        clear c3x
        have c3x : V0.cell? ⟨b2, o2 + k * 2 + 1, none⟩ = some (.int .i64 hi) := cellB hc3 BL.out
        refine wpAnyT_take inv (by kernel_rfl) (by omega) (i := 0) (v := .pointer (some ⟨w1x.heap.size, 1, none⟩)) rfl (by kernel_rfl) (by kernel_rfl) (fun _ _ _ h => h) (Or.inl ⟨by kernel_rfl, ?_⟩) (by assumption) ?_
        · rintro W' ⟨s0, s1, s2, s3⟩
          go_simp
        intro inv2
        clear inv
        have inv := inv2
        clear inv2
        simp only [Act.put, List.setIfInBounds_toArray]
        refine wpAnyT_take inv (by kernel_rfl) (by omega) (i := 1) (v := .slice a2 n2 c2) rfl (by kernel_rfl) (by kernel_rfl) (fun _ _ _ h => h) (Or.inl ⟨by kernel_rfl, ?_⟩) (by assumption) ?_
        · rintro W' ⟨s0, s1, s2, s3⟩
          go_simp
        intro inv2
        clear inv
        have inv := inv2
        clear inv2
        simp only [Act.put]
        refine wpAnyT_take inv (by kernel_rfl) (by omega) (i := 2) (v := .pointer (some ⟨w.heap.size, 1, none⟩)) rfl (by kernel_rfl) (by kernel_rfl) (fun _ _ _ h => h) (Or.inl ⟨by kernel_rfl, ?_⟩) (by assumption) ?_
        · rintro W' ⟨s0, s1, s2, s3⟩
          go_simp
        intro inv2
        clear inv
        have inv := inv2
        clear inv2
        simp only [Act.put]
        refine wpAnyT_take inv (by kernel_rfl) (by omega) (i := 3) (v := .slice (some ⟨b2, o2, none⟩) l.edges.length cap') rfl (by kernel_rfl) (by kernel_rfl) (fun _ _ _ h => h) (Or.inl ⟨by kernel_rfl, ?_⟩) (by assumption) ?_
        · rintro W' ⟨s0, s1, s2, s3⟩
          go_simp
        intro inv2
        clear inv
        have inv := inv2
        clear inv2
        simp only [Act.put]
        refine wpAnyT_take inv (by kernel_rfl) (by omega) (i := 4) (v := .int .i64 (k : Int)) rfl (by kernel_rfl) (by kernel_rfl) (fun _ _ _ h => h) (Or.inl ⟨by kernel_rfl, ?_⟩) (by assumption) ?_
        · rintro W' ⟨s0, s1, s2, s3⟩
          go_simp
        intro inv2
        clear inv
        have inv := inv2
        clear inv2
        simp only [Act.put]
        refine wpAnyT_take inv (by kernel_rfl) (by omega) (i := 5) (v := .pointer (some ⟨b2, o2 + k * 2, none⟩)) rfl (by kernel_rfl) (by kernel_rfl) (fun _ _ _ h => h) (Or.inl ⟨by kernel_rfl, ?_⟩) (by assumption) ?_
        · rintro W' ⟨s0, s1, s2, s3⟩
          go_simp
        intro inv2
        clear inv
        have inv := inv2
        clear inv2
        simp only [Act.put]
        refine wpAnyT_take inv (by kernel_rfl) (by omega) (i := 6) (v := .pointer (some ⟨b2, o2 + k * 2, none⟩)) rfl (by kernel_rfl) (by kernel_rfl) (fun _ _ _ h => h) (Or.inl ⟨by kernel_rfl, ?_⟩) (by assumption) ?_
        · rintro W' ⟨s0, s1, s2, s3⟩
          go_simp
        intro inv2
        clear inv
        have inv := inv2
        clear inv2
        simp only [Act.put]
        refine wpAnyT_take inv (by kernel_rfl) (by omega) (i := 7) (v := .int .i64 (lo)) rfl (by kernel_rfl) (by kernel_rfl) (fun _ _ _ h => h) (Or.inl ⟨by kernel_rfl, ?_⟩) (by assumption) ?_
        · rintro W' ⟨s0, s1, s2, s3⟩
          go_simp
        intro inv2
        clear inv
        have inv := inv2
        clear inv2
        simp only [Act.put]
        refine wpAnyT_take inv (by kernel_rfl) (by omega) (i := 8) (v := .int .i64 (H + S * A)) rfl (by kernel_rfl) (by kernel_rfl) (fun _ _ _ h => h) (Or.inl ⟨by kernel_rfl, ?_⟩) (by assumption) ?_
        · rintro W' ⟨s0, s1, s2, s3⟩
          go_simp
        intro inv2
        clear inv
        have inv := inv2
        clear inv2
        simp only [Act.put]
        refine wpAnyT_take inv (by kernel_rfl) (by omega) (i := 9) (v := .int .i64 (lo + (H + S * A))) rfl (by kernel_rfl) (by kernel_rfl) (fun _ _ _ h => h) (Or.inl ⟨by kernel_rfl, ?_⟩) (by assumption) ?_
        · rintro W' ⟨s0, s1, s2, s3⟩
          go_simp
        intro inv2
        clear inv
        have inv := inv2
        clear inv2
        simp only [Act.put]
        refine wpAnyT_take inv (by kernel_rfl) (by omega) (i := 10) (v := .pointer (some ⟨w.heap.size, 1, none⟩)) rfl (by kernel_rfl) (by kernel_rfl) (fun _ _ _ h => h) (Or.inl ⟨by kernel_rfl, ?_⟩) (by assumption) ?_
        · rintro W' ⟨s0, s1, s2, s3⟩
          go_simp
        intro inv2
        clear inv
        have inv := inv2
        clear inv2
        simp only [Act.put]
        refine wpAnyT_take inv (by kernel_rfl) (by omega) (i := 11) (v := .slice (some ⟨b2, o2, none⟩) l.edges.length cap') rfl (by kernel_rfl) (by kernel_rfl) (fun _ _ _ h => h) (Or.inl ⟨by kernel_rfl, ?_⟩) (by assumption) ?_
        · rintro W' ⟨s0, s1, s2, s3⟩
          go_simp
        intro inv2
        clear inv
        have inv := inv2
        clear inv2
        simp only [Act.put]
        refine wpAnyT_take inv (by kernel_rfl) (by omega) (i := 12) (v := .int .i64 (k : Int)) rfl (by kernel_rfl) (by kernel_rfl) (fun _ _ _ h => h) (Or.inl ⟨by kernel_rfl, ?_⟩) (by assumption) ?_
        · rintro W' ⟨s0, s1, s2, s3⟩
          go_simp
        intro inv2
        clear inv
        have inv := inv2
        clear inv2
        simp only [Act.put]
        refine wpAnyT_take inv (by kernel_rfl) (by omega) (i := 13) (v := .pointer (some ⟨b2, o2 + k * 2, none⟩)) rfl (by kernel_rfl) (by kernel_rfl) (fun _ _ _ h => h) (Or.inl ⟨by kernel_rfl, ?_⟩) (by assumption) ?_
        · rintro W' ⟨s0, s1, s2, s3⟩
          go_simp
        intro inv2
        clear inv
        have inv := inv2
        clear inv2
        simp only [Act.put]
        refine wpAnyT_take inv (by kernel_rfl) (by omega) (i := 14) (v := .pointer (some ⟨b2, o2 + k * 2 + 1, none⟩)) rfl (by kernel_rfl) (by kernel_rfl) (fun _ _ _ h => h) (Or.inl ⟨by kernel_rfl, ?_⟩) (by assumption) ?_
        · rintro W' ⟨s0, s1, s2, s3⟩
          go_simp
        intro inv2
        clear inv
        have inv := inv2
        clear inv2
        simp only [Act.put]
        refine wpAnyT_take inv (by kernel_rfl) (by omega) (i := 15) (v := .int .i64 (hi)) rfl (by kernel_rfl) (by kernel_rfl) (fun _ _ _ h => h) (Or.inl ⟨by kernel_rfl, ?_⟩) (by assumption) ?_
        · rintro W' ⟨s0, s1, s2, s3⟩
          go_simp
        intro inv2
        clear inv
        have inv := inv2
        clear inv2
        simp only [Act.put]
        refine wpAnyT_take inv (by kernel_rfl) (by omega) (i := 16) (v := .int .i64 (H + S * A)) rfl (by kernel_rfl) (by kernel_rfl) (fun _ _ _ h => h) (Or.inl ⟨by kernel_rfl, ?_⟩) (by assumption) ?_
        · rintro W' ⟨s0, s1, s2, s3⟩
          go_simp
        intro inv2
        clear inv
        have inv := inv2
        clear inv2
        simp only [Act.put]
        refine wpAnyT_take inv (by kernel_rfl) (by omega) (i := 17) (v := .int .i64 (hi + (H + S * A))) rfl (by kernel_rfl) (by kernel_rfl) (fun _ _ _ h => h) (Or.inl ⟨by kernel_rfl, ?_⟩) (by assumption) ?_
        · rintro W' ⟨s0, s1, s2, s3⟩
          go_simp
        intro inv2
        clear inv
        have inv := inv2
        clear inv2
        simp only [Act.put]
        refine wpAnyT_ready [18] (by kernel_rfl) (by simp) ?_
        refine AllReadyT.cons rfl (fun K hK => ?_) AllReadyT.nil
        go_simp
        refine (to_any (lo + (H + S * A)) (hi + (H + S * A)) _).mono ?_
        rintro e V1 ⟨rfl, hbC⟩
        replace RE := Lib.hid (owns_below RE.out hbC)
        replace X := Lib.hid (X.out.below hbC)
        replace BL := Lib.hid (bC BL.out hbC)
        clear hbC
        clear c0
        have c0 : V1.cell? ⟨w1x.heap.size, 1, none⟩ = some (.slice a2 n2 c2) := by rw [X.out.cell]; rfl
        clear c1x
        have c1x : V1.cell? ⟨w.heap.size, 1, none⟩ = some (.slice (some ⟨b2, o2, none⟩) l.edges.length cap') := by rw [(HL1.out.below BL.out).cell]; rfl
        clear c2x
        have c2x : V1.cell? ⟨b2, o2 + k * 2, none⟩ = some (.int .i64 lo) := cellB hc2 BL.out
        clear c3x
        have c3x : V1.cell? ⟨b2, o2 + k * 2 + 1, none⟩ = some (.int .i64 hi) := cellB hc3 BL.out
        refine hK.out _ _ (fun _ => ⟨c0, c1x, c2x, c3x⟩) (fun _ => ?_)
        clear hK K
        try simp only [Act.put]
        refine wpAnyT_ready [19] (by kernel_rfl) (by simp) ?_
        refine AllReadyT.cons rfl (fun K hK => ?_) AllReadyT.nil
        go_simp
        have hbA := below1 V1 (.cells #[.int .i64 (lo + (H + S * A)), .int .i64 (hi + (H + S * A))] 69)
        have hn2 := (Blk.new V1 (.cells #[.int .i64 (lo + (H + S * A)), .int .i64 (hi + (H + S * A))] 69)).cell
        generalize V1.alloc (.cells #[.int .i64 (lo + (H + S * A)), .int .i64 (hi + (H + S * A))] 69) = V2 at *
        replace RE := Lib.hid (owns_below RE.out hbA)
        replace X := Lib.hid (X.out.below hbA)
        replace BL := Lib.hid (bC BL.out hbA)
        clear hbA
        clear c0
        have c0 : V2.cell? ⟨w1x.heap.size, 1, none⟩ = some (.slice a2 n2 c2) := by rw [X.out.cell]; rfl
        clear c1x
        have c1x : V2.cell? ⟨w.heap.size, 1, none⟩ = some (.slice (some ⟨b2, o2, none⟩) l.edges.length cap') := by rw [(HL1.out.below BL.out).cell]; rfl
        clear c2x
        have c2x : V2.cell? ⟨b2, o2 + k * 2, none⟩ = some (.int .i64 lo) := cellB hc2 BL.out
        clear c3x
        have c3x : V2.cell? ⟨b2, o2 + k * 2 + 1, none⟩ = some (.int .i64 hi) := cellB hc3 BL.out
        refine hK.out _ _ (fun _ => ⟨c0, c1x, c2x, c3x⟩) (fun _ => ?_)
        clear hK K
        try simp only [Act.put]
        refine wpAnyT_chain (fuel := 3) rfl (by kernel_rfl) ?_
        simp only [List.drop_succ_cons, List.drop_zero]
        have HN2 := Lib.hid (cells_pair (by rw [hn2 0]; rfl) (by rw [hn2 1]; rfl))
        clear hn2
        have hsz2 := BL.out.size
        refine wpList_append_own _ rfl _ _ 23 rfl w1x.heap.size 69 ir (.agg #[.int .i64 0, .int .i64 0]) 2 16 undR IR.out K0.out K1.out K2.out rfl (by decide) _ _ _ rfl RE.out ⟨V1.heap.size, 0, none⟩ 1 1 [.int .i64 (lo + (H + S * A)), .int .i64 (hi + (H + S * A))] rfl rfl HN2.out (by intro u hu; simp only [List.mem_cons, List.not_mem_nil, or_false] at hu; rcases hu with rfl | rfl <;> rfl) (by unfold maxLen; omega) (by omega) (by omega) ?_
        intro v2 V3 own gr _
        replace X := Lib.hid (X.out.grown RE.out (by decide) gr)
        replace BL := Lib.hid (below_owns RE.out gr BL.out hsz2)
        replace RE := Lib.hid own
        clear own gr HN2 hsz2
        clear c0
        have c0 : V3.cell? ⟨w1x.heap.size, 1, none⟩ = some (.slice a2 n2 c2) := by rw [X.out.cell]; rfl
        clear c1x
        have c1x : V3.cell? ⟨w.heap.size, 1, none⟩ = some (.slice (some ⟨b2, o2, none⟩) l.edges.length cap') := by rw [(HL1.out.below BL.out).cell]; rfl
        clear c2x
        have c2x : V3.cell? ⟨b2, o2 + k * 2, none⟩ = some (.int .i64 lo) := cellB hc2 BL.out
        clear c3x
        have c3x : V3.cell? ⟨b2, o2 + k * 2 + 1, none⟩ = some (.int .i64 hi) := cellB hc3 BL.out
        clear hS inv c0 c1x c2x c3x
        obtain ⟨a4, n4, c4, rfl⟩ := (Row.of_owns RE.out).slice
        have x1 := X.out.cell 1
        have z1 := X.out.frozen 1
        have xl := X.out.lt
        simp at x1
        have U := (X.out.set (j := 1) (.slice a4 n4 c4))
        simp only [List.setIfInBounds_toArray, List.set_cons_zero, List.set_cons_succ] at U
        replace RE := Lib.hid (owns_set RE.out X.out (by decide) 1 (.slice a4 n4 c4))
        replace BL := Lib.hid (BL.out.setCell (p := ⟨w1x.heap.size, 1, none⟩) (Nat.le_refl _) (.slice a4 n4 c4))
        replace X := Lib.hid U
        clear U
        go_wp2
        go_roundw
        case rel =>
          refine ⟨k + 1, .slice a4 n4 c4, by go_num, by omega, ?_, X.out, BL.out⟩
          rw [upto_snoc, pairCells_snoc, HG.out]
          exact RE.out
        case measure => simp [intOf]; omega
      · obtain rfl : k = l.at_.length := by omega
        have HX0 : Hid (LogAt wr (.agg #[.slice a l.at_.length cap, .slice a2 n2 c2]) (movD l H S)) := Lib.hid ⟨_, _, rfl, (HI.out.below HB1.out).below BL.out, by
            have := Row.pairs (l := upto (movG l H S) l.at_.length) (by rw [upto_len]; exact Row.of_owns RE.out)
            exact this⟩
        have HV0 := Lib.hid ((HV.out.below HB1.out).below BL.out)
        have HNW := Lib.hid ((HN.out.below HB1.out).below BL.out)
        have HW := Lib.hid (bC HB1.out BL.out)
        have HL0 := Lib.hid (HL1.out.below BL.out)
        have HX1 := X
        have HB0 := Lib.hid (Below.refl wr.heap.size wr)
        have htt : decide ((l.at_.length : Int) < (l.at_.length : Int)) = false := by simp
        clear X RE BL HL1 HB1 hx0 HLB
        by_cases h1 : logErr (movD l H S) = 0
        · have HF1 : Hid (∀ W, LogAt W (.agg #[.slice a l.at_.length cap, .slice a2 n2 c2]) (movD l H S) → Calls Tryd.prog 41 #[(.agg #[.slice a l.at_.length cap, .slice a2 n2 c2])] W (Gets (.bool true) W)) := Lib.hid (fun W h => by have := fine_any _ _ W h; rw [decide_eq_true h1] at this; exact this)
          have hf := HFIT.out
          have h0 := HE0.out
          have hf' := logErr_fit' h1
          have hS0 : l.small := by unfold LogD.small; have := hf.eight; have := hf.lens _ (List.mem_singleton.2 rfl); omega
          obtain ⟨n, hn⟩ : ∃ n, (bestV l).num = n := ⟨_, rfl⟩
          obtain ⟨d, hd⟩ : ∃ d, ((bestV l).den : Int) = d := ⟨_, rfl⟩
          have HBG : Hid (∀ W, NoneAt W → LogAt W (.agg #[.slice a l.at_.length cap, .slice a' l.edges.length cap']) l → Calls Tryd.prog 42 #[(.agg #[.slice a l.at_.length cap, .slice a' l.edges.length cap'])] W (Gets (.tuple #[.agg #[.int .i64 n, .int .i64 d], .bool true]) W)) := Lib.hid (fun W hN h => by have := best_good _ l W hN h h0; rw [qv, hn, hd] at this; exact this)
          have HBX : Hid (∀ W, NoneAt W → LogAt W (.agg #[.slice a l.at_.length cap, .slice a2 n2 c2]) (movD l H S) → Calls Tryd.prog 42 #[(.agg #[.slice a l.at_.length cap, .slice a2 n2 c2])] W (Gets (.tuple #[.agg #[.int .i64 n, .int .i64 d], .bool true]) W)) := Lib.hid (fun W hN h => by have := best_good _ _ W hN h h1; rw [← mov_best hf hf', qv, hn, hd] at this; exact this)
          obtain ⟨⟨y1, y2, y3⟩, hy⟩ : ∃ y, lineD (lineX l) = y := ⟨_, rfl⟩
          have lv0 := line_valid hf
          have lb0 := line_best hf
          rw [hy] at lv0 lb0
          simp only at lv0 lb0
          have lo0 := lineErr_zero lv0
          have HLI : Hid (∀ W, LogAt W (.agg #[.slice a l.at_.length cap, .slice a' l.edges.length cap']) l → Calls Tryd.prog 28 #[(.agg #[.slice a l.at_.length cap, .slice a' l.edges.length cap'])] W (Gets (.tuple #[.agg #[.int .i64 y1, .int .i64 y2, .int .i64 y3], .int .i64 0]) W)) := Lib.hid (fun W h => by have := Line_any _ l W h hS0; rw [h0, hy, le, if_pos rfl, lv] at this; exact this)
          have d1 := lo0.d1
          have d2 := lo0.d2
          have s1 := lo0.s1
          have s2 := lo0.s2
          have s3 := lo0.t1
          have s4 := lo0.t2
          have bH := BH.out
          have bS := BS.out
          have p1 := mul_bd H y1 500 100000 (by omega) (by omega) (by omega) (by omega) (by decide)
          have p2 := mul_bd S y1 10 100000 (by omega) (by omega) (by omega) (by omega) (by decide)
          rw [Int.mul_comm H y1] at p1
          rw [Int.mul_comm S y1] at p2
          have x1 : IntKind.i64.wrap (y1 * H) = y1 * H := IntWalk.i64_in _ (by omega)
          have x2 : IntKind.i64.wrap (y2 + y1 * H) = y2 + y1 * H := IntWalk.i64_in _ (by omega)
          have x3 : IntKind.i64.wrap (y1 * S) = y1 * S := IntWalk.i64_in _ (by omega)
          have x4 : IntKind.i64.wrap (y3 + y1 * S) = y3 + y1 * S := IntWalk.i64_in _ (by omega)
          have HMC := Lib.hid (mov_core hf hf' (den := y1) (start := y2) (step := y3) (by omega))
          obtain ⟨u2, hu2⟩ : ∃ u2, y2 + y1 * H = u2 := ⟨_, rfl⟩
          obtain ⟨u3, hu3⟩ : ∃ u3, y3 + y1 * S = u3 := ⟨_, rfl⟩
          have HCL : Hid (∀ W, Calls Tryd.prog 25 #[.agg #[.int .i64 y1, .int .i64 u2, .int .i64 u3]] W (Gets (.int .i64 (lineErr y1 u2 u3)) W)) := Lib.hid (fun W => rCheckLine_any y1 u2 u3 W)
          have HCO : Hid (lineErr y1 u2 u3 = 0 → ∀ W, LogAt W (.agg #[.slice a l.at_.length cap, .slice a2 n2 c2]) (movD l H S) → Calls Tryd.prog 50 #[(.agg #[.slice a l.at_.length cap, .slice a2 n2 c2]), .agg #[.int .i64 y1, .int .i64 u2, .int .i64 u3]] W (Gets (.agg #[.int .i64 n, .int .i64 d]) W)) := Lib.hid (fun hl W h => by
            have := rCoreOf_any _ _ y1 u2 u3 W h hf' (lineErr_zero hl)
            rw [← hu2, ← hu3, HMC.out, lb0, qv, hn, hd] at this
            rw [← hu2, ← hu3]
            exact this)
          rw [hu2] at x2
          rw [hu3] at x4
          have hH := EH.out
          have hS := ES.out
          have heq := fun w => pair_eq n d w
          clear hf h0 hf' hS0 hn hd hy lv0 lb0 lo0 d1 d2 s1 s2 s3 s4 bH bS p1 p2 h1
          have x0 := HX1.out.cell 0
          have x1' := HX1.out.cell 1
          simp at x0 x1'
          have xl := HX1.out.lt
          go_wp2_with fail
          clear m0 m1 ml x0 x1' xl
          have HVX := HX0
          clear HX0
          have HX0 := HX1
          clear HX1
          refine (HF1.out _ (HVX.out.below HB0.out)).mono ?_
          rintro e w1x ⟨rfl, hb⟩
          have HB1 := Lib.hid (bC HB0.out hb)
          have HL1 := Lib.hid (HL0.out.below hb)
          have HX1 := Lib.hid (HX0.out.below hb)
          clear hb HB0 HL0 HX0
          have Lc0 := HL1.out.cell 0
          have Lc1 := HL1.out.cell 1
          simp at Lc0 Lc1
          have Ll := HL1.out.lt
          go_wp2_with fail
          clear Lc0 Lc1 Ll
          refine (HBG.out _ (HNW.out.below HB1.out) (HV0.out.below HB1.out)).mono ?_
          rintro e w2x ⟨rfl, hb⟩
          have HB2 := Lib.hid (bC HB1.out hb)
          have HL2 := Lib.hid (HL1.out.below hb)
          have HX2 := Lib.hid (HX1.out.below hb)
          clear hb HB1 HL1 HX1
          have Xc0 := HX2.out.cell 0
          have Xc1 := HX2.out.cell 1
          simp at Xc0 Xc1
          have Xl := HX2.out.lt
          go_wp2_with fail
          clear Xc0 Xc1 Xl
          have hP := Blk.new w2x (.cells #[.int .i64 n, .int .i64 d] 31)
          have hA := below1 w2x (.cells #[.int .i64 n, .int .i64 d] 31)
          generalize w2x.alloc (.cells #[.int .i64 n, .int .i64 d] 31) = W2x at *
          have HP3 := Lib.hid hP
          clear hP
          have HB3 := Lib.hid (bC HB2.out hA)
          have HL3 := Lib.hid (HL2.out.below hA)
          have HX3 := Lib.hid (HX2.out.below hA)
          clear hA HB2 HL2 HX2
          refine (HBX.out _ (HNW.out.below HB3.out) (HVX.out.below HB3.out)).mono ?_
          rintro e w4x ⟨rfl, hb⟩
          have HB4 := Lib.hid (bC HB3.out hb)
          have HL4 := Lib.hid (HL3.out.below hb)
          have HX4 := Lib.hid (HX3.out.below hb)
          have HP4 := Lib.hid (HP3.out.below hb)
          clear hb HB3 HL3 HX3 HP3
          have Lc0 := HL4.out.cell 0
          have Lc1 := HL4.out.cell 1
          simp at Lc0 Lc1
          have Ll := HL4.out.lt
          go_wp2_with fail
          clear Lc0 Lc1 Ll
          have hQ := Blk.new w4x (.cells #[.int .i64 n, .int .i64 d] 31)
          have hA := below1 w4x (.cells #[.int .i64 n, .int .i64 d] 31)
          generalize w4x.alloc (.cells #[.int .i64 n, .int .i64 d] 31) = W4x at *
          have HQ5 := Lib.hid hQ
          clear hQ
          have HB5 := Lib.hid (bC HB4.out hA)
          have HL5 := Lib.hid (HL4.out.below hA)
          have HX5 := Lib.hid (HX4.out.below hA)
          have HP5 := Lib.hid (HP4.out.below hA)
          clear hA HB4 HL4 HX4 HP4
          refine (HLI.out _ (HV0.out.below HB5.out)).mono ?_
          rintro e w8x ⟨rfl, hb⟩
          have HB6 := Lib.hid (bC HB5.out hb)
          have HL6 := Lib.hid (HL5.out.below hb)
          have HX6 := Lib.hid (HX5.out.below hb)
          have HP6 := Lib.hid (HP5.out.below hb)
          have HQ6 := Lib.hid (HQ5.out.below hb)
          clear hb HB5 HL5 HX5 HP5 HQ5
          have Pc0 := HP6.out.cell 0
          have Pc1 := HP6.out.cell 1
          have Qc0 := HQ6.out.cell 0
          have Qc1 := HQ6.out.cell 1
          simp at Pc0 Pc1 Qc0 Qc1
          have Pl := HP6.out.lt
          have Ql := HQ6.out.lt
          go_wp2_with fail
          clear Pc0 Pc1 Qc0 Qc1 Pl Ql hu2 hu3 hH hS
          have hY := Blk.new w8x (.cells #[.int .i64 y1, .int .i64 u2, .int .i64 u3] 27)
          have hA := below1 w8x (.cells #[.int .i64 y1, .int .i64 u2, .int .i64 u3] 27)
          generalize w8x.alloc (.cells #[.int .i64 y1, .int .i64 u2, .int .i64 u3] 27) = w9x at *
          have HY7 := Lib.hid hY
          clear hY
          have HB7 := Lib.hid (bC HB6.out hA)
          have HL7 := Lib.hid (HL6.out.below hA)
          have HX7 := Lib.hid (HX6.out.below hA)
          have HP7 := Lib.hid (HP6.out.below hA)
          have HQ7 := Lib.hid (HQ6.out.below hA)
          clear hA HB6 HL6 HX6 HP6 HQ6
          have e0 := HP7.out.cell 0
          have e1 := HP7.out.cell 1
          have e2 := HX7.out.cell 0
          have e3 := HX7.out.cell 1
          have e4 := HY7.out.cell 0
          have e5 := HY7.out.cell 1
          have e6 := HY7.out.cell 2
          simp at e0 e1 e2 e3 e4 e5 e6
          have g0 := fun d os => cell_regrown e0 d os
          have g1 := fun d os => cell_regrown e1 d os
          have g2 := fun d os => cell_regrown e2 d os
          have g3 := fun d os => cell_regrown e3 d os
          have g4 := fun d os => cell_regrown e4 d os
          have g5 := fun d os => cell_regrown e5 d os
          have g6 := fun d os => cell_regrown e6 d os
          have hkC := fun (dr : Nat) (os : Array Obj) => Calls.regrown_of (HCL.out (grow (redrawn w9x dr) os))
          have HVY := Lib.hid (HVX.out.below HB7.out)
          clear e0 e1 e2 e3 e4 e5 e6
          by_cases hle : lineErr y1 u2 u3 = 0
          · have hkO := fun (dr : Nat) (os : Array Obj) => Calls.regrown_of (HCO.out hle (grow (redrawn w9x dr) os) (HVY.out.below (below_regrown w9x dr os)))
            rw [hle] at hkC
            clear hle
            refine wp_region_tail 11 (by kernel_rfl) (by kernel_rfl) ?_
            repeat (quiet_step (first | (go_at_call 25; exact hkC _ _) | (go_at_call 50; exact hkO _ _)))
            refine wpQuiet_nil ?_
            intro _ hw'
            obtain ⟨⟨dq, osq⟩, hw''⟩ := hw'
            subst hw''
            simp only [List.drop_succ_cons, List.drop_zero]
            have HBF := Lib.hid (bC HB7.out (below_regrown w9x dq osq))
            clear g0 g1 g2 g3 g4 g5 g6 hkC hkO heq
            generalize grow (redrawn w9x dq) osq = w10x at *
            go_wp2_with fail
            refine (Works_any _ (HNW.out.below HBF.out)).mono ?_
            rintro e w11x ⟨rfl, hb⟩
            have HBG2 := Lib.hid (bC HBF.out hb)
            go_wp2_with fail
            go_ret
            exact ⟨rfl, bC HW.out HBG2.out⟩
          · obtain ⟨er, her⟩ : ∃ er, lineErr y1 u2 u3 = er := ⟨_, rfl⟩
            rw [her] at hkC hle
            have hne : (er != 0) = true := by simp [hle]
            clear hle her
            refine wp_region_tail 11 (by kernel_rfl) (by kernel_rfl) ?_
            repeat (quiet_step ((go_at_call 25; exact hkC _ _)))
            refine wpQuiet_nil ?_
            intro _ hw'
            obtain ⟨⟨dq, osq⟩, hw''⟩ := hw'
            subst hw''
            simp only [List.drop_succ_cons, List.drop_zero]
            have HBF := Lib.hid (bC HB7.out (below_regrown w9x dq osq))
            clear g0 g1 g2 g3 g4 g5 g6 hkC  heq
            generalize grow (redrawn w9x dq) osq = w10x at *
            go_wp2_with fail
            refine (Works_any _ (HNW.out.below HBF.out)).mono ?_
            rintro e w11x ⟨rfl, hb⟩
            have HBG2 := Lib.hid (bC HBF.out hb)
            go_wp2_with fail
            go_ret
            exact ⟨rfl, bC HW.out HBG2.out⟩
        · have HF1 : Hid (∀ W, LogAt W (.agg #[.slice a l.at_.length cap, .slice a2 n2 c2]) (movD l H S) → Calls Tryd.prog 41 #[(.agg #[.slice a l.at_.length cap, .slice a2 n2 c2])] W (Gets (.bool false) W)) := Lib.hid (fun W h => by have := fine_any _ _ W h; rw [decide_eq_false h1] at this; exact this)
          have x0 := HX1.out.cell 0
          have x1 := HX1.out.cell 1
          simp at x0 x1
          have xl := HX1.out.lt
          clear h1
          go_wp2_with fail
          clear m0 m1 ml x0 x1 xl
          refine (HF1.out _ HX0.out).mono ?_
          rintro e v1x ⟨rfl, hb⟩
          have HB1 := Lib.hid (bC HB0.out hb)
          go_wp2_with fail
          refine (Works_any _ (HNW.out.below HB1.out)).mono ?_
          rintro e v2x ⟨rfl, hb2⟩
          have HB2 := Lib.hid (bC HB1.out hb2)
          go_wp2_with fail
          go_ret
          exact ⟨rfl, bC HW.out HB2.out⟩
  · have HF : Hid (∀ W, LogAt W (.agg #[.slice a l.at_.length cap, .slice a' l.edges.length cap']) l → Calls Tryd.prog 41 #[(.agg #[.slice a l.at_.length cap, .slice a' l.edges.length cap'])] W (Gets (.bool false) W)) := Lib.hid (fun W h => by have := fine_any _ l W h; rw [decide_eq_false h0] at this; exact this)
    clear h0 g1
    go_enter Tryd.func12, Tryd.ntmps12
    go_wp2_with fail
    refine (HF.out _ (HV.out.below HB0.out)).mono ?_
    rintro e w1x ⟨rfl, hb⟩
    have HB1 := Lib.hid (bC HB0.out hb)
    have HL1 := Lib.hid (HL0.out.below hb)
    clear hb HB0 HL0
    go_wp2_with fail
    refine (Works_any _ (HN.out.below HB1.out)).mono ?_
    rintro e w2x ⟨rfl, hb⟩
    have HB2 := Lib.hid (bC HB1.out hb)
    have HL2 := Lib.hid (HL1.out.below hb)
    clear hb HB1 HL1
    go_wp2_with fail
    go_ret
    exact ⟨rfl, HB2.out⟩
end Go.Proofs.YtkggjpdjjnnhaaaDoor
