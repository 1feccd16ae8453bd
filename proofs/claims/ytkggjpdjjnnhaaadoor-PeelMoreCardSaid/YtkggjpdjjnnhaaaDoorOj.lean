import Derived.Test.YtkggjpdjjnnhaaaDoorOq
namespace Go.Proofs.YtkggjpdjjnnhaaaDoor
open Go.RowKit Go.Shelf Go.Sort
attribute [local go_sem] Oper.semAt_some

/-! ## The law PeelMore -/
set_option maxRecDepth 1000000 in
set_option maxHeartbeats 40000000 in
theorem PeelMore_any (v : Value) (l : LogD) (wh D : Int) (w : World) (hN : NoneAt w) (hv : LogAt w v l)
    (g1 : 0 ≤ wh ∧ wh ≤ 255) (g2 : 0 ≤ D ∧ D ≤ 255) :
    Calls Tryd.prog 14 #[v, .int .u8 wh, .int .u8 D] w fun e w' => e = .returned (.bool true) ∧ Below w.heap.size w w' := by
  obtain ⟨va, ve, rfl, h1, h2⟩ := hv
  obtain ⟨a, cap, rfl⟩ := h1.slice
  obtain ⟨a', cap', rfl⟩ := h2.slice
  have HV : Hid (LogAt w (.agg #[.slice a l.at_.length cap, .slice a' l.edges.length cap']) l) := Lib.hid ⟨_, _, rfl, h1, h2⟩
  have HI := Lib.hid h1
  have HP := Lib.hid h2
  have HN := Lib.hid hN
  clear h1 h2 hN
  have hL := Blk.new w (.cells #[.slice a l.at_.length cap, .slice a' l.edges.length cap'] 25)
  have hB0 := below1 w (.cells #[.slice a l.at_.length cap, .slice a' l.edges.length cap'] 25)
  have HL0 := Lib.hid hL
  have HB0 := Lib.hid hB0
  clear hB0 hL
  by_cases h0 : logErr l = 0
  · have HF : Hid (∀ W, LogAt W (.agg #[.slice a l.at_.length cap, .slice a' l.edges.length cap']) l → Calls Tryd.prog 41 #[(.agg #[.slice a l.at_.length cap, .slice a' l.edges.length cap'])] W (Gets (.bool true) W)) := Lib.hid (fun W h => by have := fine_any _ l W h; rw [decide_eq_true h0] at this; exact this)
    have hf := logErr_fit' h0
    have hlen := hf.lens _ (List.mem_singleton.2 rfl)
    have hlen8 := hf.eight
    have hlen2 := hf.two
    have HFIT := Lib.hid hf
    have HE0 := Lib.hid h0
    have bi := tmodN wh (l.at_.length : Int) g1.1 (by omega)
    obtain ⟨iN, hiN⟩ : ∃ iN : Nat, wh.tmod (l.at_.length : Int) = (iN : Int) := ⟨(wh.tmod (l.at_.length : Int)).toNat, (Int.toNat_of_nonneg bi.1).symm⟩
    rw [hiN] at bi
    have hz : ((l.at_.length : Int) == 0) = false := by rw [beq_eq_false_iff_ne]; omega
    have hz' : ¬ (l.at_.length : Int) = 0 := by omega
    have rw1 : IntKind.i64.wrap wh = wh := IntWalk.i64_in _ (by omega)
    have rw2 : IntKind.i64.wrap (iN : Int) = (iN : Int) := IntWalk.i64_in _ (by omega)
    have rw3 : IntKind.i64.wrap D = D := IntWalk.i64_in _ (by omega)
    obtain ⟨n, hn⟩ : ∃ n, (bestV l).num = n := ⟨_, rfl⟩
    obtain ⟨d, hd⟩ : ∃ d, ((bestV l).den : Int) = d := ⟨_, rfl⟩
    obtain ⟨ir, hir, hk0, hk1, hk2⟩ := info_parts infoR
    obtain ⟨ii, hii, hj0, hj1, hj2⟩ := info_parts infoI
    have IR := Lib.hid hir
    have K0 := Lib.hid hk0
    have K1 := Lib.hid hk1
    have K2 := Lib.hid hk2
    have II := Lib.hid hii
    have J0 := Lib.hid hj0
    have J1 := Lib.hid hj1
    have J2 := Lib.hid hj2
    have BD := Lib.hid g2
    have HLEN := Lib.hid hlen
    have HL8 := Lib.hid (And.intro hlen2 hlen8)
    have HNN := Lib.hid hn
    have HDD := Lib.hid hd
    have HBG : Hid (∀ W, NoneAt W → LogAt W (.agg #[.slice a l.at_.length cap, .slice a' l.edges.length cap']) l → Calls Tryd.prog 42 #[(.agg #[.slice a l.at_.length cap, .slice a' l.edges.length cap'])] W (Gets (.tuple #[.agg #[.int .i64 n, .int .i64 d], .bool true]) W)) := Lib.hid (fun W hN h => by have := best_good _ l W hN h h0; rw [qv, hn, hd] at this; exact this)
    clear hir hk0 hk1 hk2 hii hj0 hj1 hj2 hlen hlen8 hlen2 hf h0 g1 g2 bi hn hd
    go_enter Tryd.func14, Tryd.ntmps14
    go_wp2_with fail
    refine (HF.out _ (HV.out.below HB0.out)).mono ?_
    rintro e w1x ⟨rfl, hb⟩
    have HB1 := Lib.hid (bC HB0.out hb)
    have HL1 := Lib.hid (HL0.out.below hb)
    clear hb HB0 HL0
    have Lc0 := HL1.out.cell 0
    have Lc1 := HL1.out.cell 1
    simp at Lc0 Lc1
    have Ll := HL1.out.lt
    go_wp2_with fail
    clear Lc0 Lc1 Ll
    refine (HBG.out _ (HN.out.below HB1.out) (HV.out.below HB1.out)).mono ?_
    rintro e w2x ⟨rfl, hb⟩
    have HB2 := Lib.hid (bC HB1.out hb)
    have HL2 := Lib.hid (HL1.out.below hb)
    clear hb HB1 HL1
    have Lc0 := HL2.out.cell 0
    have Lc1 := HL2.out.cell 1
    simp at Lc0 Lc1
    have Ll := HL2.out.lt
    go_wp2_with fail
    clear Lc0 Lc1 Ll hz hz' hiN rw1 rw2 rw3
    have hI1 := HI.out.below HB2.out
    have hP1 := HP.out.below HB2.out
    have HIA := Lib.hid (IntsAt.at (w := w2x) (a := a) (n := l.at_.length) (cap := cap) hI1).2
    have HPA := Lib.hid (PairsAt.at (w := w2x) (a := a') (n := l.edges.length) (cap := cap') hP1).2
    clear hI1 hP1
    go_loopw [13] (fun i wr => ∃ (k q : Nat) (ve vya vye : Value), i = .int .i64 (k : Int) ∧ k ≤ l.at_.length ∧ q ≤ k ∧ wr.ownsRow w2x.heap.size 69 2 ve k (pairCells (upto (widG l D) k)) ∧ wr.ownsRow w2x.heap.size 2 1 vya q ((but (atD l) iN k).map (Value.int .i64)) ∧ wr.ownsRow w2x.heap.size 69 2 vye q (pairCells (but (fun k => (loD l k, hiD l k)) iN k)) ∧ Apart ve vye ∧ Blk wr w2x.heap.size (.cells #[.int .i64 n, .int .i64 d] 31) ∧ Blk wr (w2x.heap.size + 1) (.cells #[.slice a l.at_.length cap, ve] 25) ∧ Blk wr (w2x.heap.size + 1 + 1) (.cells #[vya, vye] 25) ∧ Below w2x.heap.size w2x wr) (fun i _ => l.at_.length - (intOf i).toNat)
    case atStart =>
      have p1 := ((Blk.new w2x (.cells #[.int .i64 n, .int .i64 d] 31)).alloc (.cells #[.slice a l.at_.length cap, .slice none 0 0] 25)).alloc (.cells #[.slice none 0 0, .slice none 0 0] 25)
      have p2 := (Blk.new (w2x.alloc (.cells #[.int .i64 n, .int .i64 d] 31)) (.cells #[.slice a l.at_.length cap, .slice none 0 0] 25)).alloc (.cells #[.slice none 0 0, .slice none 0 0] 25)
      have p3 := Blk.new ((w2x.alloc (.cells #[.int .i64 n, .int .i64 d] 31)).alloc (.cells #[.slice a l.at_.length cap, .slice none 0 0] 25)) (.cells #[.slice none 0 0, .slice none 0 0] 25)
      simp only [World.size_alloc] at p2 p3
      exact ⟨0, 0, .slice none 0 0, .slice none 0 0, .slice none 0 0, rfl, Nat.zero_le _, Nat.le_refl _, ⟨rfl, .inl ⟨rfl, rfl⟩⟩, ⟨rfl, .inl ⟨rfl, rfl⟩⟩, ⟨rfl, .inl ⟨rfl, rfl⟩⟩, Apart.nil, p1, p2, p3, below3 _ _ _ _⟩
    case round =>
      rename_i wr
      obtain ⟨k, q, ve, vya, vye, rfl, hk, hq, hre, hya, hye, hap, hP0, hX, hY, hB⟩ := hrel
      obtain ⟨a2, n2, c2, rfl⟩ := (Row.of_owns hre).slice
      obtain ⟨a5, n5, c5, rfl⟩ := (Row.of_owns hya).slice
      obtain ⟨a6, n6, c6, rfl⟩ := (Row.of_owns hye).slice
      have RE := Lib.hid hre
      have RYA := Lib.hid hya
      have RYE := Lib.hid hye
      have AP_RE_RYE := hap
      have P := Lib.hid hP0
      have X := Lib.hid hX
      have Y := Lib.hid hY
      have BL := Lib.hid hB
      have hx0 : w2x.heap.size + 1 + 1 < wr.heap.size := hY.lt
      have hl8 := HL8.out
      have hL := HL2.out.below hB
      have m0 := hL.cell 0
      have m1 := hL.cell 1
      simp at m0 m1
      have ml := hL.lt
      have rk1 : IntKind.i64.wrap ((k : Int) + 1) = (k : Int) + 1 := IntWalk.i64_in _ (by omega)
      clear hre hya hye hap hP0 hX hY hB hL
      by_cases hlt : k < l.at_.length
      · have hle : k < l.edges.length := by have := HLEN.out; omega
        obtain ⟨b1, o1, rfl, hc1⟩ := HIA.out k hlt
        obtain ⟨b2, o2, rfl, hc2, hc3⟩ := HPA.out k hle
        rw [atD_eq hlt] at hc1
        rw [loD_eq hle] at hc2
        rw [hiD_eq hle] at hc3
        have hpt := log_pt HFIT.out hlt
        obtain ⟨A, hA⟩ : ∃ A, atD l k = A := ⟨_, rfl⟩
        obtain ⟨lo, hlo⟩ : ∃ lo, loD l k = lo := ⟨_, rfl⟩
        obtain ⟨hi, hhi⟩ : ∃ hi, hiD l k = hi := ⟨_, rfl⟩
        rw [hA] at hc1
        rw [hlo] at hc2
        rw [hhi] at hc3
        rw [hA, hlo, hhi] at hpt
        obtain ⟨MX, hMX⟩ : ∃ MX, max (-1000) (lo - D) = MX := ⟨_, rfl⟩
        obtain ⟨D2, hD2⟩ : ∃ D2, D.tdiv 2 = D2 := ⟨_, rfl⟩
        obtain ⟨MN, hMN⟩ : ∃ MN, min 1000 (hi + D2) = MN := ⟨_, rfl⟩
        have HG := Lib.hid (show widG l D k = (MX, MN) by simp only [widG, hlo, hhi, hD2, hMX, hMN])
        have HAA := Lib.hid hA
        have HLH := Lib.hid (show (loD l k, hiD l k) = (lo, hi) by rw [hlo, hhi])
        have bD := BD.out
        have bD2 : 0 ≤ D2 ∧ D2 ≤ 255 := by rw [← hD2, Int.tdiv_eq_ediv_of_nonneg bD.1]; omega
        have hmx : ∀ (ts : Array TypeId) (t : TypeId) (w : World), (Builtin.max_ ts t #[.int .i64 (-1000), .int .i64 (lo - D)]).run Tryd.prog w = .ok (.int .i64 MX) w := fun ts t w => by rw [run_max_w, hMX]
        have hmn : ∀ (ts : Array TypeId) (t : TypeId) (w : World), (Builtin.min_ ts t #[.int .i64 1000, .int .i64 (hi + D2)]).run Tryd.prog w = .ok (.int .i64 MN) w := fun ts t w => by rw [run_min_w, hMN]
        have y1 : IntKind.i64.wrap (lo - D) = lo - D := IntWalk.i64_in _ (by omega)
        have y2 : IntKind.i64.wrap D2 = D2 := IntWalk.i64_in _ (by omega)
        have y3 : IntKind.i64.wrap (hi + D2) = hi + D2 := IntWalk.i64_in _ (by omega)
        clear hA hlo hhi hMX hMN bD bD2 hpt
        go_wp2_with fail
        clear m0 m1 ml
        have c0 : wr.cell? ⟨w2x.heap.size + 1, 1, none⟩ = some (.slice a2 n2 c2) := by rw [X.out.cell]; rfl
        have c1x : wr.cell? ⟨w.heap.size, 1, none⟩ = some (.slice (some ⟨b2, o2, none⟩) l.edges.length cap') := by rw [(HL2.out.below BL.out).cell]; rfl
        have c2x : wr.cell? ⟨b2, o2 + k * 2, none⟩ = some (.int .i64 lo) := cellB hc2 BL.out
        have c3x : wr.cell? ⟨b2, o2 + k * 2 + 1, none⟩ = some (.int .i64 hi) := cellB hc3 BL.out
        refine wp_region_T 24 (fun W' => W'.cell? ⟨w2x.heap.size + 1, 1, none⟩ = some (.slice a2 n2 c2) ∧ W'.cell? ⟨w.heap.size, 1, none⟩ = some (.slice (some ⟨b2, o2, none⟩) l.edges.length cap') ∧ W'.cell? ⟨b2, o2 + k * 2, none⟩ = some (.int .i64 lo) ∧ W'.cell? ⟨b2, o2 + k * 2 + 1, none⟩ = some (.int .i64 hi)) (by kernel_rfl) (by kernel_rfl) ⟨c0, c1x, c2x, c3x⟩ ?_
        intro inv hS
        have hbD : Below wr.heap.size wr wr.drew := (Below.refl _ _).drew
        generalize wr.drew = V0 at *
        replace RE := Lib.hid (owns_below RE.out hbD)
        replace RYA := Lib.hid (owns_below RYA.out hbD)
        replace RYE := Lib.hid (owns_below RYE.out hbD)
        replace P := Lib.hid (P.out.below hbD)
        replace X := Lib.hid (X.out.below hbD)
        replace Y := Lib.hid (Y.out.below hbD)
        replace BL := Lib.hid (bC BL.out hbD)
        clear hbD
        clear c0
        have c0 : V0.cell? ⟨w2x.heap.size + 1, 1, none⟩ = some (.slice a2 n2 c2) := by rw [X.out.cell]; rfl
        clear c1x
        have c1x : V0.cell? ⟨w.heap.size, 1, none⟩ = some (.slice (some ⟨b2, o2, none⟩) l.edges.length cap') := by rw [(HL2.out.below BL.out).cell]; rfl
        clear c2x
        have c2x : V0.cell? ⟨b2, o2 + k * 2, none⟩ = some (.int .i64 lo) := cellB hc2 BL.out
        clear c3x
        have c3x : V0.cell? ⟨b2, o2 + k * 2 + 1, none⟩ = some (.int .i64 hi) := cellB hc3 BL.out
        refine wpAnyT_take inv (by kernel_rfl) (by omega) (i := 0) (v := .pointer (some ⟨w2x.heap.size + 1, 1, none⟩)) rfl (by kernel_rfl) (by kernel_rfl) (fun _ _ _ h => h) (Or.inl ⟨by kernel_rfl, ?_⟩) (by assumption) ?_
        · rintro W' ⟨s0, s1, s2, s3⟩
          go_simp
        intro inv2
        clear inv
        have inv := inv2
        clear inv2
        simp only [Act.put, List.setIfInBounds_toArray]
        refine wpAnyT_take inv (by kernel_rfl) (by omega) (i := 1) (v := .slice a2 n2 c2) rfl (by kernel_rfl) (by kernel_rfl) (fun _ _ _ h => h) (Or.inl ⟨by kernel_rfl, ?_⟩) (by assumption) ?_
        · rintro W' ⟨s0, s1, s2, s3⟩
          go_simp
        intro inv2
        clear inv
        have inv := inv2
        clear inv2
        simp only [Act.put]
        refine wpAnyT_take inv (by kernel_rfl) (by omega) (i := 2) (v := .pointer (some ⟨w.heap.size, 1, none⟩)) rfl (by kernel_rfl) (by kernel_rfl) (fun _ _ _ h => h) (Or.inl ⟨by kernel_rfl, ?_⟩) (by assumption) ?_
        · rintro W' ⟨s0, s1, s2, s3⟩
          go_simp
        intro inv2
        clear inv
        have inv := inv2
        clear inv2
        simp only [Act.put]
        refine wpAnyT_take inv (by kernel_rfl) (by omega) (i := 3) (v := .slice (some ⟨b2, o2, none⟩) l.edges.length cap') rfl (by kernel_rfl) (by kernel_rfl) (fun _ _ _ h => h) (Or.inl ⟨by kernel_rfl, ?_⟩) (by assumption) ?_
        · rintro W' ⟨s0, s1, s2, s3⟩
          go_simp
        intro inv2
        clear inv
        have inv := inv2
        clear inv2
        simp only [Act.put]
        refine wpAnyT_take inv (by kernel_rfl) (by omega) (i := 4) (v := .int .i64 (k : Int)) rfl (by kernel_rfl) (by kernel_rfl) (fun _ _ _ h => h) (Or.inl ⟨by kernel_rfl, ?_⟩) (by assumption) ?_
        · rintro W' ⟨s0, s1, s2, s3⟩
          go_simp
        intro inv2
        clear inv
        have inv := inv2
        clear inv2
        simp only [Act.put]
        refine wpAnyT_take inv (by kernel_rfl) (by omega) (i := 5) (v := .pointer (some ⟨b2, o2 + k * 2, none⟩)) rfl (by kernel_rfl) (by kernel_rfl) (fun _ _ _ h => h) (Or.inl ⟨by kernel_rfl, ?_⟩) (by assumption) ?_
        · rintro W' ⟨s0, s1, s2, s3⟩
          go_simp
        intro inv2
        clear inv
        have inv := inv2
        clear inv2
        simp only [Act.put]
        refine wpAnyT_take inv (by kernel_rfl) (by omega) (i := 6) (v := .pointer (some ⟨b2, o2 + k * 2, none⟩)) rfl (by kernel_rfl) (by kernel_rfl) (fun _ _ _ h => h) (Or.inl ⟨by kernel_rfl, ?_⟩) (by assumption) ?_
        · rintro W' ⟨s0, s1, s2, s3⟩
          go_simp
        intro inv2
        clear inv
        have inv := inv2
        clear inv2
        simp only [Act.put]
        refine wpAnyT_take inv (by kernel_rfl) (by omega) (i := 7) (v := .int .i64 (lo)) rfl (by kernel_rfl) (by kernel_rfl) (fun _ _ _ h => h) (Or.inl ⟨by kernel_rfl, ?_⟩) (by assumption) ?_
        · rintro W' ⟨s0, s1, s2, s3⟩
          go_simp
        intro inv2
        clear inv
        have inv := inv2
        clear inv2
        simp only [Act.put]
        refine wpAnyT_take inv (by kernel_rfl) (by omega) (i := 8) (v := .int .i64 (D)) rfl (by kernel_rfl) (by kernel_rfl) (fun _ _ _ h => h) (Or.inl ⟨by kernel_rfl, ?_⟩) (by assumption) ?_
        · rintro W' ⟨s0, s1, s2, s3⟩
          go_simp
        intro inv2
        clear inv
        have inv := inv2
        clear inv2
        simp only [Act.put]
        refine wpAnyT_take inv (by kernel_rfl) (by omega) (i := 9) (v := .int .i64 (lo - D)) rfl (by kernel_rfl) (by kernel_rfl) (fun _ _ _ h => h) (Or.inl ⟨by kernel_rfl, ?_⟩) (by assumption) ?_
        · rintro W' ⟨s0, s1, s2, s3⟩
          go_simp
        intro inv2
        clear inv
        have inv := inv2
        clear inv2
        simp only [Act.put]
        refine wpAnyT_take inv (by kernel_rfl) (by omega) (i := 10) (v := .int .i64 (MX)) rfl (by kernel_rfl) (by kernel_rfl) (fun _ _ _ h => h) (Or.inl ⟨by kernel_rfl, ?_⟩) (by assumption) ?_
        · rintro W' ⟨s0, s1, s2, s3⟩
          go_simp
        intro inv2
        clear inv
        have inv := inv2
        clear inv2
        simp only [Act.put]
        refine wpAnyT_take inv (by kernel_rfl) (by omega) (i := 11) (v := .pointer (some ⟨w.heap.size, 1, none⟩)) rfl (by kernel_rfl) (by kernel_rfl) (fun _ _ _ h => h) (Or.inl ⟨by kernel_rfl, ?_⟩) (by assumption) ?_
        · rintro W' ⟨s0, s1, s2, s3⟩
          go_simp
        intro inv2
        clear inv
        have inv := inv2
        clear inv2
        simp only [Act.put]
        refine wpAnyT_take inv (by kernel_rfl) (by omega) (i := 12) (v := .slice (some ⟨b2, o2, none⟩) l.edges.length cap') rfl (by kernel_rfl) (by kernel_rfl) (fun _ _ _ h => h) (Or.inl ⟨by kernel_rfl, ?_⟩) (by assumption) ?_
        · rintro W' ⟨s0, s1, s2, s3⟩
          go_simp
        intro inv2
        clear inv
        have inv := inv2
        clear inv2
        simp only [Act.put]
        refine wpAnyT_take inv (by kernel_rfl) (by omega) (i := 13) (v := .int .i64 (k : Int)) rfl (by kernel_rfl) (by kernel_rfl) (fun _ _ _ h => h) (Or.inl ⟨by kernel_rfl, ?_⟩) (by assumption) ?_
        · rintro W' ⟨s0, s1, s2, s3⟩
          go_simp
        intro inv2
        clear inv
        have inv := inv2
        clear inv2
        simp only [Act.put]
        refine wpAnyT_take inv (by kernel_rfl) (by omega) (i := 14) (v := .pointer (some ⟨b2, o2 + k * 2, none⟩)) rfl (by kernel_rfl) (by kernel_rfl) (fun _ _ _ h => h) (Or.inl ⟨by kernel_rfl, ?_⟩) (by assumption) ?_
        · rintro W' ⟨s0, s1, s2, s3⟩
          go_simp
        intro inv2
        clear inv
        have inv := inv2
        clear inv2
        simp only [Act.put]
        refine wpAnyT_take inv (by kernel_rfl) (by omega) (i := 15) (v := .pointer (some ⟨b2, o2 + k * 2 + 1, none⟩)) rfl (by kernel_rfl) (by kernel_rfl) (fun _ _ _ h => h) (Or.inl ⟨by kernel_rfl, ?_⟩) (by assumption) ?_
        · rintro W' ⟨s0, s1, s2, s3⟩
          go_simp
        intro inv2
        clear inv
        have inv := inv2
        clear inv2
        simp only [Act.put]
        refine wpAnyT_take inv (by kernel_rfl) (by omega) (i := 16) (v := .int .i64 (hi)) rfl (by kernel_rfl) (by kernel_rfl) (fun _ _ _ h => h) (Or.inl ⟨by kernel_rfl, ?_⟩) (by assumption) ?_
        · rintro W' ⟨s0, s1, s2, s3⟩
          go_simp
        intro inv2
        clear inv
        have inv := inv2
        clear inv2
        simp only [Act.put]
        refine wpAnyT_take inv (by kernel_rfl) (by omega) (i := 17) (v := .int .i64 (D)) rfl (by kernel_rfl) (by kernel_rfl) (fun _ _ _ h => h) (Or.inl ⟨by kernel_rfl, ?_⟩) (by assumption) ?_
        · rintro W' ⟨s0, s1, s2, s3⟩
          go_simp
        intro inv2
        clear inv
        have inv := inv2
        clear inv2
        simp only [Act.put]
        refine wpAnyT_take inv (by kernel_rfl) (by omega) (i := 18) (v := .int .i64 (D2)) rfl (by kernel_rfl) (by kernel_rfl) (fun _ _ _ h => h) (Or.inl ⟨by kernel_rfl, ?_⟩) (by assumption) ?_
        · rintro W' ⟨s0, s1, s2, s3⟩
          go_simp
        intro inv2
        clear inv
        have inv := inv2
        clear inv2
        simp only [Act.put]
        refine wpAnyT_take inv (by kernel_rfl) (by omega) (i := 19) (v := .int .i64 (hi + D2)) rfl (by kernel_rfl) (by kernel_rfl) (fun _ _ _ h => h) (Or.inl ⟨by kernel_rfl, ?_⟩) (by assumption) ?_
        · rintro W' ⟨s0, s1, s2, s3⟩
          go_simp
        intro inv2
        clear inv
        have inv := inv2
        clear inv2
        simp only [Act.put]
        refine wpAnyT_take inv (by kernel_rfl) (by omega) (i := 20) (v := .int .i64 (MN)) rfl (by kernel_rfl) (by kernel_rfl) (fun _ _ _ h => h) (Or.inl ⟨by kernel_rfl, ?_⟩) (by assumption) ?_
        · rintro W' ⟨s0, s1, s2, s3⟩
          go_simp
        intro inv2
        clear inv
        have inv := inv2
        clear inv2
        simp only [Act.put]
        refine wpAnyT_ready [21] (by kernel_rfl) (by simp) ?_
        refine AllReadyT.cons rfl (fun K hK => ?_) AllReadyT.nil
        go_simp
        refine (to_any MX MN _).mono ?_
        rintro e V1 ⟨rfl, hbC⟩
        replace RE := Lib.hid (owns_below RE.out hbC)
        replace RYA := Lib.hid (owns_below RYA.out hbC)
        replace RYE := Lib.hid (owns_below RYE.out hbC)
        replace P := Lib.hid (P.out.below hbC)
        replace X := Lib.hid (X.out.below hbC)
        replace Y := Lib.hid (Y.out.below hbC)
        replace BL := Lib.hid (bC BL.out hbC)
        clear hbC
        clear c0
        have c0 : V1.cell? ⟨w2x.heap.size + 1, 1, none⟩ = some (.slice a2 n2 c2) := by rw [X.out.cell]; rfl
        clear c1x
        have c1x : V1.cell? ⟨w.heap.size, 1, none⟩ = some (.slice (some ⟨b2, o2, none⟩) l.edges.length cap') := by rw [(HL2.out.below BL.out).cell]; rfl
        clear c2x
        have c2x : V1.cell? ⟨b2, o2 + k * 2, none⟩ = some (.int .i64 lo) := cellB hc2 BL.out
        clear c3x
        have c3x : V1.cell? ⟨b2, o2 + k * 2 + 1, none⟩ = some (.int .i64 hi) := cellB hc3 BL.out
        refine hK.out _ _ (fun _ => ⟨c0, c1x, c2x, c3x⟩) (fun _ => ?_)
        clear hK K
        try simp only [Act.put]
        refine wpAnyT_ready [22] (by kernel_rfl) (by simp) ?_
        refine AllReadyT.cons rfl (fun K hK => ?_) AllReadyT.nil
        go_simp
        have hbA := below1 V1 (.cells #[.int .i64 (MX), .int .i64 (MN)] 69)
        have BN22 := Lib.hid (Blk.new V1 (.cells #[.int .i64 (MX), .int .i64 (MN)] 69))
        have AN22RE := fun g (h : Value.ownBlock (.slice a2 n2 c2) = some g) (e : g = V1.heap.size) => show False by have := owns_block RE.out h; omega
        have AN22RYA := fun g (h : Value.ownBlock (.slice a5 n5 c5) = some g) (e : g = V1.heap.size) => show False by have := owns_block RYA.out h; omega
        have AN22RYE := fun g (h : Value.ownBlock (.slice a6 n6 c6) = some g) (e : g = V1.heap.size) => show False by have := owns_block RYE.out h; omega
        generalize V1.alloc (.cells #[.int .i64 (MX), .int .i64 (MN)] 69) = V2 at *
        replace RE := Lib.hid (owns_below RE.out hbA)
        replace RYA := Lib.hid (owns_below RYA.out hbA)
        replace RYE := Lib.hid (owns_below RYE.out hbA)
        replace P := Lib.hid (P.out.below hbA)
        replace X := Lib.hid (X.out.below hbA)
        replace Y := Lib.hid (Y.out.below hbA)
        replace BL := Lib.hid (bC BL.out hbA)
        clear hbA
        clear c0
        have c0 : V2.cell? ⟨w2x.heap.size + 1, 1, none⟩ = some (.slice a2 n2 c2) := by rw [X.out.cell]; rfl
        clear c1x
        have c1x : V2.cell? ⟨w.heap.size, 1, none⟩ = some (.slice (some ⟨b2, o2, none⟩) l.edges.length cap') := by rw [(HL2.out.below BL.out).cell]; rfl
        clear c2x
        have c2x : V2.cell? ⟨b2, o2 + k * 2, none⟩ = some (.int .i64 lo) := cellB hc2 BL.out
        clear c3x
        have c3x : V2.cell? ⟨b2, o2 + k * 2 + 1, none⟩ = some (.int .i64 hi) := cellB hc3 BL.out
        refine hK.out _ _ (fun _ => ⟨c0, c1x, c2x, c3x⟩) (fun _ => ?_)
        clear hK K
        try simp only [Act.put]
        refine wpAnyT_ready [23] (by kernel_rfl) (by simp) ?_
        refine AllReadyT.cons rfl (fun K hK => ?_) AllReadyT.nil
        refine Eq.mpr (if_pos ?_) ?_
        · rfl
        have hsz := BL.out.size
        have HNN := Lib.hid (cells_pair (by rw [BN22.out.cell]; rfl) (by rw [BN22.out.cell]; rfl) : ∀ m u, ([.int .i64 (MX), .int .i64 (MN)] : List Value)[m]? = some u → V2.cell? (Addr.add ⟨V1.heap.size, 0, none⟩ m) = some u)
        refine wp_append_at _ _ _ 23 rfl w2x.heap.size 69 ir (.agg #[.int .i64 0, .int .i64 0]) 2 16 undR IR.out K0.out K1.out K2.out rfl (by decide) _ _ _ rfl RE.out ⟨V1.heap.size, 0, none⟩ 1 1 [.int .i64 (MX), .int .i64 (MN)] rfl rfl HNN.out (by intro u hu; simp only [List.mem_cons, List.not_mem_nil, or_false] at hu; rcases hu with rfl | rfl <;> rfl) (by unfold maxLen; omega) (by omega) (by omega) ?_
        intro v2 V3 own gr att
        replace P := Lib.hid (P.out.grown RE.out (by decide) gr)
        replace X := Lib.hid (X.out.grown RE.out (by decide) gr)
        replace Y := Lib.hid (Y.out.grown RE.out (by decide) gr)
        have AORYE := AP_RE_RYE.symm
        replace AP_RE_RYE := (apart_grown RYE.out AP_RE_RYE.symm att).symm
        replace RYA := Lib.hid (owns_grown RE.out RYA.out (by decide) gr)
        replace RYE := Lib.hid (owns_apart RYE.out AORYE gr)
        replace BL := Lib.hid (below_owns RE.out gr BL.out hsz)
        replace RE := Lib.hid own
        clear own gr att HNN hsz BN22 AORYE
        clear c0
        have c0 : V3.cell? ⟨w2x.heap.size + 1, 1, none⟩ = some (.slice a2 n2 c2) := by rw [X.out.cell]; rfl
        clear c1x
        have c1x : V3.cell? ⟨w.heap.size, 1, none⟩ = some (.slice (some ⟨b2, o2, none⟩) l.edges.length cap') := by rw [(HL2.out.below BL.out).cell]; rfl
        clear c2x
        have c2x : V3.cell? ⟨b2, o2 + k * 2, none⟩ = some (.int .i64 lo) := cellB hc2 BL.out
        clear c3x
        have c3x : V3.cell? ⟨b2, o2 + k * 2 + 1, none⟩ = some (.int .i64 hi) := cellB hc3 BL.out
        refine hK.out _ _ (fun _ => ⟨c0, c1x, c2x, c3x⟩) (fun _ => ?_)
        clear hK K
        try simp only [Act.put]
        refine wpAnyT_chain (fuel := 2) rfl (by kernel_rfl) ?_
        simp only [List.drop_succ_cons, List.drop_zero]
        clear hS inv c0 c1x c2x c3x
        obtain ⟨a4, n4, c4, rfl⟩ := (Row.of_owns RE.out).slice
        have x1 := X.out.cell 1
        have z1 := X.out.frozen 1
        have xl := X.out.lt
        simp at x1
        have U := (X.out.set (j := 1) (.slice a4 n4 c4))
        simp only [List.setIfInBounds_toArray, List.set_cons_zero, List.set_cons_succ] at U
        replace RE := Lib.hid (owns_set RE.out X.out (by decide) 1 (.slice a4 n4 c4))
        replace RYA := Lib.hid (owns_set RYA.out X.out (by decide) 1 (.slice a4 n4 c4))
        replace RYE := Lib.hid (owns_set RYE.out X.out (by decide) 1 (.slice a4 n4 c4))
        replace P := Lib.hid (P.out.other (b := w2x.heap.size + 1) (by omega) (j := 1) (.slice a4 n4 c4))
        replace Y := Lib.hid (Y.out.other (b := w2x.heap.size + 1) (by omega) (j := 1) (.slice a4 n4 c4))
        replace BL := Lib.hid (BL.out.setCell (p := ⟨w2x.heap.size + 1, 1, none⟩) (by simp <;> omega) (.slice a4 n4 c4))
        replace X := Lib.hid U
        clear U
        by_cases hki : k = iN
        · have tki : ((k : Int) != (iN : Int)) = false := by simp [hki]
          go_wp2
          go_roundw
          case rel =>
            refine ⟨k + 1, q, .slice a4 n4 c4, .slice a5 n5 c5, .slice a6 n6 c6, by go_num, by omega, by omega, ?_, ?_, ?_, AP_RE_RYE, P.out, X.out, Y.out, BL.out⟩
            · rw [upto_snoc, pairCells_snoc, HG.out]
              exact RE.out
            · rw [but_snoc_eq _ hki]
              exact RYA.out
            · rw [but_snoc_eq _ hki]
              exact RYE.out
          case measure => simp [intOf]; omega
        · have tki : ((k : Int) != (iN : Int)) = true := by simp; omega
          go_wp2_with fail
          clear x1 z1 xl
          generalize hwm : World.setCell _ _ _ = wm at *
          clear hwm
          have c0 : wm.cell? ⟨w2x.heap.size + 1 + 1, 0, none⟩ = some (.slice a5 n5 c5) := by rw [Y.out.cell]; rfl
          have c1x : wm.cell? ⟨w2x.heap.size + 1 + 1, 1, none⟩ = some (.slice a6 n6 c6) := by rw [Y.out.cell]; rfl
          have c2x : wm.cell? ⟨w.heap.size, 0, none⟩ = some (.slice (some ⟨b1, o1, none⟩) l.at_.length cap) := by rw [(HL2.out.below BL.out).cell]; rfl
          have c3x : wm.cell? ⟨w.heap.size, 1, none⟩ = some (.slice (some ⟨b2, o2, none⟩) l.edges.length cap') := by rw [(HL2.out.below BL.out).cell]; rfl
          have c4x : wm.cell? ⟨b1, o1 + k, none⟩ = some (.int .i64 (A)) := cellB hc1 BL.out
          have c5x : wm.cell? ⟨b2, o2 + k * 2, none⟩ = some (.int .i64 lo) := cellB hc2 BL.out
          have c6x : wm.cell? ⟨b2, o2 + k * 2 + 1, none⟩ = some (.int .i64 hi) := cellB hc3 BL.out
          refine wp_region_T 19 (fun W' => W'.cell? ⟨w2x.heap.size + 1 + 1, 0, none⟩ = some (.slice a5 n5 c5) ∧ W'.cell? ⟨w2x.heap.size + 1 + 1, 1, none⟩ = some (.slice a6 n6 c6) ∧ W'.cell? ⟨w.heap.size, 0, none⟩ = some (.slice (some ⟨b1, o1, none⟩) l.at_.length cap) ∧ W'.cell? ⟨w.heap.size, 1, none⟩ = some (.slice (some ⟨b2, o2, none⟩) l.edges.length cap') ∧ W'.cell? ⟨b1, o1 + k, none⟩ = some (.int .i64 (A)) ∧ W'.cell? ⟨b2, o2 + k * 2, none⟩ = some (.int .i64 lo) ∧ W'.cell? ⟨b2, o2 + k * 2 + 1, none⟩ = some (.int .i64 hi)) (by kernel_rfl) (by kernel_rfl) ⟨c0, c1x, c2x, c3x, c4x, c5x, c6x⟩ ?_
          intro inv hS
          have hbD : Below wm.heap.size wm wm.drew := (Below.refl _ _).drew
          generalize wm.drew = V0 at *
          replace RE := Lib.hid (owns_below RE.out hbD)
          replace RYA := Lib.hid (owns_below RYA.out hbD)
          replace RYE := Lib.hid (owns_below RYE.out hbD)
          replace P := Lib.hid (P.out.below hbD)
          replace X := Lib.hid (X.out.below hbD)
          replace Y := Lib.hid (Y.out.below hbD)
          replace BL := Lib.hid (bC BL.out hbD)
          clear hbD
          clear c0
          have c0 : V0.cell? ⟨w2x.heap.size + 1 + 1, 0, none⟩ = some (.slice a5 n5 c5) := by rw [Y.out.cell]; rfl
          clear c1x
          have c1x : V0.cell? ⟨w2x.heap.size + 1 + 1, 1, none⟩ = some (.slice a6 n6 c6) := by rw [Y.out.cell]; rfl
          clear c2x
          have c2x : V0.cell? ⟨w.heap.size, 0, none⟩ = some (.slice (some ⟨b1, o1, none⟩) l.at_.length cap) := by rw [(HL2.out.below BL.out).cell]; rfl
          clear c3x
          have c3x : V0.cell? ⟨w.heap.size, 1, none⟩ = some (.slice (some ⟨b2, o2, none⟩) l.edges.length cap') := by rw [(HL2.out.below BL.out).cell]; rfl
          clear c4x
          have c4x : V0.cell? ⟨b1, o1 + k, none⟩ = some (.int .i64 (A)) := cellB hc1 BL.out
          clear c5x
          have c5x : V0.cell? ⟨b2, o2 + k * 2, none⟩ = some (.int .i64 lo) := cellB hc2 BL.out
          clear c6x
          have c6x : V0.cell? ⟨b2, o2 + k * 2 + 1, none⟩ = some (.int .i64 hi) := cellB hc3 BL.out
          refine wpAnyT_take inv (by kernel_rfl) (by omega) (i := 0) (v := .pointer (some ⟨w2x.heap.size + 1 + 1, 0, none⟩)) rfl (by kernel_rfl) (by kernel_rfl) (fun _ _ _ h => h) (Or.inl ⟨by kernel_rfl, ?_⟩) (by assumption) ?_
          · rintro W' ⟨s0, s1, s2, s3, s4, s5, s6⟩
            go_simp
          intro inv2
          clear inv
          have inv := inv2
          clear inv2
          simp only [Act.put, List.setIfInBounds_toArray]
          refine wpAnyT_take inv (by kernel_rfl) (by omega) (i := 1) (v := .slice a5 n5 c5) rfl (by kernel_rfl) (by kernel_rfl) (fun _ _ _ h => h) (Or.inl ⟨by kernel_rfl, ?_⟩) (by assumption) ?_
          · rintro W' ⟨s0, s1, s2, s3, s4, s5, s6⟩
            go_simp
          intro inv2
          clear inv
          have inv := inv2
          clear inv2
          simp only [Act.put]
          refine wpAnyT_take inv (by kernel_rfl) (by omega) (i := 2) (v := .pointer (some ⟨w.heap.size, 0, none⟩)) rfl (by kernel_rfl) (by kernel_rfl) (fun _ _ _ h => h) (Or.inl ⟨by kernel_rfl, ?_⟩) (by assumption) ?_
          · rintro W' ⟨s0, s1, s2, s3, s4, s5, s6⟩
            go_simp
          intro inv2
          clear inv
          have inv := inv2
          clear inv2
          simp only [Act.put]
          refine wpAnyT_take inv (by kernel_rfl) (by omega) (i := 3) (v := .slice (some ⟨b1, o1, none⟩) l.at_.length cap) rfl (by kernel_rfl) (by kernel_rfl) (fun _ _ _ h => h) (Or.inl ⟨by kernel_rfl, ?_⟩) (by assumption) ?_
          · rintro W' ⟨s0, s1, s2, s3, s4, s5, s6⟩
            go_simp
          intro inv2
          clear inv
          have inv := inv2
          clear inv2
          simp only [Act.put]
          refine wpAnyT_take inv (by kernel_rfl) (by omega) (i := 4) (v := .int .i64 (k : Int)) rfl (by kernel_rfl) (by kernel_rfl) (fun _ _ _ h => h) (Or.inl ⟨by kernel_rfl, ?_⟩) (by assumption) ?_
          · rintro W' ⟨s0, s1, s2, s3, s4, s5, s6⟩
            go_simp
          intro inv2
          clear inv
          have inv := inv2
          clear inv2
          simp only [Act.put]
          refine wpAnyT_take inv (by kernel_rfl) (by omega) (i := 5) (v := .pointer (some ⟨b1, o1 + k, none⟩)) rfl (by kernel_rfl) (by kernel_rfl) (fun _ _ _ h => h) (Or.inl ⟨by kernel_rfl, ?_⟩) (by assumption) ?_
          · rintro W' ⟨s0, s1, s2, s3, s4, s5, s6⟩
            go_simp
          intro inv2
          clear inv
          have inv := inv2
          clear inv2
          simp only [Act.put]
          refine wpAnyT_take inv (by kernel_rfl) (by omega) (i := 6) (v := .int .i64 (A)) rfl (by kernel_rfl) (by kernel_rfl) (fun _ _ _ h => h) (Or.inl ⟨by kernel_rfl, ?_⟩) (by assumption) ?_
          · rintro W' ⟨s0, s1, s2, s3, s4, s5, s6⟩
            go_simp
          intro inv2
          clear inv
          have inv := inv2
          clear inv2
          simp only [Act.put]
          refine wpAnyT_take inv (by kernel_rfl) (by omega) (i := 9) (v := .pointer (some ⟨w2x.heap.size + 1 + 1, 1, none⟩)) rfl (by kernel_rfl) (by kernel_rfl) (fun _ _ _ h => h) (Or.inl ⟨by kernel_rfl, ?_⟩) (by assumption) ?_
          · rintro W' ⟨s0, s1, s2, s3, s4, s5, s6⟩
            go_simp
          intro inv2
          clear inv
          have inv := inv2
          clear inv2
          simp only [Act.put]
          refine wpAnyT_take inv (by kernel_rfl) (by omega) (i := 10) (v := .slice a6 n6 c6) rfl (by kernel_rfl) (by kernel_rfl) (fun _ _ _ h => h) (Or.inl ⟨by kernel_rfl, ?_⟩) (by assumption) ?_
          · rintro W' ⟨s0, s1, s2, s3, s4, s5, s6⟩
            go_simp
          intro inv2
          clear inv
          have inv := inv2
          clear inv2
          simp only [Act.put]
          refine wpAnyT_take inv (by kernel_rfl) (by omega) (i := 11) (v := .pointer (some ⟨w.heap.size, 1, none⟩)) rfl (by kernel_rfl) (by kernel_rfl) (fun _ _ _ h => h) (Or.inl ⟨by kernel_rfl, ?_⟩) (by assumption) ?_
          · rintro W' ⟨s0, s1, s2, s3, s4, s5, s6⟩
            go_simp
          intro inv2
          clear inv
          have inv := inv2
          clear inv2
          simp only [Act.put]
          refine wpAnyT_take inv (by kernel_rfl) (by omega) (i := 12) (v := .slice (some ⟨b2, o2, none⟩) l.edges.length cap') rfl (by kernel_rfl) (by kernel_rfl) (fun _ _ _ h => h) (Or.inl ⟨by kernel_rfl, ?_⟩) (by assumption) ?_
          · rintro W' ⟨s0, s1, s2, s3, s4, s5, s6⟩
            go_simp
          intro inv2
          clear inv
          have inv := inv2
          clear inv2
          simp only [Act.put]
          refine wpAnyT_take inv (by kernel_rfl) (by omega) (i := 13) (v := .int .i64 (k : Int)) rfl (by kernel_rfl) (by kernel_rfl) (fun _ _ _ h => h) (Or.inl ⟨by kernel_rfl, ?_⟩) (by assumption) ?_
          · rintro W' ⟨s0, s1, s2, s3, s4, s5, s6⟩
            go_simp
          intro inv2
          clear inv
          have inv := inv2
          clear inv2
          simp only [Act.put]
          refine wpAnyT_take inv (by kernel_rfl) (by omega) (i := 14) (v := .pointer (some ⟨b2, o2 + k * 2, none⟩)) rfl (by kernel_rfl) (by kernel_rfl) (fun _ _ _ h => h) (Or.inl ⟨by kernel_rfl, ?_⟩) (by assumption) ?_
          · rintro W' ⟨s0, s1, s2, s3, s4, s5, s6⟩
            go_simp
          intro inv2
          clear inv
          have inv := inv2
          clear inv2
          simp only [Act.put]
          refine wpAnyT_take inv (by kernel_rfl) (by omega) (i := 15) (v := .agg #[.int .i64 lo, .int .i64 hi]) rfl (by kernel_rfl) (by kernel_rfl) (fun _ _ _ h => h) (Or.inl ⟨by kernel_rfl, ?_⟩) (by assumption) ?_
          · rintro W' ⟨s0, s1, s2, s3, s4, s5, s6⟩
            go_simp
          intro inv2
          clear inv
          have inv := inv2
          clear inv2
          simp only [Act.put]
          refine wpAnyT_ready [7, 16] (by kernel_rfl) (by simp) ?_
          refine AllReadyT.cons rfl (fun K hK => ?_) ?_
          ·
            go_simp
            have hbA := below1 V0 (.cells #[.int .i64 (A)] 2)
            have BN7 := Lib.hid (Blk.new V0 (.cells #[.int .i64 (A)] 2))
            have AN7RE := fun g (h : Value.ownBlock (.slice a4 n4 c4) = some g) (e : g = V0.heap.size) => show False by have := owns_block RE.out h; omega
            have AN7RYA := fun g (h : Value.ownBlock (.slice a5 n5 c5) = some g) (e : g = V0.heap.size) => show False by have := owns_block RYA.out h; omega
            have AN7RYE := fun g (h : Value.ownBlock (.slice a6 n6 c6) = some g) (e : g = V0.heap.size) => show False by have := owns_block RYE.out h; omega
            generalize V0.alloc (.cells #[.int .i64 (A)] 2) = V1 at *
            replace RE := Lib.hid (owns_below RE.out hbA)
            replace RYA := Lib.hid (owns_below RYA.out hbA)
            replace RYE := Lib.hid (owns_below RYE.out hbA)
            replace P := Lib.hid (P.out.below hbA)
            replace X := Lib.hid (X.out.below hbA)
            replace Y := Lib.hid (Y.out.below hbA)
            replace BL := Lib.hid (bC BL.out hbA)
            clear hbA
            clear c0
            have c0 : V1.cell? ⟨w2x.heap.size + 1 + 1, 0, none⟩ = some (.slice a5 n5 c5) := by rw [Y.out.cell]; rfl
            clear c1x
            have c1x : V1.cell? ⟨w2x.heap.size + 1 + 1, 1, none⟩ = some (.slice a6 n6 c6) := by rw [Y.out.cell]; rfl
            clear c2x
            have c2x : V1.cell? ⟨w.heap.size, 0, none⟩ = some (.slice (some ⟨b1, o1, none⟩) l.at_.length cap) := by rw [(HL2.out.below BL.out).cell]; rfl
            clear c3x
            have c3x : V1.cell? ⟨w.heap.size, 1, none⟩ = some (.slice (some ⟨b2, o2, none⟩) l.edges.length cap') := by rw [(HL2.out.below BL.out).cell]; rfl
            clear c4x
            have c4x : V1.cell? ⟨b1, o1 + k, none⟩ = some (.int .i64 (A)) := cellB hc1 BL.out
            clear c5x
            have c5x : V1.cell? ⟨b2, o2 + k * 2, none⟩ = some (.int .i64 lo) := cellB hc2 BL.out
            clear c6x
            have c6x : V1.cell? ⟨b2, o2 + k * 2 + 1, none⟩ = some (.int .i64 hi) := cellB hc3 BL.out
            refine hK.out _ _ (fun _ => ⟨c0, c1x, c2x, c3x, c4x, c5x, c6x⟩) (fun _ => ?_)
            clear hK K
            try simp only [Act.put]
            refine wpAnyT_ready [8, 16] (by kernel_rfl) (by simp) ?_
            refine AllReadyT.cons rfl (fun K hK => ?_) ?_
            ·
              refine Eq.mpr (if_pos ?_) ?_
              · rfl
              have hsz := BL.out.size
              have HNN := Lib.hid (cells_one (by rw [BN7.out.cell]; rfl) : ∀ m u, ([.int .i64 (A)] : List Value)[m]? = some u → V1.cell? (Addr.add ⟨V0.heap.size, 0, none⟩ m) = some u)
              refine wp_append_at _ _ _ 22 rfl w2x.heap.size 2 ii (.int .i64 0) 1 8 undI II.out J0.out J1.out J2.out rfl (by decide) _ _ _ rfl RYA.out ⟨V0.heap.size, 0, none⟩ 1 1 [.int .i64 (A)] rfl rfl HNN.out (by intro u hu; simp only [List.mem_cons, List.not_mem_nil, or_false] at hu; subst hu; rfl) (by unfold maxLen; omega) (by omega) (by omega) ?_
              intro v3 V2 own gr att
              replace P := Lib.hid (P.out.grown RYA.out (by decide) gr)
              replace X := Lib.hid (X.out.grown RYA.out (by decide) gr)
              replace Y := Lib.hid (Y.out.grown RYA.out (by decide) gr)
              replace RE := Lib.hid (owns_grown RYA.out RE.out (by decide) gr)
              replace RYE := Lib.hid (owns_grown RYA.out RYE.out (by decide) gr)
              replace BL := Lib.hid (below_owns RYA.out gr BL.out hsz)
              replace RYA := Lib.hid own
              clear own gr att HNN hsz BN7
              clear c0
              have c0 : V2.cell? ⟨w2x.heap.size + 1 + 1, 0, none⟩ = some (.slice a5 n5 c5) := by rw [Y.out.cell]; rfl
              clear c1x
              have c1x : V2.cell? ⟨w2x.heap.size + 1 + 1, 1, none⟩ = some (.slice a6 n6 c6) := by rw [Y.out.cell]; rfl
              clear c2x
              have c2x : V2.cell? ⟨w.heap.size, 0, none⟩ = some (.slice (some ⟨b1, o1, none⟩) l.at_.length cap) := by rw [(HL2.out.below BL.out).cell]; rfl
              clear c3x
              have c3x : V2.cell? ⟨w.heap.size, 1, none⟩ = some (.slice (some ⟨b2, o2, none⟩) l.edges.length cap') := by rw [(HL2.out.below BL.out).cell]; rfl
              clear c4x
              have c4x : V2.cell? ⟨b1, o1 + k, none⟩ = some (.int .i64 (A)) := cellB hc1 BL.out
              clear c5x
              have c5x : V2.cell? ⟨b2, o2 + k * 2, none⟩ = some (.int .i64 lo) := cellB hc2 BL.out
              clear c6x
              have c6x : V2.cell? ⟨b2, o2 + k * 2 + 1, none⟩ = some (.int .i64 hi) := cellB hc3 BL.out
              refine hK.out _ _ (fun _ => ⟨c0, c1x, c2x, c3x, c4x, c5x, c6x⟩) (fun _ => ?_)
              clear hK K
              try simp only [Act.put]
              replace inv := HeadM.step inv 7 (by kernel_rfl) (by omega)
              replace inv := HeadM.step inv 8 (by kernel_rfl) (by omega)
              clear hS
              have hS : V2.cell? ⟨w2x.heap.size + 1 + 1, 0, none⟩ = some (.slice a5 n5 c5) ∧ V2.cell? ⟨w2x.heap.size + 1 + 1, 1, none⟩ = some (.slice a6 n6 c6) ∧ V2.cell? ⟨w.heap.size, 0, none⟩ = some (.slice (some ⟨b1, o1, none⟩) l.at_.length cap) ∧ V2.cell? ⟨w.heap.size, 1, none⟩ = some (.slice (some ⟨b2, o2, none⟩) l.edges.length cap') ∧ V2.cell? ⟨b1, o1 + k, none⟩ = some (.int .i64 (A)) ∧ V2.cell? ⟨b2, o2 + k * 2, none⟩ = some (.int .i64 lo) ∧ V2.cell? ⟨b2, o2 + k * 2 + 1, none⟩ = some (.int .i64 hi) := ⟨c0, c1x, c2x, c3x, c4x, c5x, c6x⟩
              refine wpAnyT_take inv (by kernel_rfl) (by omega) (i := 18) (v := .pointer (some ⟨w2x.heap.size + 1 + 1, 0, none⟩)) rfl (by kernel_rfl) (by kernel_rfl) (fun _ _ _ h => h) (Or.inl ⟨by kernel_rfl, ?_⟩) (by assumption) ?_
              · rintro W' ⟨s0, s1, s2, s3, s4, s5, s6⟩
                go_simp
              intro inv2
              clear inv
              have inv := inv2
              clear inv2
              simp only [Act.put, List.setIfInBounds_toArray]
              refine wpAnyT_ready [16] (by kernel_rfl) (by simp) ?_
              refine AllReadyT.cons rfl (fun K hK => ?_) AllReadyT.nil
              go_simp
              have hbA := below1 V2 (.cells #[.int .i64 (lo), .int .i64 (hi)] 69)
              have BN16 := Lib.hid (Blk.new V2 (.cells #[.int .i64 (lo), .int .i64 (hi)] 69))
              have AN16RE := fun g (h : Value.ownBlock (.slice a4 n4 c4) = some g) (e : g = V2.heap.size) => show False by have := owns_block RE.out h; omega
              have AN16RYA := fun g (h : Value.ownBlock (v3) = some g) (e : g = V2.heap.size) => show False by have := owns_block RYA.out h; omega
              have AN16RYE := fun g (h : Value.ownBlock (.slice a6 n6 c6) = some g) (e : g = V2.heap.size) => show False by have := owns_block RYE.out h; omega
              generalize V2.alloc (.cells #[.int .i64 (lo), .int .i64 (hi)] 69) = V3 at *
              replace RE := Lib.hid (owns_below RE.out hbA)
              replace RYA := Lib.hid (owns_below RYA.out hbA)
              replace RYE := Lib.hid (owns_below RYE.out hbA)
              replace P := Lib.hid (P.out.below hbA)
              replace X := Lib.hid (X.out.below hbA)
              replace Y := Lib.hid (Y.out.below hbA)
              replace BL := Lib.hid (bC BL.out hbA)
              clear hbA
              clear c0
              have c0 : V3.cell? ⟨w2x.heap.size + 1 + 1, 0, none⟩ = some (.slice a5 n5 c5) := by rw [Y.out.cell]; rfl
              clear c1x
              have c1x : V3.cell? ⟨w2x.heap.size + 1 + 1, 1, none⟩ = some (.slice a6 n6 c6) := by rw [Y.out.cell]; rfl
              clear c2x
              have c2x : V3.cell? ⟨w.heap.size, 0, none⟩ = some (.slice (some ⟨b1, o1, none⟩) l.at_.length cap) := by rw [(HL2.out.below BL.out).cell]; rfl
              clear c3x
              have c3x : V3.cell? ⟨w.heap.size, 1, none⟩ = some (.slice (some ⟨b2, o2, none⟩) l.edges.length cap') := by rw [(HL2.out.below BL.out).cell]; rfl
              clear c4x
              have c4x : V3.cell? ⟨b1, o1 + k, none⟩ = some (.int .i64 (A)) := cellB hc1 BL.out
              clear c5x
              have c5x : V3.cell? ⟨b2, o2 + k * 2, none⟩ = some (.int .i64 lo) := cellB hc2 BL.out
              clear c6x
              have c6x : V3.cell? ⟨b2, o2 + k * 2 + 1, none⟩ = some (.int .i64 hi) := cellB hc3 BL.out
              refine hK.out _ _ (fun _ => ⟨c0, c1x, c2x, c3x, c4x, c5x, c6x⟩) (fun _ => ?_)
              clear hK K
              try simp only [Act.put]
              refine wpAnyT_ready [17] (by kernel_rfl) (by simp) ?_
              refine AllReadyT.cons rfl (fun K hK => ?_) AllReadyT.nil
              refine Eq.mpr (if_pos ?_) ?_
              · rfl
              have hsz := BL.out.size
              have HNN := Lib.hid (cells_pair (by rw [BN16.out.cell]; rfl) (by rw [BN16.out.cell]; rfl) : ∀ m u, ([.int .i64 (lo), .int .i64 (hi)] : List Value)[m]? = some u → V3.cell? (Addr.add ⟨V2.heap.size, 0, none⟩ m) = some u)
              refine wp_append_at _ _ _ 23 rfl w2x.heap.size 69 ir (.agg #[.int .i64 0, .int .i64 0]) 2 16 undR IR.out K0.out K1.out K2.out rfl (by decide) _ _ _ rfl RYE.out ⟨V2.heap.size, 0, none⟩ 1 1 [.int .i64 (lo), .int .i64 (hi)] rfl rfl HNN.out (by intro u hu; simp only [List.mem_cons, List.not_mem_nil, or_false] at hu; rcases hu with rfl | rfl <;> rfl) (by unfold maxLen; omega) (by omega) (by omega) ?_
              intro v4 V4 own gr att
              replace P := Lib.hid (P.out.grown RYE.out (by decide) gr)
              replace X := Lib.hid (X.out.grown RYE.out (by decide) gr)
              replace Y := Lib.hid (Y.out.grown RYE.out (by decide) gr)
              have AORE := AP_RE_RYE
              replace AP_RE_RYE := apart_grown RE.out AP_RE_RYE att
              replace RE := Lib.hid (owns_apart RE.out AORE gr)
              replace RYA := Lib.hid (owns_grown RYE.out RYA.out (by decide) gr)
              replace BL := Lib.hid (below_owns RYE.out gr BL.out hsz)
              replace RYE := Lib.hid own
              clear own gr att HNN hsz BN16 AORE
              clear c0
              have c0 : V4.cell? ⟨w2x.heap.size + 1 + 1, 0, none⟩ = some (.slice a5 n5 c5) := by rw [Y.out.cell]; rfl
              clear c1x
              have c1x : V4.cell? ⟨w2x.heap.size + 1 + 1, 1, none⟩ = some (.slice a6 n6 c6) := by rw [Y.out.cell]; rfl
              clear c2x
              have c2x : V4.cell? ⟨w.heap.size, 0, none⟩ = some (.slice (some ⟨b1, o1, none⟩) l.at_.length cap) := by rw [(HL2.out.below BL.out).cell]; rfl
              clear c3x
              have c3x : V4.cell? ⟨w.heap.size, 1, none⟩ = some (.slice (some ⟨b2, o2, none⟩) l.edges.length cap') := by rw [(HL2.out.below BL.out).cell]; rfl
              clear c4x
              have c4x : V4.cell? ⟨b1, o1 + k, none⟩ = some (.int .i64 (A)) := cellB hc1 BL.out
              clear c5x
              have c5x : V4.cell? ⟨b2, o2 + k * 2, none⟩ = some (.int .i64 lo) := cellB hc2 BL.out
              clear c6x
              have c6x : V4.cell? ⟨b2, o2 + k * 2 + 1, none⟩ = some (.int .i64 hi) := cellB hc3 BL.out
              refine hK.out _ _ (fun _ => ⟨c0, c1x, c2x, c3x, c4x, c5x, c6x⟩) (fun _ => ?_)
              clear hK K
              try simp only [Act.put]
              refine wpAnyT_chain (fuel := 3) rfl (by kernel_rfl) ?_
              simp only [List.drop_succ_cons, List.drop_zero]
              clear hS inv c0 c1x c2x c3x c4x c5x c6x
              obtain ⟨a7, n7, c7, rfl⟩ := (Row.of_owns RYA.out).slice
              obtain ⟨a8, n8, c8, rfl⟩ := (Row.of_owns RYE.out).slice
              have x0 := Y.out.cell 0
              have x1 := Y.out.cell 1
              have z0 := Y.out.frozen 0
              have z1 := Y.out.frozen 1
              have xl := Y.out.lt
              simp at x0 x1
              have U := (Y.out.set (j := 0) (.slice a7 n7 c7)).set (j := 1) (.slice a8 n8 c8)
              simp only [List.setIfInBounds_toArray, List.set_cons_zero, List.set_cons_succ] at U
              have Y1 := Y.out.set (j := 0) (.slice a7 n7 c7)
              replace RE := Lib.hid (owns_set (owns_set RE.out Y.out (by decide) 0 (.slice a7 n7 c7)) Y1 (by decide) 1 (.slice a8 n8 c8))
              replace RYA := Lib.hid (owns_set (owns_set RYA.out Y.out (by decide) 0 (.slice a7 n7 c7)) Y1 (by decide) 1 (.slice a8 n8 c8))
              replace RYE := Lib.hid (owns_set (owns_set RYE.out Y.out (by decide) 0 (.slice a7 n7 c7)) Y1 (by decide) 1 (.slice a8 n8 c8))
              replace P := Lib.hid ((P.out.other (b := w2x.heap.size + 1 + 1) (by omega) (j := 0) (.slice a7 n7 c7)).other (b := w2x.heap.size + 1 + 1) (by omega) (j := 1) (.slice a8 n8 c8))
              replace X := Lib.hid ((X.out.other (b := w2x.heap.size + 1 + 1) (by omega) (j := 0) (.slice a7 n7 c7)).other (b := w2x.heap.size + 1 + 1) (by omega) (j := 1) (.slice a8 n8 c8))
              replace BL := Lib.hid ((BL.out.setCell (p := ⟨w2x.heap.size + 1 + 1, 0, none⟩) (by simp <;> omega) (.slice a7 n7 c7)).setCell (p := ⟨w2x.heap.size + 1 + 1, 1, none⟩) (by simp <;> omega) (.slice a8 n8 c8))
              replace Y := Lib.hid U
              clear U Y1
              go_wp2
              go_roundw
              case rel =>
                refine ⟨k + 1, q + 1, .slice a4 n4 c4, .slice a7 n7 c7, .slice a8 n8 c8, by go_num, by omega, by omega, ?_, ?_, ?_, AP_RE_RYE, P.out, X.out, Y.out, BL.out⟩
                · rw [upto_snoc, pairCells_snoc, HG.out]
                  exact RE.out
                · rw [but_snoc_ne _ hki, List.map_append, HAA.out]
                  exact RYA.out
                · rw [but_snoc_ne _ hki, pairCells_snoc, HLH.out]
                  exact RYE.out
              case measure => simp [intOf]; omega
            refine AllReadyT.cons rfl (fun K hK => ?_) AllReadyT.nil
            go_simp
            have hbA := below1 V1 (.cells #[.int .i64 (lo), .int .i64 (hi)] 69)
            have BN16 := Lib.hid (Blk.new V1 (.cells #[.int .i64 (lo), .int .i64 (hi)] 69))
            have AN16RE := fun g (h : Value.ownBlock (.slice a4 n4 c4) = some g) (e : g = V1.heap.size) => show False by have := owns_block RE.out h; omega
            have AN16RYA := fun g (h : Value.ownBlock (.slice a5 n5 c5) = some g) (e : g = V1.heap.size) => show False by have := owns_block RYA.out h; omega
            have AN16RYE := fun g (h : Value.ownBlock (.slice a6 n6 c6) = some g) (e : g = V1.heap.size) => show False by have := owns_block RYE.out h; omega
            generalize V1.alloc (.cells #[.int .i64 (lo), .int .i64 (hi)] 69) = V5 at *
            replace RE := Lib.hid (owns_below RE.out hbA)
            replace RYA := Lib.hid (owns_below RYA.out hbA)
            replace RYE := Lib.hid (owns_below RYE.out hbA)
            replace P := Lib.hid (P.out.below hbA)
            replace X := Lib.hid (X.out.below hbA)
            replace Y := Lib.hid (Y.out.below hbA)
            replace BN7 := Lib.hid (BN7.out.below hbA)
            replace BL := Lib.hid (bC BL.out hbA)
            clear hbA
            clear c0
            have c0 : V5.cell? ⟨w2x.heap.size + 1 + 1, 0, none⟩ = some (.slice a5 n5 c5) := by rw [Y.out.cell]; rfl
            clear c1x
            have c1x : V5.cell? ⟨w2x.heap.size + 1 + 1, 1, none⟩ = some (.slice a6 n6 c6) := by rw [Y.out.cell]; rfl
            clear c2x
            have c2x : V5.cell? ⟨w.heap.size, 0, none⟩ = some (.slice (some ⟨b1, o1, none⟩) l.at_.length cap) := by rw [(HL2.out.below BL.out).cell]; rfl
            clear c3x
            have c3x : V5.cell? ⟨w.heap.size, 1, none⟩ = some (.slice (some ⟨b2, o2, none⟩) l.edges.length cap') := by rw [(HL2.out.below BL.out).cell]; rfl
            clear c4x
            have c4x : V5.cell? ⟨b1, o1 + k, none⟩ = some (.int .i64 (A)) := cellB hc1 BL.out
            clear c5x
            have c5x : V5.cell? ⟨b2, o2 + k * 2, none⟩ = some (.int .i64 lo) := cellB hc2 BL.out
            clear c6x
            have c6x : V5.cell? ⟨b2, o2 + k * 2 + 1, none⟩ = some (.int .i64 hi) := cellB hc3 BL.out
            refine hK.out _ _ (fun _ => ⟨c0, c1x, c2x, c3x, c4x, c5x, c6x⟩) (fun _ => ?_)
            clear hK K
            try simp only [Act.put]
            refine wpAnyT_ready [8] (by kernel_rfl) (by simp) ?_
            refine AllReadyT.cons rfl (fun K hK => ?_) AllReadyT.nil
            refine Eq.mpr (if_pos ?_) ?_
            · rfl
            have hsz := BL.out.size
            have HNN := Lib.hid (cells_one (by rw [BN7.out.cell]; rfl) : ∀ m u, ([.int .i64 (A)] : List Value)[m]? = some u → V5.cell? (Addr.add ⟨V0.heap.size, 0, none⟩ m) = some u)
            refine wp_append_at _ _ _ 22 rfl w2x.heap.size 2 ii (.int .i64 0) 1 8 undI II.out J0.out J1.out J2.out rfl (by decide) _ _ _ rfl RYA.out ⟨V0.heap.size, 0, none⟩ 1 1 [.int .i64 (A)] rfl rfl HNN.out (by intro u hu; simp only [List.mem_cons, List.not_mem_nil, or_false] at hu; subst hu; rfl) (by unfold maxLen; omega) (by omega) (by omega) ?_
            intro v3 V6 own gr att
            replace P := Lib.hid (P.out.grown RYA.out (by decide) gr)
            replace X := Lib.hid (X.out.grown RYA.out (by decide) gr)
            replace Y := Lib.hid (Y.out.grown RYA.out (by decide) gr)
            replace BN16 : Hid (Blk V6 (V1.heap.size) (.cells #[.int .i64 (lo), .int .i64 (hi)] 69)) := Lib.hid ((gr.block _ BN16.out.lt (fun h => AN16RYA _ h.symm rfl)).trans BN16.out)
            replace RE := Lib.hid (owns_grown RYA.out RE.out (by decide) gr)
            replace RYE := Lib.hid (owns_grown RYA.out RYE.out (by decide) gr)
            replace BL := Lib.hid (below_owns RYA.out gr BL.out hsz)
            replace RYA := Lib.hid own
            clear own gr att HNN hsz BN7
            clear c0
            have c0 : V6.cell? ⟨w2x.heap.size + 1 + 1, 0, none⟩ = some (.slice a5 n5 c5) := by rw [Y.out.cell]; rfl
            clear c1x
            have c1x : V6.cell? ⟨w2x.heap.size + 1 + 1, 1, none⟩ = some (.slice a6 n6 c6) := by rw [Y.out.cell]; rfl
            clear c2x
            have c2x : V6.cell? ⟨w.heap.size, 0, none⟩ = some (.slice (some ⟨b1, o1, none⟩) l.at_.length cap) := by rw [(HL2.out.below BL.out).cell]; rfl
            clear c3x
            have c3x : V6.cell? ⟨w.heap.size, 1, none⟩ = some (.slice (some ⟨b2, o2, none⟩) l.edges.length cap') := by rw [(HL2.out.below BL.out).cell]; rfl
            clear c4x
            have c4x : V6.cell? ⟨b1, o1 + k, none⟩ = some (.int .i64 (A)) := cellB hc1 BL.out
            clear c5x
            have c5x : V6.cell? ⟨b2, o2 + k * 2, none⟩ = some (.int .i64 lo) := cellB hc2 BL.out
            clear c6x
            have c6x : V6.cell? ⟨b2, o2 + k * 2 + 1, none⟩ = some (.int .i64 hi) := cellB hc3 BL.out
            refine hK.out _ _ (fun _ => ⟨c0, c1x, c2x, c3x, c4x, c5x, c6x⟩) (fun _ => ?_)
            clear hK K
            try simp only [Act.put]
            replace inv := HeadM.step inv 7 (by kernel_rfl) (by omega)
            replace inv := HeadM.step inv 16 (by kernel_rfl) (by omega)
            replace inv := HeadM.step inv 8 (by kernel_rfl) (by omega)
            clear hS
            have hS : V6.cell? ⟨w2x.heap.size + 1 + 1, 0, none⟩ = some (.slice a5 n5 c5) ∧ V6.cell? ⟨w2x.heap.size + 1 + 1, 1, none⟩ = some (.slice a6 n6 c6) ∧ V6.cell? ⟨w.heap.size, 0, none⟩ = some (.slice (some ⟨b1, o1, none⟩) l.at_.length cap) ∧ V6.cell? ⟨w.heap.size, 1, none⟩ = some (.slice (some ⟨b2, o2, none⟩) l.edges.length cap') ∧ V6.cell? ⟨b1, o1 + k, none⟩ = some (.int .i64 (A)) ∧ V6.cell? ⟨b2, o2 + k * 2, none⟩ = some (.int .i64 lo) ∧ V6.cell? ⟨b2, o2 + k * 2 + 1, none⟩ = some (.int .i64 hi) := ⟨c0, c1x, c2x, c3x, c4x, c5x, c6x⟩
            refine wpAnyT_take inv (by kernel_rfl) (by omega) (i := 18) (v := .pointer (some ⟨w2x.heap.size + 1 + 1, 0, none⟩)) rfl (by kernel_rfl) (by kernel_rfl) (fun _ _ _ h => h) (Or.inl ⟨by kernel_rfl, ?_⟩) (by assumption) ?_
            · rintro W' ⟨s0, s1, s2, s3, s4, s5, s6⟩
              go_simp
            intro inv2
            clear inv
            have inv := inv2
            clear inv2
            simp only [Act.put, List.setIfInBounds_toArray]
            refine wpAnyT_ready [17] (by kernel_rfl) (by simp) ?_
            refine AllReadyT.cons rfl (fun K hK => ?_) AllReadyT.nil
            refine Eq.mpr (if_pos ?_) ?_
            · rfl
            have hsz := BL.out.size
            have HNN := Lib.hid (cells_pair (by rw [BN16.out.cell]; rfl) (by rw [BN16.out.cell]; rfl) : ∀ m u, ([.int .i64 (lo), .int .i64 (hi)] : List Value)[m]? = some u → V6.cell? (Addr.add ⟨V1.heap.size, 0, none⟩ m) = some u)
            refine wp_append_at _ _ _ 23 rfl w2x.heap.size 69 ir (.agg #[.int .i64 0, .int .i64 0]) 2 16 undR IR.out K0.out K1.out K2.out rfl (by decide) _ _ _ rfl RYE.out ⟨V1.heap.size, 0, none⟩ 1 1 [.int .i64 (lo), .int .i64 (hi)] rfl rfl HNN.out (by intro u hu; simp only [List.mem_cons, List.not_mem_nil, or_false] at hu; rcases hu with rfl | rfl <;> rfl) (by unfold maxLen; omega) (by omega) (by omega) ?_
            intro v4 V7 own gr att
            replace P := Lib.hid (P.out.grown RYE.out (by decide) gr)
            replace X := Lib.hid (X.out.grown RYE.out (by decide) gr)
            replace Y := Lib.hid (Y.out.grown RYE.out (by decide) gr)
            have AORE := AP_RE_RYE
            replace AP_RE_RYE := apart_grown RE.out AP_RE_RYE att
            replace RE := Lib.hid (owns_apart RE.out AORE gr)
            replace RYA := Lib.hid (owns_grown RYE.out RYA.out (by decide) gr)
            replace BL := Lib.hid (below_owns RYE.out gr BL.out hsz)
            replace RYE := Lib.hid own
            clear own gr att HNN hsz BN16 AORE
            clear c0
            have c0 : V7.cell? ⟨w2x.heap.size + 1 + 1, 0, none⟩ = some (.slice a5 n5 c5) := by rw [Y.out.cell]; rfl
            clear c1x
            have c1x : V7.cell? ⟨w2x.heap.size + 1 + 1, 1, none⟩ = some (.slice a6 n6 c6) := by rw [Y.out.cell]; rfl
            clear c2x
            have c2x : V7.cell? ⟨w.heap.size, 0, none⟩ = some (.slice (some ⟨b1, o1, none⟩) l.at_.length cap) := by rw [(HL2.out.below BL.out).cell]; rfl
            clear c3x
            have c3x : V7.cell? ⟨w.heap.size, 1, none⟩ = some (.slice (some ⟨b2, o2, none⟩) l.edges.length cap') := by rw [(HL2.out.below BL.out).cell]; rfl
            clear c4x
            have c4x : V7.cell? ⟨b1, o1 + k, none⟩ = some (.int .i64 (A)) := cellB hc1 BL.out
            clear c5x
            have c5x : V7.cell? ⟨b2, o2 + k * 2, none⟩ = some (.int .i64 lo) := cellB hc2 BL.out
            clear c6x
            have c6x : V7.cell? ⟨b2, o2 + k * 2 + 1, none⟩ = some (.int .i64 hi) := cellB hc3 BL.out
            refine hK.out _ _ (fun _ => ⟨c0, c1x, c2x, c3x, c4x, c5x, c6x⟩) (fun _ => ?_)
            clear hK K
            try simp only [Act.put]
            refine wpAnyT_chain (fuel := 3) rfl (by kernel_rfl) ?_
            simp only [List.drop_succ_cons, List.drop_zero]
            clear hS inv c0 c1x c2x c3x c4x c5x c6x
            obtain ⟨a7, n7, c7, rfl⟩ := (Row.of_owns RYA.out).slice
            obtain ⟨a8, n8, c8, rfl⟩ := (Row.of_owns RYE.out).slice
            have x0 := Y.out.cell 0
            have x1 := Y.out.cell 1
            have z0 := Y.out.frozen 0
            have z1 := Y.out.frozen 1
            have xl := Y.out.lt
            simp at x0 x1
            have U := (Y.out.set (j := 0) (.slice a7 n7 c7)).set (j := 1) (.slice a8 n8 c8)
            simp only [List.setIfInBounds_toArray, List.set_cons_zero, List.set_cons_succ] at U
            have Y1 := Y.out.set (j := 0) (.slice a7 n7 c7)
            replace RE := Lib.hid (owns_set (owns_set RE.out Y.out (by decide) 0 (.slice a7 n7 c7)) Y1 (by decide) 1 (.slice a8 n8 c8))
            replace RYA := Lib.hid (owns_set (owns_set RYA.out Y.out (by decide) 0 (.slice a7 n7 c7)) Y1 (by decide) 1 (.slice a8 n8 c8))
            replace RYE := Lib.hid (owns_set (owns_set RYE.out Y.out (by decide) 0 (.slice a7 n7 c7)) Y1 (by decide) 1 (.slice a8 n8 c8))
            replace P := Lib.hid ((P.out.other (b := w2x.heap.size + 1 + 1) (by omega) (j := 0) (.slice a7 n7 c7)).other (b := w2x.heap.size + 1 + 1) (by omega) (j := 1) (.slice a8 n8 c8))
            replace X := Lib.hid ((X.out.other (b := w2x.heap.size + 1 + 1) (by omega) (j := 0) (.slice a7 n7 c7)).other (b := w2x.heap.size + 1 + 1) (by omega) (j := 1) (.slice a8 n8 c8))
            replace BL := Lib.hid ((BL.out.setCell (p := ⟨w2x.heap.size + 1 + 1, 0, none⟩) (by simp <;> omega) (.slice a7 n7 c7)).setCell (p := ⟨w2x.heap.size + 1 + 1, 1, none⟩) (by simp <;> omega) (.slice a8 n8 c8))
            replace Y := Lib.hid U
            clear U Y1
            go_wp2
            go_roundw
            case rel =>
              refine ⟨k + 1, q + 1, .slice a4 n4 c4, .slice a7 n7 c7, .slice a8 n8 c8, by go_num, by omega, by omega, ?_, ?_, ?_, AP_RE_RYE, P.out, X.out, Y.out, BL.out⟩
              · rw [upto_snoc, pairCells_snoc, HG.out]
                exact RE.out
              · rw [but_snoc_ne _ hki, List.map_append, HAA.out]
                exact RYA.out
              · rw [but_snoc_ne _ hki, pairCells_snoc, HLH.out]
                exact RYE.out
            case measure => simp [intOf]; omega
          refine AllReadyT.cons rfl (fun K hK => ?_) AllReadyT.nil
          go_simp
          have hbA := below1 V0 (.cells #[.int .i64 (lo), .int .i64 (hi)] 69)
          have BN16 := Lib.hid (Blk.new V0 (.cells #[.int .i64 (lo), .int .i64 (hi)] 69))
          have AN16RE := fun g (h : Value.ownBlock (.slice a4 n4 c4) = some g) (e : g = V0.heap.size) => show False by have := owns_block RE.out h; omega
          have AN16RYA := fun g (h : Value.ownBlock (.slice a5 n5 c5) = some g) (e : g = V0.heap.size) => show False by have := owns_block RYA.out h; omega
          have AN16RYE := fun g (h : Value.ownBlock (.slice a6 n6 c6) = some g) (e : g = V0.heap.size) => show False by have := owns_block RYE.out h; omega
          generalize V0.alloc (.cells #[.int .i64 (lo), .int .i64 (hi)] 69) = V8 at *
          replace RE := Lib.hid (owns_below RE.out hbA)
          replace RYA := Lib.hid (owns_below RYA.out hbA)
          replace RYE := Lib.hid (owns_below RYE.out hbA)
          replace P := Lib.hid (P.out.below hbA)
          replace X := Lib.hid (X.out.below hbA)
          replace Y := Lib.hid (Y.out.below hbA)
          replace BL := Lib.hid (bC BL.out hbA)
          clear hbA
          clear c0
          have c0 : V8.cell? ⟨w2x.heap.size + 1 + 1, 0, none⟩ = some (.slice a5 n5 c5) := by rw [Y.out.cell]; rfl
          clear c1x
          have c1x : V8.cell? ⟨w2x.heap.size + 1 + 1, 1, none⟩ = some (.slice a6 n6 c6) := by rw [Y.out.cell]; rfl
          clear c2x
          have c2x : V8.cell? ⟨w.heap.size, 0, none⟩ = some (.slice (some ⟨b1, o1, none⟩) l.at_.length cap) := by rw [(HL2.out.below BL.out).cell]; rfl
          clear c3x
          have c3x : V8.cell? ⟨w.heap.size, 1, none⟩ = some (.slice (some ⟨b2, o2, none⟩) l.edges.length cap') := by rw [(HL2.out.below BL.out).cell]; rfl
          clear c4x
          have c4x : V8.cell? ⟨b1, o1 + k, none⟩ = some (.int .i64 (A)) := cellB hc1 BL.out
          clear c5x
          have c5x : V8.cell? ⟨b2, o2 + k * 2, none⟩ = some (.int .i64 lo) := cellB hc2 BL.out
          clear c6x
          have c6x : V8.cell? ⟨b2, o2 + k * 2 + 1, none⟩ = some (.int .i64 hi) := cellB hc3 BL.out
          refine hK.out _ _ (fun _ => ⟨c0, c1x, c2x, c3x, c4x, c5x, c6x⟩) (fun _ => ?_)
          clear hK K
          try simp only [Act.put]
          refine wpAnyT_ready [7] (by kernel_rfl) (by simp) ?_
          refine AllReadyT.cons rfl (fun K hK => ?_) AllReadyT.nil
          go_simp
          have hbA := below1 V8 (.cells #[.int .i64 (A)] 2)
          have BN7 := Lib.hid (Blk.new V8 (.cells #[.int .i64 (A)] 2))
          have AN7RE := fun g (h : Value.ownBlock (.slice a4 n4 c4) = some g) (e : g = V8.heap.size) => show False by have := owns_block RE.out h; omega
          have AN7RYA := fun g (h : Value.ownBlock (.slice a5 n5 c5) = some g) (e : g = V8.heap.size) => show False by have := owns_block RYA.out h; omega
          have AN7RYE := fun g (h : Value.ownBlock (.slice a6 n6 c6) = some g) (e : g = V8.heap.size) => show False by have := owns_block RYE.out h; omega
          generalize V8.alloc (.cells #[.int .i64 (A)] 2) = V9 at *
          replace RE := Lib.hid (owns_below RE.out hbA)
          replace RYA := Lib.hid (owns_below RYA.out hbA)
          replace RYE := Lib.hid (owns_below RYE.out hbA)
          replace P := Lib.hid (P.out.below hbA)
          replace X := Lib.hid (X.out.below hbA)
          replace Y := Lib.hid (Y.out.below hbA)
          replace BN16 := Lib.hid (BN16.out.below hbA)
          replace BL := Lib.hid (bC BL.out hbA)
          clear hbA
          clear c0
          have c0 : V9.cell? ⟨w2x.heap.size + 1 + 1, 0, none⟩ = some (.slice a5 n5 c5) := by rw [Y.out.cell]; rfl
          clear c1x
          have c1x : V9.cell? ⟨w2x.heap.size + 1 + 1, 1, none⟩ = some (.slice a6 n6 c6) := by rw [Y.out.cell]; rfl
          clear c2x
          have c2x : V9.cell? ⟨w.heap.size, 0, none⟩ = some (.slice (some ⟨b1, o1, none⟩) l.at_.length cap) := by rw [(HL2.out.below BL.out).cell]; rfl
          clear c3x
          have c3x : V9.cell? ⟨w.heap.size, 1, none⟩ = some (.slice (some ⟨b2, o2, none⟩) l.edges.length cap') := by rw [(HL2.out.below BL.out).cell]; rfl
          clear c4x
          have c4x : V9.cell? ⟨b1, o1 + k, none⟩ = some (.int .i64 (A)) := cellB hc1 BL.out
          clear c5x
          have c5x : V9.cell? ⟨b2, o2 + k * 2, none⟩ = some (.int .i64 lo) := cellB hc2 BL.out
          clear c6x
          have c6x : V9.cell? ⟨b2, o2 + k * 2 + 1, none⟩ = some (.int .i64 hi) := cellB hc3 BL.out
          refine hK.out _ _ (fun _ => ⟨c0, c1x, c2x, c3x, c4x, c5x, c6x⟩) (fun _ => ?_)
          clear hK K
          try simp only [Act.put]
          refine wpAnyT_ready [8] (by kernel_rfl) (by simp) ?_
          refine AllReadyT.cons rfl (fun K hK => ?_) AllReadyT.nil
          refine Eq.mpr (if_pos ?_) ?_
          · rfl
          have hsz := BL.out.size
          have HNN := Lib.hid (cells_one (by rw [BN7.out.cell]; rfl) : ∀ m u, ([.int .i64 (A)] : List Value)[m]? = some u → V9.cell? (Addr.add ⟨V8.heap.size, 0, none⟩ m) = some u)
          refine wp_append_at _ _ _ 22 rfl w2x.heap.size 2 ii (.int .i64 0) 1 8 undI II.out J0.out J1.out J2.out rfl (by decide) _ _ _ rfl RYA.out ⟨V8.heap.size, 0, none⟩ 1 1 [.int .i64 (A)] rfl rfl HNN.out (by intro u hu; simp only [List.mem_cons, List.not_mem_nil, or_false] at hu; subst hu; rfl) (by unfold maxLen; omega) (by omega) (by omega) ?_
          intro v3 V10 own gr att
          replace P := Lib.hid (P.out.grown RYA.out (by decide) gr)
          replace X := Lib.hid (X.out.grown RYA.out (by decide) gr)
          replace Y := Lib.hid (Y.out.grown RYA.out (by decide) gr)
          replace BN16 : Hid (Blk V10 (V0.heap.size) (.cells #[.int .i64 (lo), .int .i64 (hi)] 69)) := Lib.hid ((gr.block _ BN16.out.lt (fun h => AN16RYA _ h.symm rfl)).trans BN16.out)
          replace RE := Lib.hid (owns_grown RYA.out RE.out (by decide) gr)
          replace RYE := Lib.hid (owns_grown RYA.out RYE.out (by decide) gr)
          replace BL := Lib.hid (below_owns RYA.out gr BL.out hsz)
          replace RYA := Lib.hid own
          clear own gr att HNN hsz BN7
          clear c0
          have c0 : V10.cell? ⟨w2x.heap.size + 1 + 1, 0, none⟩ = some (.slice a5 n5 c5) := by rw [Y.out.cell]; rfl
          clear c1x
          have c1x : V10.cell? ⟨w2x.heap.size + 1 + 1, 1, none⟩ = some (.slice a6 n6 c6) := by rw [Y.out.cell]; rfl
          clear c2x
          have c2x : V10.cell? ⟨w.heap.size, 0, none⟩ = some (.slice (some ⟨b1, o1, none⟩) l.at_.length cap) := by rw [(HL2.out.below BL.out).cell]; rfl
          clear c3x
          have c3x : V10.cell? ⟨w.heap.size, 1, none⟩ = some (.slice (some ⟨b2, o2, none⟩) l.edges.length cap') := by rw [(HL2.out.below BL.out).cell]; rfl
          clear c4x
          have c4x : V10.cell? ⟨b1, o1 + k, none⟩ = some (.int .i64 (A)) := cellB hc1 BL.out
          clear c5x
          have c5x : V10.cell? ⟨b2, o2 + k * 2, none⟩ = some (.int .i64 lo) := cellB hc2 BL.out
          clear c6x
          have c6x : V10.cell? ⟨b2, o2 + k * 2 + 1, none⟩ = some (.int .i64 hi) := cellB hc3 BL.out
          refine hK.out _ _ (fun _ => ⟨c0, c1x, c2x, c3x, c4x, c5x, c6x⟩) (fun _ => ?_)
          clear hK K
          try simp only [Act.put]
          replace inv := HeadM.step inv 16 (by kernel_rfl) (by omega)
          replace inv := HeadM.step inv 7 (by kernel_rfl) (by omega)
          replace inv := HeadM.step inv 8 (by kernel_rfl) (by omega)
          clear hS
          have hS : V10.cell? ⟨w2x.heap.size + 1 + 1, 0, none⟩ = some (.slice a5 n5 c5) ∧ V10.cell? ⟨w2x.heap.size + 1 + 1, 1, none⟩ = some (.slice a6 n6 c6) ∧ V10.cell? ⟨w.heap.size, 0, none⟩ = some (.slice (some ⟨b1, o1, none⟩) l.at_.length cap) ∧ V10.cell? ⟨w.heap.size, 1, none⟩ = some (.slice (some ⟨b2, o2, none⟩) l.edges.length cap') ∧ V10.cell? ⟨b1, o1 + k, none⟩ = some (.int .i64 (A)) ∧ V10.cell? ⟨b2, o2 + k * 2, none⟩ = some (.int .i64 lo) ∧ V10.cell? ⟨b2, o2 + k * 2 + 1, none⟩ = some (.int .i64 hi) := ⟨c0, c1x, c2x, c3x, c4x, c5x, c6x⟩
          refine wpAnyT_take inv (by kernel_rfl) (by omega) (i := 18) (v := .pointer (some ⟨w2x.heap.size + 1 + 1, 0, none⟩)) rfl (by kernel_rfl) (by kernel_rfl) (fun _ _ _ h => h) (Or.inl ⟨by kernel_rfl, ?_⟩) (by assumption) ?_
          · rintro W' ⟨s0, s1, s2, s3, s4, s5, s6⟩
            go_simp
          intro inv2
          clear inv
          have inv := inv2
          clear inv2
          simp only [Act.put, List.setIfInBounds_toArray]
          refine wpAnyT_ready [17] (by kernel_rfl) (by simp) ?_
          refine AllReadyT.cons rfl (fun K hK => ?_) AllReadyT.nil
          refine Eq.mpr (if_pos ?_) ?_
          · rfl
          have hsz := BL.out.size
          have HNN := Lib.hid (cells_pair (by rw [BN16.out.cell]; rfl) (by rw [BN16.out.cell]; rfl) : ∀ m u, ([.int .i64 (lo), .int .i64 (hi)] : List Value)[m]? = some u → V10.cell? (Addr.add ⟨V0.heap.size, 0, none⟩ m) = some u)
          refine wp_append_at _ _ _ 23 rfl w2x.heap.size 69 ir (.agg #[.int .i64 0, .int .i64 0]) 2 16 undR IR.out K0.out K1.out K2.out rfl (by decide) _ _ _ rfl RYE.out ⟨V0.heap.size, 0, none⟩ 1 1 [.int .i64 (lo), .int .i64 (hi)] rfl rfl HNN.out (by intro u hu; simp only [List.mem_cons, List.not_mem_nil, or_false] at hu; rcases hu with rfl | rfl <;> rfl) (by unfold maxLen; omega) (by omega) (by omega) ?_
          intro v4 V11 own gr att
          replace P := Lib.hid (P.out.grown RYE.out (by decide) gr)
          replace X := Lib.hid (X.out.grown RYE.out (by decide) gr)
          replace Y := Lib.hid (Y.out.grown RYE.out (by decide) gr)
          have AORE := AP_RE_RYE
          replace AP_RE_RYE := apart_grown RE.out AP_RE_RYE att
          replace RE := Lib.hid (owns_apart RE.out AORE gr)
          replace RYA := Lib.hid (owns_grown RYE.out RYA.out (by decide) gr)
          replace BL := Lib.hid (below_owns RYE.out gr BL.out hsz)
          replace RYE := Lib.hid own
          clear own gr att HNN hsz BN16 AORE
          clear c0
          have c0 : V11.cell? ⟨w2x.heap.size + 1 + 1, 0, none⟩ = some (.slice a5 n5 c5) := by rw [Y.out.cell]; rfl
          clear c1x
          have c1x : V11.cell? ⟨w2x.heap.size + 1 + 1, 1, none⟩ = some (.slice a6 n6 c6) := by rw [Y.out.cell]; rfl
          clear c2x
          have c2x : V11.cell? ⟨w.heap.size, 0, none⟩ = some (.slice (some ⟨b1, o1, none⟩) l.at_.length cap) := by rw [(HL2.out.below BL.out).cell]; rfl
          clear c3x
          have c3x : V11.cell? ⟨w.heap.size, 1, none⟩ = some (.slice (some ⟨b2, o2, none⟩) l.edges.length cap') := by rw [(HL2.out.below BL.out).cell]; rfl
          clear c4x
          have c4x : V11.cell? ⟨b1, o1 + k, none⟩ = some (.int .i64 (A)) := cellB hc1 BL.out
          clear c5x
          have c5x : V11.cell? ⟨b2, o2 + k * 2, none⟩ = some (.int .i64 lo) := cellB hc2 BL.out
          clear c6x
          have c6x : V11.cell? ⟨b2, o2 + k * 2 + 1, none⟩ = some (.int .i64 hi) := cellB hc3 BL.out
          refine hK.out _ _ (fun _ => ⟨c0, c1x, c2x, c3x, c4x, c5x, c6x⟩) (fun _ => ?_)
          clear hK K
          try simp only [Act.put]
          refine wpAnyT_chain (fuel := 3) rfl (by kernel_rfl) ?_
          simp only [List.drop_succ_cons, List.drop_zero]
          clear hS inv c0 c1x c2x c3x c4x c5x c6x
          obtain ⟨a7, n7, c7, rfl⟩ := (Row.of_owns RYA.out).slice
          obtain ⟨a8, n8, c8, rfl⟩ := (Row.of_owns RYE.out).slice
          have x0 := Y.out.cell 0
          have x1 := Y.out.cell 1
          have z0 := Y.out.frozen 0
          have z1 := Y.out.frozen 1
          have xl := Y.out.lt
          simp at x0 x1
          have U := (Y.out.set (j := 0) (.slice a7 n7 c7)).set (j := 1) (.slice a8 n8 c8)
          simp only [List.setIfInBounds_toArray, List.set_cons_zero, List.set_cons_succ] at U
          have Y1 := Y.out.set (j := 0) (.slice a7 n7 c7)
          replace RE := Lib.hid (owns_set (owns_set RE.out Y.out (by decide) 0 (.slice a7 n7 c7)) Y1 (by decide) 1 (.slice a8 n8 c8))
          replace RYA := Lib.hid (owns_set (owns_set RYA.out Y.out (by decide) 0 (.slice a7 n7 c7)) Y1 (by decide) 1 (.slice a8 n8 c8))
          replace RYE := Lib.hid (owns_set (owns_set RYE.out Y.out (by decide) 0 (.slice a7 n7 c7)) Y1 (by decide) 1 (.slice a8 n8 c8))
          replace P := Lib.hid ((P.out.other (b := w2x.heap.size + 1 + 1) (by omega) (j := 0) (.slice a7 n7 c7)).other (b := w2x.heap.size + 1 + 1) (by omega) (j := 1) (.slice a8 n8 c8))
          replace X := Lib.hid ((X.out.other (b := w2x.heap.size + 1 + 1) (by omega) (j := 0) (.slice a7 n7 c7)).other (b := w2x.heap.size + 1 + 1) (by omega) (j := 1) (.slice a8 n8 c8))
          replace BL := Lib.hid ((BL.out.setCell (p := ⟨w2x.heap.size + 1 + 1, 0, none⟩) (by simp <;> omega) (.slice a7 n7 c7)).setCell (p := ⟨w2x.heap.size + 1 + 1, 1, none⟩) (by simp <;> omega) (.slice a8 n8 c8))
          replace Y := Lib.hid U
          clear U Y1
          go_wp2
          go_roundw
          case rel =>
            refine ⟨k + 1, q + 1, .slice a4 n4 c4, .slice a7 n7 c7, .slice a8 n8 c8, by go_num, by omega, by omega, ?_, ?_, ?_, AP_RE_RYE, P.out, X.out, Y.out, BL.out⟩
            · rw [upto_snoc, pairCells_snoc, HG.out]
              exact RE.out
            · rw [but_snoc_ne _ hki, List.map_append, HAA.out]
              exact RYA.out
            · rw [but_snoc_ne _ hki, pairCells_snoc, HLH.out]
              exact RYE.out
          case measure => simp [intOf]; omega
      · obtain rfl : k = l.at_.length := by omega
        have HVX : Hid (LogAt wr (.agg #[.slice a l.at_.length cap, .slice a2 n2 c2]) (widD l D)) := Lib.hid ⟨_, _, rfl, (HI.out.below HB2.out).below BL.out, by
            have := Row.pairs (l := upto (widG l D) l.at_.length) (by rw [upto_len]; exact Row.of_owns RE.out)
            exact this⟩
        have hq1 : (but (atD l) iN l.at_.length).length = q := by have := RYA.out.1; rw [List.length_map] at this; omega
        have hq2 : (but (fun k => (loD l k, hiD l k)) iN l.at_.length).length = q := by rw [← but_len2 (atD l)]; exact hq1
        have HVY : Hid (LogAt wr (.agg #[.slice a5 n5 c5, .slice a6 n6 c6]) (butD l iN)) := Lib.hid ⟨_, _, rfl, by
            have := Row.ints (l := but (atD l) iN l.at_.length) (by rw [hq1]; exact Row.of_owns RYA.out)
            exact this, by
            have := Row.pairs (l := but (fun k => (loD l k, hiD l k)) iN l.at_.length) (by rw [hq2]; exact Row.of_owns RYE.out)
            exact this⟩
        have HNW := Lib.hid ((HN.out.below HB2.out).below BL.out)
        have HW := Lib.hid (bC HB2.out BL.out)
        have HP0 := P
        have HX0 := X
        have HY0 := Y
        have HPL := Lib.hid HP0.out.lt
        have HB0 := Lib.hid (Below.refl wr.heap.size wr)
        have htt : decide ((l.at_.length : Int) < (l.at_.length : Int)) = false := by simp
        clear P X Y RE RYA RYE BL HL2 HB2 hx0 hq1 hq2 AP_RE_RYE
        have hf := HFIT.out
        have h0 := HE0.out
        have bD := BD.out
        have h1 := wid_err hf bD.1
        have hf1 := logErr_fit' h1
        obtain ⟨wb1, wb2⟩ := wid_best hf bD.1
        obtain ⟨wn, hwn⟩ : ∃ wn, (bestV (widD l D)).num = wn := ⟨_, rfl⟩
        obtain ⟨wd, hwd⟩ : ∃ wd, ((bestV (widD l D)).den : Int) = wd := ⟨_, rfl⟩
        have sv := small_best hf
        have sw := small_best hf1
        have fv : Fine (bestV l) := by obtain ⟨z1, z2, z3⟩ := sv; exact ⟨by omega, by omega, by omega⟩
        have fw : Fine (bestV (widD l D)) := by obtain ⟨z1, z2, z3⟩ := sw; exact ⟨by omega, by omega, by omega⟩
        have hn := HNN.out
        have hd := HDD.out
        have bd1 : 1 ≤ d ∧ d ≤ 200 := by have := (bestV l).den_pos; have := sv.den; omega
        have bn1 : -600000 ≤ n ∧ n ≤ 600000 := by obtain ⟨z1, z2, z3⟩ := sv; omega
        have p1 := mul_bd D d 255 200 (by omega) (by omega) (by omega) (by omega) (by decide)
        have x1 : IntKind.i64.wrap (D * d) = D * d := IntWalk.i64_in _ (by omega)
        have x2 : IntKind.i64.wrap (n + D * d) = n + D * d := IntWalk.i64_in _ (by omega)
        have es : mkRat (n + D * d) d.toNat = bestV l + (D : Rat) := by rw [← hn, ← hd]; exact mkRat_plus D (bestV l)
        have fs : Fine (bestV l + (D : Rat)) := by rw [← es]; exact fine_mk (n + D * d) d (by omega) (by omega) (by omega) (by omega)
        obtain ⟨sn, hsn⟩ : ∃ sn, (bestV l + (D : Rat)).num = sn := ⟨_, rfl⟩
        obtain ⟨sd, hsd⟩ : ∃ sd, ((bestV l + (D : Rat)).den : Int) = sd := ⟨_, rfl⟩
        have HBX : Hid (∀ W, NoneAt W → LogAt W (.agg #[.slice a l.at_.length cap, .slice a2 n2 c2]) (widD l D) → Calls Tryd.prog 42 #[(.agg #[.slice a l.at_.length cap, .slice a2 n2 c2])] W (Gets (.tuple #[.agg #[.int .i64 wn, .int .i64 wd], .bool true]) W)) := Lib.hid (fun W hN h => by have := best_good _ _ W hN h h1; rw [qv, hwn, hwd] at this; exact this)
        have HL1 : Hid (∀ W, Calls Tryd.prog 45 #[.agg #[.int .i64 wn, .int .i64 wd], .agg #[.int .i64 n, .int .i64 d]] W (Gets (.bool false) W)) := Lib.hid (fun W => by have := rless_any _ _ W fw fv; rw [decide_eq_false (Rat.not_lt.2 wb1), qv, qv, hwn, hwd, hn, hd] at this; exact this)
        have HBY : Hid (∀ W, Calls Tryd.prog 51 #[.int .i64 (n + D * d), .int .i64 d] W (Gets (.agg #[.int .i64 sn, .int .i64 sd]) W)) := Lib.hid (fun W => by have := rby_any (n + D * d) d W (by omega) (by omega) (by omega) (by omega); rw [es, qv, hsn, hsd] at this; exact this)
        have HL2 : Hid (∀ W, Calls Tryd.prog 45 #[.agg #[.int .i64 sn, .int .i64 sd], .agg #[.int .i64 wn, .int .i64 wd]] W (Gets (.bool false) W)) := Lib.hid (fun W => by have := rless_any _ _ W fs fw; rw [decide_eq_false (Rat.not_lt.2 wb2), qv, qv, hwn, hwd, hsn, hsd] at this; exact this)
        have HNB := Lib.hid hn
        have HDB := Lib.hid hd
        have FV := Lib.hid fv
        clear hf h0 h1 hf1 wb1 wb2 hwn hwd sv sw fw hn hd bd1 bn1 p1 es fs hsn hsd bD fv
        have u0 := HX0.out.cell 0
        have u1 := HX0.out.cell 1
        simp at u0 u1
        have ul := HX0.out.lt
        go_wp2_with fail
        clear m0 m1 ml u0 u1 ul
        refine (HBX.out _ (HNW.out.below HB0.out) (HVX.out.below HB0.out)).mono ?_
        rintro e w1x ⟨rfl, hb⟩
        have HB1 := Lib.hid (bC HB0.out hb)
        have HP1 := Lib.hid (HP0.out.below hb)
        have HX1 := Lib.hid (HX0.out.below hb)
        have HY1 := Lib.hid (HY0.out.below hb)
        clear hb HB0 HP0 HX0 HY0
        go_wp2_with fail
        have hQ := Blk.new w1x (.cells #[.int .i64 wn, .int .i64 wd] 31)
        have hA := below1 w1x (.cells #[.int .i64 wn, .int .i64 wd] 31)
        generalize w1x.alloc (.cells #[.int .i64 wn, .int .i64 wd] 31) = W1x at *
        have HQS := Lib.hid (show wr.heap.size ≤ w1x.heap.size from HB1.out.size)
        have HQ2 := Lib.hid hQ
        clear hQ
        have HB2 := Lib.hid (bC HB1.out hA)
        have HP2 := Lib.hid (HP1.out.below hA)
        have HX2 := Lib.hid (HX1.out.below hA)
        have HY2 := Lib.hid (HY1.out.below hA)
        clear hA HB1 HP1 HX1 HY1
        have e0 := HP2.out.cell 0
        have e1 := HP2.out.cell 1
        have e2 := HQ2.out.cell 0
        have e3 := HQ2.out.cell 1
        simp at e0 e1 e2 e3
        have g0 := fun d os => cell_regrown e0 d os
        have g1 := fun d os => cell_regrown e1 d os
        have g2 := fun d os => cell_regrown e2 d os
        have g3 := fun d os => cell_regrown e3 d os
        have hkL := fun (dr : Nat) (os : Array Obj) => Calls.regrown_of (HL1.out (grow (redrawn W1x dr) os))
        have hkB := fun (dr : Nat) (os : Array Obj) => Calls.regrown_of (HBY.out (grow (redrawn W1x dr) os))
        have hkM := fun (dr : Nat) (os : Array Obj) => Calls.regrown_of (HL2.out (grow (redrawn W1x dr) os))
        clear e0 e1 e2 e3
        refine wp_region_quiet_below (by kernel_rfl) (by kernel_rfl) ?_
        repeat (quiet_step (first | (go_at_call 45; (first | (with_reducible exact hkL _ _) | (with_reducible exact hkM _ _))) | (go_at_call 51; (with_reducible exact hkB _ _))))
        refine wpQuiet_nil ?_
        intro _ hw'
        obtain ⟨⟨dq, osq⟩, hw''⟩ := hw'
        subst hw''
        have hb := below_regrown W1x dq osq
        clear g0 g1 g2 g3 hkL hkB hkM
        generalize grow (redrawn W1x dq) osq = w5x at *
        have HB3 := Lib.hid (bC HB2.out hb)
        have HP3 := Lib.hid (HP2.out.below hb)
        have HX3 := Lib.hid (HX2.out.below hb)
        have HY3 := Lib.hid (HY2.out.below hb)
        have HQ3 := Lib.hid (HQ2.out.below hb)
        clear hb HB2 HP2 HX2 HY2 HQ2
        by_cases h2 : logErr (butD l iN) = 0
        · have HF1 : Hid (∀ W, LogAt W (.agg #[.slice a5 n5 c5, .slice a6 n6 c6]) (butD l iN) → Calls Tryd.prog 41 #[(.agg #[.slice a5 n5 c5, .slice a6 n6 c6])] W (Gets (.bool true) W)) := Lib.hid (fun W h => by have := fine_any _ _ W h; rw [decide_eq_true h2] at this; exact this)
          have hf := HFIT.out
          have hf2 := logErr_fit' h2
          have bb := but_best hf hf2
          obtain ⟨yn, hyn⟩ : ∃ yn, (bestV (butD l iN)).num = yn := ⟨_, rfl⟩
          obtain ⟨yd, hyd⟩ : ∃ yd, ((bestV (butD l iN)).den : Int) = yd := ⟨_, rfl⟩
          have fy : Fine (bestV (butD l iN)) := by obtain ⟨z1, z2, z3⟩ := small_best hf2; exact ⟨by omega, by omega, by omega⟩
          have HBZ : Hid (∀ W, NoneAt W → LogAt W (.agg #[.slice a5 n5 c5, .slice a6 n6 c6]) (butD l iN) → Calls Tryd.prog 42 #[(.agg #[.slice a5 n5 c5, .slice a6 n6 c6])] W (Gets (.tuple #[.agg #[.int .i64 yn, .int .i64 yd], .bool true]) W)) := Lib.hid (fun W hN h => by have := best_good _ _ W hN h h2; rw [qv, hyn, hyd] at this; exact this)
          have HL3 : Hid (∀ W, Calls Tryd.prog 45 #[.agg #[.int .i64 yn, .int .i64 yd], .agg #[.int .i64 n, .int .i64 d]] W (Gets (.bool false) W)) := Lib.hid (fun W => by have := rless_any _ _ W fy FV.out; rw [decide_eq_false (Rat.not_lt.2 bb), qv, qv, hyn, hyd, HNB.out, HDB.out] at this; exact this)
          clear hf hf2 bb hyn hyd fy h2
          have Yc0 := HY3.out.cell 0
          have Yc1 := HY3.out.cell 1
          simp at Yc0 Yc1
          have Yl := HY3.out.lt
          go_wp2_with fail
          clear Yc0 Yc1 Yl
          refine (HF1.out _ (HVY.out.below HB3.out)).mono ?_
          rintro e w4x ⟨rfl, hb⟩
          have HB4 := Lib.hid (bC HB3.out hb)
          have HP4 := Lib.hid (HP3.out.below hb)
          have HX4 := Lib.hid (HX3.out.below hb)
          have HY4 := Lib.hid (HY3.out.below hb)
          have HQ4 := Lib.hid (HQ3.out.below hb)
          clear hb HB3 HP3 HX3 HY3 HQ3
          have Yc0 := HY4.out.cell 0
          have Yc1 := HY4.out.cell 1
          simp at Yc0 Yc1
          have Yl := HY4.out.lt
          go_wp2_with fail
          clear Yc0 Yc1 Yl
          refine (HBZ.out _ (HNW.out.below HB4.out) (HVY.out.below HB4.out)).mono ?_
          rintro e w8x ⟨rfl, hb⟩
          have HB5 := Lib.hid (bC HB4.out hb)
          have HP5 := Lib.hid (HP4.out.below hb)
          have HX5 := Lib.hid (HX4.out.below hb)
          have HY5 := Lib.hid (HY4.out.below hb)
          have HQ5 := Lib.hid (HQ4.out.below hb)
          clear hb HB4 HP4 HX4 HY4 HQ4
          have Qc0 := HQ5.out.cell 0
          have Qc1 := HQ5.out.cell 1
          have Pc0 := HP5.out.cell 0
          have Pc1 := HP5.out.cell 1
          simp at Qc0 Qc1 Pc0 Pc1
          have Ql := HQ5.out.lt
          have Pl := HP5.out.lt
          have zq0 := HQ5.out.frozen 0
          have zq1 := HQ5.out.frozen 1
          have hq1 : (w2x.heap.size = w1x.heap.size) = False := by have := HPL.out; have := HQS.out; simp; omega
          have hq2 : (w1x.heap.size = w2x.heap.size) = False := by have := HPL.out; have := HQS.out; simp; omega
          go_wp2_with fail
          clear Qc0 Qc1 Pc0 Pc1 Ql Pl zq0 zq1 hq1 hq2
          refine (HL3.out _).mono ?_
          rintro e w9x ⟨rfl, hb⟩
          have HB9 := Lib.hid (bC ((HB5.out.setCell (p := ⟨w1x.heap.size, 0, none⟩) HQS.out (.int .i64 yn)).setCell (p := ⟨w1x.heap.size, 1, none⟩) HQS.out (.int .i64 yd)) hb)
          go_wp2_with fail
          refine (Works_any _ (HNW.out.below HB9.out)).mono ?_
          rintro e w10x ⟨rfl, hb2⟩
          have HB10 := Lib.hid (bC HB9.out hb2)
          go_wp2_with fail
          go_ret
          exact ⟨rfl, bC HW.out HB10.out⟩
        · have HF1 : Hid (∀ W, LogAt W (.agg #[.slice a5 n5 c5, .slice a6 n6 c6]) (butD l iN) → Calls Tryd.prog 41 #[(.agg #[.slice a5 n5 c5, .slice a6 n6 c6])] W (Gets (.bool false) W)) := Lib.hid (fun W h => by have := fine_any _ _ W h; rw [decide_eq_false h2] at this; exact this)
          clear h2
          have Yc0 := HY3.out.cell 0
          have Yc1 := HY3.out.cell 1
          simp at Yc0 Yc1
          have Yl := HY3.out.lt
          go_wp2_with fail
          clear Yc0 Yc1 Yl
          refine (HF1.out _ (HVY.out.below HB3.out)).mono ?_
          rintro e w4x ⟨rfl, hb⟩
          have HB4 := Lib.hid (bC HB3.out hb)
          have HP4 := Lib.hid (HP3.out.below hb)
          have HX4 := Lib.hid (HX3.out.below hb)
          have HY4 := Lib.hid (HY3.out.below hb)
          have HQ4 := Lib.hid (HQ3.out.below hb)
          clear hb HB3 HP3 HX3 HY3 HQ3
          go_wp2_with fail
          refine (Works_any _ (HNW.out.below HB4.out)).mono ?_
          rintro e w5x ⟨rfl, hb⟩
          have HB5 := Lib.hid (bC HB4.out hb)
          have HP5 := Lib.hid (HP4.out.below hb)
          have HX5 := Lib.hid (HX4.out.below hb)
          have HY5 := Lib.hid (HY4.out.below hb)
          have HQ5 := Lib.hid (HQ4.out.below hb)
          clear hb HB4 HP4 HX4 HY4 HQ4
          go_wp2_with fail
          go_ret
          exact ⟨rfl, bC HW.out HB5.out⟩
  · have HF : Hid (∀ W, LogAt W (.agg #[.slice a l.at_.length cap, .slice a' l.edges.length cap']) l → Calls Tryd.prog 41 #[(.agg #[.slice a l.at_.length cap, .slice a' l.edges.length cap'])] W (Gets (.bool false) W)) := Lib.hid (fun W h => by have := fine_any _ l W h; rw [decide_eq_false h0] at this; exact this)
    clear h0 g1 g2
    go_enter Tryd.func14, Tryd.ntmps14
    go_wp2_with fail
    refine (HF.out _ (HV.out.below HB0.out)).mono ?_
    rintro e w1x ⟨rfl, hb⟩
    have HB1 := Lib.hid (bC HB0.out hb)
    have HL1 := Lib.hid (HL0.out.below hb)
    clear hb HB0 HL0
    go_wp2_with fail
    refine (Works_any _ (HN.out.below HB1.out)).mono ?_
    rintro e w2x ⟨rfl, hb⟩
    have HB2 := Lib.hid (bC HB1.out hb)
    have HL2 := Lib.hid (HL1.out.below hb)
    clear hb HB1 HL1
    go_wp2_with fail
    go_ret
    exact ⟨rfl, HB2.out⟩
end Go.Proofs.YtkggjpdjjnnhaaaDoor
