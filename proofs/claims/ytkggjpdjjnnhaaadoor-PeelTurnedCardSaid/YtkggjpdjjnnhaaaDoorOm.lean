import Derived.Test.YtkggjpdjjnnhaaaDoorOq
import Derived.Test.YtkggjpdjjnnhaaaDoorOh
namespace Go.Proofs.YtkggjpdjjnnhaaaDoor
open Go.RowKit Go.Shelf Go.Sort
attribute [local go_sem] Oper.semAt_some

/-! ## The law PeelTurned -/
/-- What Heights answers at a log, at the log turned end for end, and upside down. -/
theorem turned_heights {l : LogD} (h0 : logErr l = 0) {core x : Int} (h1 : -2000 ≤ core) (h2 : core ≤ 2000) (h3 : 0 ≤ x) (h4 : x ≤ 100) :
    ∃ an ad bn bd er : Int, he l core x = .tuple #[.agg #[.int .i64 an, .int .i64 ad], .agg #[.int .i64 bn, .int .i64 bd], .int .i64 er] ∧ he (endD l) core (100 - x) = .tuple #[.agg #[.int .i64 an, .int .i64 ad], .agg #[.int .i64 bn, .int .i64 bd], .int .i64 er] ∧
      he (downD l) core x = .tuple #[.agg #[.int .i64 (-bn), .int .i64 bd], .agg #[.int .i64 (-an), .int .i64 ad], .int .i64 er] ∧ (-200000000 ≤ an ∧ an ≤ 200000000) ∧ (-200000000 ≤ bn ∧ bn ≤ 200000000) := by
  have hf := logErr_fit' h0
  have e1 := end_err hf
  have e2 := down_err hf
  by_cases hc : (core : Rat) ≤ bestV l
  · obtain ⟨an, ad, bn, bd, a1, V⟩ := he_kept h0 h1 h2 h3 h4 hc
    obtain ⟨an', ad', bn', bd', a2, V2⟩ := he_kept e1 h1 h2 (show 0 ≤ 100 - x by omega) (by omega) (by rw [← end_best hf]; exact hc)
    obtain ⟨an3, ad3, bn3, bd3, a3, V3⟩ := he_kept e2 h1 h2 h3 h4 (by rw [← down_best hf]; exact hc)
    obtain ⟨f1, f2⟩ := end_heights hf (x := x) hc
    obtain ⟨f3, f4⟩ := down_heights hf (x := x) hc
    obtain ⟨n1, v1, v2, v3, v4⟩ := V
    obtain ⟨_, u1, u2, u3, u4⟩ := V2
    obtain ⟨_, t1, t2, t3, t4⟩ := V3
    have fa := heights_fits hf h1 h2 h3 h4 n1 (fun y hy => (best_least hy).1)
    have fb := heights_fits hf h1 h2 h3 h4 n1 (fun y hy => (best_most hy).1)
    rw [← f1, v1] at u1
    rw [← f1, v2] at u2
    rw [← f2, v3] at u3
    rw [← f2, v4] at u4
    rw [f3, Rat.neg_num, v3] at t1
    rw [f3, Rat.neg_den, v4] at t2
    rw [f4, Rat.neg_num, v1] at t3
    rw [f4, Rat.neg_den, v2] at t4
    subst u1 u2 u3 u4 t1 t2 t3 t4
    obtain ⟨q1, q2, q3⟩ := fa
    obtain ⟨q4, q5, q6⟩ := fb
    exact ⟨_, _, _, _, 0, a1, a2, a3, by omega, by omega⟩
  · have a1 := he_not h0 h1 h2 h3 h4 hc
    have a2 := he_not e1 h1 h2 (show 0 ≤ 100 - x by omega) (by omega) (by rw [← end_best hf]; exact hc)
    have a3 := he_not e2 h1 h2 h3 h4 (by rw [← down_best hf]; exact hc)
    exact ⟨0, 0, 0, 0, 17, a1, a2, a3, by omega, by omega⟩
set_option maxRecDepth 1000000 in
set_option maxHeartbeats 40000000 in
theorem PeelTurned_any (v : Value) (l : LogD) (num x0 : Int) (w : World) (hN : NoneAt w) (hv : LogAt w v l)
    (g1 : -32768 ≤ num ∧ num ≤ 32767) (g2 : 0 ≤ x0 ∧ x0 ≤ 255) :
    Calls Tryd.prog 11 #[v, .int .i16 num, .int .u8 x0] w fun e w' => e = .returned (.bool true) ∧ Below w.heap.size w w' := by
  obtain ⟨va, ve, rfl, h1, h2⟩ := hv
  obtain ⟨a, cap, rfl⟩ := h1.slice
  obtain ⟨a', cap', rfl⟩ := h2.slice
  have HV : Hid (LogAt w (.agg #[.slice a l.at_.length cap, .slice a' l.edges.length cap']) l) := Lib.hid ⟨_, _, rfl, h1, h2⟩
  have HI := Lib.hid h1
  have HP := Lib.hid h2
  have HN := Lib.hid hN
  clear h1 h2 hN
  have hL := Blk.new w (.cells #[.slice a l.at_.length cap, .slice a' l.edges.length cap'] 25)
  have hB0 := below1 w (.cells #[.slice a l.at_.length cap, .slice a' l.edges.length cap'] 25)
  have HL0 := Lib.hid hL
  have HB0 := Lib.hid hB0
  clear hB0 hL
  by_cases h0 : logErr l = 0
  · have HF : Hid (∀ W, LogAt W (.agg #[.slice a l.at_.length cap, .slice a' l.edges.length cap']) l → Calls Tryd.prog 41 #[(.agg #[.slice a l.at_.length cap, .slice a' l.edges.length cap'])] W (Gets (.bool true) W)) := Lib.hid (fun W h => by have := fine_any _ l W h; rw [decide_eq_true h0] at this; exact this)
    have hf := logErr_fit' h0
    have hlen := hf.lens _ (List.mem_singleton.2 rfl)
    have hlen8 := hf.eight
    have hlen2 := hf.two
    have HFIT := Lib.hid hf
    have HE0 := Lib.hid h0
    obtain ⟨t1, t2⟩ := tm_bd num
    have bx := tmodN x0 101 g2.1 (by decide)
    obtain ⟨core, hcore⟩ : ∃ core, num.tmod 2001 = core := ⟨_, rfl⟩
    obtain ⟨x, hx⟩ : ∃ x, x0.tmod 101 = x := ⟨_, rfl⟩
    rw [hcore] at t1 t2
    rw [hx] at bx
    have rw1 : IntKind.i64.wrap num = num := IntWalk.i64_in _ (by omega)
    have rw2 : IntKind.i64.wrap core = core := IntWalk.i64_in _ (by omega)
    have rw3 : IntKind.i64.wrap x0 = x0 := IntWalk.i64_in _ (by omega)
    have rw4 : IntKind.i64.wrap x = x := IntWalk.i64_in _ (by omega)
    have rw5 : IntKind.i64.wrap ((l.at_.length : Int) - 1) = (l.at_.length : Int) - 1 := IntWalk.i64_in _ (by omega)
    obtain ⟨ir, hir, hk0, hk1, hk2⟩ := info_parts infoR
    obtain ⟨ii, hii, hj0, hj1, hj2⟩ := info_parts infoI
    have IR := Lib.hid hir
    have K0 := Lib.hid hk0
    have K1 := Lib.hid hk1
    have K2 := Lib.hid hk2
    have II := Lib.hid hii
    have J0 := Lib.hid hj0
    have J1 := Lib.hid hj1
    have J2 := Lib.hid hj2
    have HLEN := Lib.hid hlen
    have HL8 := Lib.hid (And.intro hlen2 hlen8)
    have BCX := Lib.hid (And.intro (And.intro t1 t2) bx)
    clear hir hk0 hk1 hk2 hii hj0 hj1 hj2 hlen hlen8 hlen2 hf h0 g1 g2 t1 t2 bx
    go_enter Tryd.func11, Tryd.ntmps11
    go_wp2_with fail
    refine (HF.out _ (HV.out.below HB0.out)).mono ?_
    rintro e w1x ⟨rfl, hb⟩
    have HB1 := Lib.hid (bC HB0.out hb)
    have HL1 := Lib.hid (HL0.out.below hb)
    clear hb HB0 HL0
    have Lc0 := HL1.out.cell 0
    have Lc1 := HL1.out.cell 1
    simp at Lc0 Lc1
    have Ll := HL1.out.lt
    go_wp2_with fail
    clear Lc0 Lc1 Ll
    clear hcore hx rw1 rw2 rw3 rw4 rw5
    have hI1 := HI.out.below HB1.out
    have hP1 := HP.out.below HB1.out
    have HIA := Lib.hid (IntsAt.at (w := w1x) (a := a) (n := l.at_.length) (cap := cap) hI1).2
    have HPA := Lib.hid (PairsAt.at (w := w1x) (a := a') (n := l.edges.length) (cap := cap') hP1).2
    clear hI1 hP1
    go_loopw [11] (fun i wr => ∃ (k : Nat) (z : Int) (va ve : Value), i = .int .i64 z ∧ z = (l.at_.length : Int) - 1 - (k : Int) ∧ k ≤ l.at_.length ∧ wr.ownsRow w1x.heap.size 2 1 va k ((upto (endF l) k).map (Value.int .i64)) ∧ wr.ownsRow w1x.heap.size 69 2 ve k (pairCells (upto (endG l) k)) ∧ Blk wr w1x.heap.size (.cells #[va, ve] 25) ∧ Blk wr (w1x.heap.size + 1) (.cells #[.slice none 0 0, .slice none 0 0] 25) ∧ Below w1x.heap.size w1x wr) (fun i _ => (intOf i + 1).toNat)
    case atStart =>
      have p1 := (Blk.new w1x (.cells #[.slice none 0 0, .slice none 0 0] 25)).alloc (.cells #[.slice none 0 0, .slice none 0 0] 25)
      have p2 := Blk.new (w1x.alloc (.cells #[.slice none 0 0, .slice none 0 0] 25)) (.cells #[.slice none 0 0, .slice none 0 0] 25)
      simp only [World.size_alloc] at p2
      exact ⟨0, _, .slice none 0 0, .slice none 0 0, rfl, by simp, Nat.zero_le _, ⟨rfl, .inl ⟨rfl, rfl⟩⟩, ⟨rfl, .inl ⟨rfl, rfl⟩⟩, p1, p2, below2 _ _ _⟩
    case round =>
      rename_i wr
      obtain ⟨k, z, va, ve, rfl, hz, hk, hra, hre, hE, hD, hB⟩ := hrel
      obtain ⟨a1, n1, c1, rfl⟩ := (Row.of_owns hra).slice
      obtain ⟨a2, n2, c2, rfl⟩ := (Row.of_owns hre).slice
      have RA := Lib.hid hra
      have RE := Lib.hid hre
      have X := Lib.hid hE
      have Y := Lib.hid hD
      have BL := Lib.hid hB
      have hx0 : w1x.heap.size + 1 < wr.heap.size := hD.lt
      have hl8 := HL8.out
      have hL := HL1.out.below hB
      have m0 := hL.cell 0
      have m1 := hL.cell 1
      simp at m0 m1
      have ml := hL.lt
      clear hra hre hE hD hB hL
      by_cases hlt : k < l.at_.length
      · obtain ⟨j, rfl⟩ : ∃ j : Nat, z = (j : Int) := ⟨z.toNat, by omega⟩
        have hj : j < l.at_.length := by omega
        have hjk : l.at_.length - 1 - k = j := by omega
        have hle : j < l.edges.length := by have := HLEN.out; omega
        obtain ⟨b1, o1, rfl, hc1⟩ := HIA.out j hj
        obtain ⟨b2, o2, rfl, hc2, hc3⟩ := HPA.out j hle
        rw [atD_eq hj] at hc1
        rw [loD_eq hle] at hc2
        rw [hiD_eq hle] at hc3
        have hpt := log_pt HFIT.out hj
        obtain ⟨A, hA⟩ : ∃ A, atD l j = A := ⟨_, rfl⟩
        obtain ⟨lo, hlo⟩ : ∃ lo, loD l j = lo := ⟨_, rfl⟩
        obtain ⟨hi, hhi⟩ : ∃ hi, hiD l j = hi := ⟨_, rfl⟩
        rw [hA] at hc1
        rw [hlo] at hc2
        rw [hhi] at hc3
        rw [hA, hlo, hhi] at hpt
        have HG := Lib.hid (show endF l k = 100 - A by simp only [endF, hjk, hA])
        have HG2 := Lib.hid (show endG l k = (lo, hi) by simp only [endG, hjk, hlo, hhi])
        have y1 : IntKind.i64.wrap (100 - A) = 100 - A := IntWalk.i64_in _ (by omega)
        have y2 : IntKind.i64.wrap ((j : Int) - 1) = (j : Int) - 1 := IntWalk.i64_in _ (by omega)
        have tz : decide ((0 : Int) ≤ (j : Int)) = true := by simp
        have HZ := Lib.hid hz
        clear hA hlo hhi hpt hz hjk
        go_wp2_with fail
        clear m0 m1 ml
        have c0 : wr.cell? ⟨w1x.heap.size, 0, none⟩ = some (.slice a1 n1 c1) := by rw [X.out.cell]; rfl
        have c1x : wr.cell? ⟨w1x.heap.size, 1, none⟩ = some (.slice a2 n2 c2) := by rw [X.out.cell]; rfl
        have c2x : wr.cell? ⟨w.heap.size, 0, none⟩ = some (.slice (some ⟨b1, o1, none⟩) l.at_.length cap) := by rw [(HL1.out.below BL.out).cell]; rfl
        have c3x : wr.cell? ⟨w.heap.size, 1, none⟩ = some (.slice (some ⟨b2, o2, none⟩) l.edges.length cap') := by rw [(HL1.out.below BL.out).cell]; rfl
        have c4x : wr.cell? ⟨b1, o1 + j, none⟩ = some (.int .i64 (A)) := cellB hc1 BL.out
        have c5x : wr.cell? ⟨b2, o2 + j * 2, none⟩ = some (.int .i64 lo) := cellB hc2 BL.out
        have c6x : wr.cell? ⟨b2, o2 + j * 2 + 1, none⟩ = some (.int .i64 hi) := cellB hc3 BL.out
        refine wp_region_T 20 (fun W' => W'.cell? ⟨w1x.heap.size, 0, none⟩ = some (.slice a1 n1 c1) ∧ W'.cell? ⟨w1x.heap.size, 1, none⟩ = some (.slice a2 n2 c2) ∧ W'.cell? ⟨w.heap.size, 0, none⟩ = some (.slice (some ⟨b1, o1, none⟩) l.at_.length cap) ∧ W'.cell? ⟨w.heap.size, 1, none⟩ = some (.slice (some ⟨b2, o2, none⟩) l.edges.length cap') ∧ W'.cell? ⟨b1, o1 + j, none⟩ = some (.int .i64 (A)) ∧ W'.cell? ⟨b2, o2 + j * 2, none⟩ = some (.int .i64 lo) ∧ W'.cell? ⟨b2, o2 + j * 2 + 1, none⟩ = some (.int .i64 hi)) (by kernel_rfl) (by kernel_rfl) ⟨c0, c1x, c2x, c3x, c4x, c5x, c6x⟩ ?_
        intro inv hS
        have hbD : Below wr.heap.size wr wr.drew := (Below.refl _ _).drew
        generalize wr.drew = V0 at *
        replace RA := Lib.hid (owns_below RA.out hbD)
        replace RE := Lib.hid (owns_below RE.out hbD)
        replace X := Lib.hid (X.out.below hbD)
        replace Y := Lib.hid (Y.out.below hbD)
        replace BL := Lib.hid (bC BL.out hbD)
        clear hbD
        clear c0
        have c0 : V0.cell? ⟨w1x.heap.size, 0, none⟩ = some (.slice a1 n1 c1) := by rw [X.out.cell]; rfl
        clear c1x
        have c1x : V0.cell? ⟨w1x.heap.size, 1, none⟩ = some (.slice a2 n2 c2) := by rw [X.out.cell]; rfl
        clear c2x
        have c2x : V0.cell? ⟨w.heap.size, 0, none⟩ = some (.slice (some ⟨b1, o1, none⟩) l.at_.length cap) := by rw [(HL1.out.below BL.out).cell]; rfl
        clear c3x
        have c3x : V0.cell? ⟨w.heap.size, 1, none⟩ = some (.slice (some ⟨b2, o2, none⟩) l.edges.length cap') := by rw [(HL1.out.below BL.out).cell]; rfl
        clear c4x
        have c4x : V0.cell? ⟨b1, o1 + j, none⟩ = some (.int .i64 (A)) := cellB hc1 BL.out
        clear c5x
        have c5x : V0.cell? ⟨b2, o2 + j * 2, none⟩ = some (.int .i64 lo) := cellB hc2 BL.out
        clear c6x
        have c6x : V0.cell? ⟨b2, o2 + j * 2 + 1, none⟩ = some (.int .i64 hi) := cellB hc3 BL.out
        refine wpAnyT_take inv (by kernel_rfl) (by omega) (i := 0) (v := .pointer (some ⟨w1x.heap.size, 0, none⟩)) rfl (by kernel_rfl) (by kernel_rfl) (fun _ _ _ h => h) (Or.inl ⟨by kernel_rfl, ?_⟩) (by assumption) ?_
        · rintro W' ⟨s0, s1, s2, s3, s4, s5, s6⟩
          go_simp
        intro inv2
        clear inv
        have inv := inv2
        clear inv2
        simp only [Act.put, List.setIfInBounds_toArray]
        refine wpAnyT_take inv (by kernel_rfl) (by omega) (i := 1) (v := .slice a1 n1 c1) rfl (by kernel_rfl) (by kernel_rfl) (fun _ _ _ h => h) (Or.inl ⟨by kernel_rfl, ?_⟩) (by assumption) ?_
        · rintro W' ⟨s0, s1, s2, s3, s4, s5, s6⟩
          go_simp
        intro inv2
        clear inv
        have inv := inv2
        clear inv2
        simp only [Act.put]
        refine wpAnyT_take inv (by kernel_rfl) (by omega) (i := 2) (v := .pointer (some ⟨w.heap.size, 0, none⟩)) rfl (by kernel_rfl) (by kernel_rfl) (fun _ _ _ h => h) (Or.inl ⟨by kernel_rfl, ?_⟩) (by assumption) ?_
        · rintro W' ⟨s0, s1, s2, s3, s4, s5, s6⟩
          go_simp
        intro inv2
        clear inv
        have inv := inv2
        clear inv2
        simp only [Act.put]
        refine wpAnyT_take inv (by kernel_rfl) (by omega) (i := 3) (v := .slice (some ⟨b1, o1, none⟩) l.at_.length cap) rfl (by kernel_rfl) (by kernel_rfl) (fun _ _ _ h => h) (Or.inl ⟨by kernel_rfl, ?_⟩) (by assumption) ?_
        · rintro W' ⟨s0, s1, s2, s3, s4, s5, s6⟩
          go_simp
        intro inv2
        clear inv
        have inv := inv2
        clear inv2
        simp only [Act.put]
        refine wpAnyT_take inv (by kernel_rfl) (by omega) (i := 4) (v := .int .i64 (j : Int)) rfl (by kernel_rfl) (by kernel_rfl) (fun _ _ _ h => h) (Or.inl ⟨by kernel_rfl, ?_⟩) (by assumption) ?_
        · rintro W' ⟨s0, s1, s2, s3, s4, s5, s6⟩
          go_simp
        intro inv2
        clear inv
        have inv := inv2
        clear inv2
        simp only [Act.put]
        refine wpAnyT_take inv (by kernel_rfl) (by omega) (i := 5) (v := .pointer (some ⟨b1, o1 + j, none⟩)) rfl (by kernel_rfl) (by kernel_rfl) (fun _ _ _ h => h) (Or.inl ⟨by kernel_rfl, ?_⟩) (by assumption) ?_
        · rintro W' ⟨s0, s1, s2, s3, s4, s5, s6⟩
          go_simp
        intro inv2
        clear inv
        have inv := inv2
        clear inv2
        simp only [Act.put]
        refine wpAnyT_take inv (by kernel_rfl) (by omega) (i := 6) (v := .int .i64 (A)) rfl (by kernel_rfl) (by kernel_rfl) (fun _ _ _ h => h) (Or.inl ⟨by kernel_rfl, ?_⟩) (by assumption) ?_
        · rintro W' ⟨s0, s1, s2, s3, s4, s5, s6⟩
          go_simp
        intro inv2
        clear inv
        have inv := inv2
        clear inv2
        simp only [Act.put]
        refine wpAnyT_take inv (by kernel_rfl) (by omega) (i := 7) (v := .int .i64 (100 - A)) rfl (by kernel_rfl) (by kernel_rfl) (fun _ _ _ h => h) (Or.inl ⟨by kernel_rfl, ?_⟩) (by assumption) ?_
        · rintro W' ⟨s0, s1, s2, s3, s4, s5, s6⟩
          go_simp
        intro inv2
        clear inv
        have inv := inv2
        clear inv2
        simp only [Act.put]
        refine wpAnyT_take inv (by kernel_rfl) (by omega) (i := 10) (v := .pointer (some ⟨w1x.heap.size, 1, none⟩)) rfl (by kernel_rfl) (by kernel_rfl) (fun _ _ _ h => h) (Or.inl ⟨by kernel_rfl, ?_⟩) (by assumption) ?_
        · rintro W' ⟨s0, s1, s2, s3, s4, s5, s6⟩
          go_simp
        intro inv2
        clear inv
        have inv := inv2
        clear inv2
        simp only [Act.put]
        refine wpAnyT_take inv (by kernel_rfl) (by omega) (i := 11) (v := .slice a2 n2 c2) rfl (by kernel_rfl) (by kernel_rfl) (fun _ _ _ h => h) (Or.inl ⟨by kernel_rfl, ?_⟩) (by assumption) ?_
        · rintro W' ⟨s0, s1, s2, s3, s4, s5, s6⟩
          go_simp
        intro inv2
        clear inv
        have inv := inv2
        clear inv2
        simp only [Act.put]
        refine wpAnyT_take inv (by kernel_rfl) (by omega) (i := 12) (v := .pointer (some ⟨w.heap.size, 1, none⟩)) rfl (by kernel_rfl) (by kernel_rfl) (fun _ _ _ h => h) (Or.inl ⟨by kernel_rfl, ?_⟩) (by assumption) ?_
        · rintro W' ⟨s0, s1, s2, s3, s4, s5, s6⟩
          go_simp
        intro inv2
        clear inv
        have inv := inv2
        clear inv2
        simp only [Act.put]
        refine wpAnyT_take inv (by kernel_rfl) (by omega) (i := 13) (v := .slice (some ⟨b2, o2, none⟩) l.edges.length cap') rfl (by kernel_rfl) (by kernel_rfl) (fun _ _ _ h => h) (Or.inl ⟨by kernel_rfl, ?_⟩) (by assumption) ?_
        · rintro W' ⟨s0, s1, s2, s3, s4, s5, s6⟩
          go_simp
        intro inv2
        clear inv
        have inv := inv2
        clear inv2
        simp only [Act.put]
        refine wpAnyT_take inv (by kernel_rfl) (by omega) (i := 14) (v := .int .i64 (j : Int)) rfl (by kernel_rfl) (by kernel_rfl) (fun _ _ _ h => h) (Or.inl ⟨by kernel_rfl, ?_⟩) (by assumption) ?_
        · rintro W' ⟨s0, s1, s2, s3, s4, s5, s6⟩
          go_simp
        intro inv2
        clear inv
        have inv := inv2
        clear inv2
        simp only [Act.put]
        refine wpAnyT_take inv (by kernel_rfl) (by omega) (i := 15) (v := .pointer (some ⟨b2, o2 + j * 2, none⟩)) rfl (by kernel_rfl) (by kernel_rfl) (fun _ _ _ h => h) (Or.inl ⟨by kernel_rfl, ?_⟩) (by assumption) ?_
        · rintro W' ⟨s0, s1, s2, s3, s4, s5, s6⟩
          go_simp
        intro inv2
        clear inv
        have inv := inv2
        clear inv2
        simp only [Act.put]
        refine wpAnyT_take inv (by kernel_rfl) (by omega) (i := 16) (v := .agg #[.int .i64 lo, .int .i64 hi]) rfl (by kernel_rfl) (by kernel_rfl) (fun _ _ _ h => h) (Or.inl ⟨by kernel_rfl, ?_⟩) (by assumption) ?_
        · rintro W' ⟨s0, s1, s2, s3, s4, s5, s6⟩
          go_simp
        intro inv2
        clear inv
        have inv := inv2
        clear inv2
        simp only [Act.put]
        refine wpAnyT_ready [8, 17] (by kernel_rfl) (by simp) ?_
        refine AllReadyT.cons rfl (fun K hK => ?_) ?_
        ·
          go_simp
          have hbA := below1 V0 (.cells #[.int .i64 (100 - A)] 2)
          have BN8 := Lib.hid (Blk.new V0 (.cells #[.int .i64 (100 - A)] 2))
          have AN8RA := fun g (h : Value.ownBlock (.slice a1 n1 c1) = some g) (e : g = V0.heap.size) => show False by have := owns_block RA.out h; omega
          have AN8RE := fun g (h : Value.ownBlock (.slice a2 n2 c2) = some g) (e : g = V0.heap.size) => show False by have := owns_block RE.out h; omega
          generalize V0.alloc (.cells #[.int .i64 (100 - A)] 2) = V1 at *
          replace RA := Lib.hid (owns_below RA.out hbA)
          replace RE := Lib.hid (owns_below RE.out hbA)
          replace X := Lib.hid (X.out.below hbA)
          replace Y := Lib.hid (Y.out.below hbA)
          replace BL := Lib.hid (bC BL.out hbA)
          clear hbA
          clear c0
          have c0 : V1.cell? ⟨w1x.heap.size, 0, none⟩ = some (.slice a1 n1 c1) := by rw [X.out.cell]; rfl
          clear c1x
          have c1x : V1.cell? ⟨w1x.heap.size, 1, none⟩ = some (.slice a2 n2 c2) := by rw [X.out.cell]; rfl
          clear c2x
          have c2x : V1.cell? ⟨w.heap.size, 0, none⟩ = some (.slice (some ⟨b1, o1, none⟩) l.at_.length cap) := by rw [(HL1.out.below BL.out).cell]; rfl
          clear c3x
          have c3x : V1.cell? ⟨w.heap.size, 1, none⟩ = some (.slice (some ⟨b2, o2, none⟩) l.edges.length cap') := by rw [(HL1.out.below BL.out).cell]; rfl
          clear c4x
          have c4x : V1.cell? ⟨b1, o1 + j, none⟩ = some (.int .i64 (A)) := cellB hc1 BL.out
          clear c5x
          have c5x : V1.cell? ⟨b2, o2 + j * 2, none⟩ = some (.int .i64 lo) := cellB hc2 BL.out
          clear c6x
          have c6x : V1.cell? ⟨b2, o2 + j * 2 + 1, none⟩ = some (.int .i64 hi) := cellB hc3 BL.out
          refine hK.out _ _ (fun _ => ⟨c0, c1x, c2x, c3x, c4x, c5x, c6x⟩) (fun _ => ?_)
          clear hK K
          try simp only [Act.put]
          refine wpAnyT_ready [9, 17] (by kernel_rfl) (by simp) ?_
          refine AllReadyT.cons rfl (fun K hK => ?_) ?_
          ·
            refine Eq.mpr (if_pos ?_) ?_
            · rfl
            have hsz := BL.out.size
            have HNN := Lib.hid (cells_one (by rw [BN8.out.cell]; rfl) : ∀ m u, ([.int .i64 (100 - A)] : List Value)[m]? = some u → V1.cell? (Addr.add ⟨V0.heap.size, 0, none⟩ m) = some u)
            refine wp_append_at _ _ _ 22 rfl w1x.heap.size 2 ii (.int .i64 0) 1 8 undI II.out J0.out J1.out J2.out rfl (by decide) _ _ _ rfl RA.out ⟨V0.heap.size, 0, none⟩ 1 1 [.int .i64 (100 - A)] rfl rfl HNN.out (by intro u hu; simp only [List.mem_cons, List.not_mem_nil, or_false] at hu; subst hu; rfl) (by unfold maxLen; omega) (by omega) (by omega) ?_
            intro v3 V2 own gr att
            replace X := Lib.hid (X.out.grown RA.out (by decide) gr)
            replace Y := Lib.hid (Y.out.grown RA.out (by decide) gr)
            replace RE := Lib.hid (owns_grown RA.out RE.out (by decide) gr)
            replace BL := Lib.hid (below_owns RA.out gr BL.out hsz)
            replace RA := Lib.hid own
            clear own gr att HNN hsz BN8
            clear c0
            have c0 : V2.cell? ⟨w1x.heap.size, 0, none⟩ = some (.slice a1 n1 c1) := by rw [X.out.cell]; rfl
            clear c1x
            have c1x : V2.cell? ⟨w1x.heap.size, 1, none⟩ = some (.slice a2 n2 c2) := by rw [X.out.cell]; rfl
            clear c2x
            have c2x : V2.cell? ⟨w.heap.size, 0, none⟩ = some (.slice (some ⟨b1, o1, none⟩) l.at_.length cap) := by rw [(HL1.out.below BL.out).cell]; rfl
            clear c3x
            have c3x : V2.cell? ⟨w.heap.size, 1, none⟩ = some (.slice (some ⟨b2, o2, none⟩) l.edges.length cap') := by rw [(HL1.out.below BL.out).cell]; rfl
            clear c4x
            have c4x : V2.cell? ⟨b1, o1 + j, none⟩ = some (.int .i64 (A)) := cellB hc1 BL.out
            clear c5x
            have c5x : V2.cell? ⟨b2, o2 + j * 2, none⟩ = some (.int .i64 lo) := cellB hc2 BL.out
            clear c6x
            have c6x : V2.cell? ⟨b2, o2 + j * 2 + 1, none⟩ = some (.int .i64 hi) := cellB hc3 BL.out
            refine hK.out _ _ (fun _ => ⟨c0, c1x, c2x, c3x, c4x, c5x, c6x⟩) (fun _ => ?_)
            clear hK K
            try simp only [Act.put]
            replace inv := HeadM.step inv 8 (by kernel_rfl) (by omega)
            replace inv := HeadM.step inv 9 (by kernel_rfl) (by omega)
            clear hS
            have hS : V2.cell? ⟨w1x.heap.size, 0, none⟩ = some (.slice a1 n1 c1) ∧ V2.cell? ⟨w1x.heap.size, 1, none⟩ = some (.slice a2 n2 c2) ∧ V2.cell? ⟨w.heap.size, 0, none⟩ = some (.slice (some ⟨b1, o1, none⟩) l.at_.length cap) ∧ V2.cell? ⟨w.heap.size, 1, none⟩ = some (.slice (some ⟨b2, o2, none⟩) l.edges.length cap') ∧ V2.cell? ⟨b1, o1 + j, none⟩ = some (.int .i64 (A)) ∧ V2.cell? ⟨b2, o2 + j * 2, none⟩ = some (.int .i64 lo) ∧ V2.cell? ⟨b2, o2 + j * 2 + 1, none⟩ = some (.int .i64 hi) := ⟨c0, c1x, c2x, c3x, c4x, c5x, c6x⟩
            refine wpAnyT_take inv (by kernel_rfl) (by omega) (i := 19) (v := .pointer (some ⟨w1x.heap.size, 0, none⟩)) rfl (by kernel_rfl) (by kernel_rfl) (fun _ _ _ h => h) (Or.inl ⟨by kernel_rfl, ?_⟩) (by assumption) ?_
            · rintro W' ⟨s0, s1, s2, s3, s4, s5, s6⟩
              go_simp
            intro inv2
            clear inv
            have inv := inv2
            clear inv2
            simp only [Act.put, List.setIfInBounds_toArray]
            refine wpAnyT_ready [17] (by kernel_rfl) (by simp) ?_
            refine AllReadyT.cons rfl (fun K hK => ?_) AllReadyT.nil
            go_simp
            have hbA := below1 V2 (.cells #[.int .i64 (lo), .int .i64 (hi)] 69)
            have BN17 := Lib.hid (Blk.new V2 (.cells #[.int .i64 (lo), .int .i64 (hi)] 69))
            have AN17RA := fun g (h : Value.ownBlock (v3) = some g) (e : g = V2.heap.size) => show False by have := owns_block RA.out h; omega
            have AN17RE := fun g (h : Value.ownBlock (.slice a2 n2 c2) = some g) (e : g = V2.heap.size) => show False by have := owns_block RE.out h; omega
            generalize V2.alloc (.cells #[.int .i64 (lo), .int .i64 (hi)] 69) = V3 at *
            replace RA := Lib.hid (owns_below RA.out hbA)
            replace RE := Lib.hid (owns_below RE.out hbA)
            replace X := Lib.hid (X.out.below hbA)
            replace Y := Lib.hid (Y.out.below hbA)
            replace BL := Lib.hid (bC BL.out hbA)
            clear hbA
            clear c0
            have c0 : V3.cell? ⟨w1x.heap.size, 0, none⟩ = some (.slice a1 n1 c1) := by rw [X.out.cell]; rfl
            clear c1x
            have c1x : V3.cell? ⟨w1x.heap.size, 1, none⟩ = some (.slice a2 n2 c2) := by rw [X.out.cell]; rfl
            clear c2x
            have c2x : V3.cell? ⟨w.heap.size, 0, none⟩ = some (.slice (some ⟨b1, o1, none⟩) l.at_.length cap) := by rw [(HL1.out.below BL.out).cell]; rfl
            clear c3x
            have c3x : V3.cell? ⟨w.heap.size, 1, none⟩ = some (.slice (some ⟨b2, o2, none⟩) l.edges.length cap') := by rw [(HL1.out.below BL.out).cell]; rfl
            clear c4x
            have c4x : V3.cell? ⟨b1, o1 + j, none⟩ = some (.int .i64 (A)) := cellB hc1 BL.out
            clear c5x
            have c5x : V3.cell? ⟨b2, o2 + j * 2, none⟩ = some (.int .i64 lo) := cellB hc2 BL.out
            clear c6x
            have c6x : V3.cell? ⟨b2, o2 + j * 2 + 1, none⟩ = some (.int .i64 hi) := cellB hc3 BL.out
            refine hK.out _ _ (fun _ => ⟨c0, c1x, c2x, c3x, c4x, c5x, c6x⟩) (fun _ => ?_)
            clear hK K
            try simp only [Act.put]
            refine wpAnyT_ready [18] (by kernel_rfl) (by simp) ?_
            refine AllReadyT.cons rfl (fun K hK => ?_) AllReadyT.nil
            refine Eq.mpr (if_pos ?_) ?_
            · rfl
            have hsz := BL.out.size
            have HNN := Lib.hid (cells_pair (by rw [BN17.out.cell]; rfl) (by rw [BN17.out.cell]; rfl) : ∀ m u, ([.int .i64 (lo), .int .i64 (hi)] : List Value)[m]? = some u → V3.cell? (Addr.add ⟨V2.heap.size, 0, none⟩ m) = some u)
            refine wp_append_at _ _ _ 23 rfl w1x.heap.size 69 ir (.agg #[.int .i64 0, .int .i64 0]) 2 16 undR IR.out K0.out K1.out K2.out rfl (by decide) _ _ _ rfl RE.out ⟨V2.heap.size, 0, none⟩ 1 1 [.int .i64 (lo), .int .i64 (hi)] rfl rfl HNN.out (by intro u hu; simp only [List.mem_cons, List.not_mem_nil, or_false] at hu; rcases hu with rfl | rfl <;> rfl) (by unfold maxLen; omega) (by omega) (by omega) ?_
            intro v4 V4 own gr att
            replace X := Lib.hid (X.out.grown RE.out (by decide) gr)
            replace Y := Lib.hid (Y.out.grown RE.out (by decide) gr)
            replace RA := Lib.hid (owns_grown RE.out RA.out (by decide) gr)
            replace BL := Lib.hid (below_owns RE.out gr BL.out hsz)
            replace RE := Lib.hid own
            clear own gr att HNN hsz BN17
            clear c0
            have c0 : V4.cell? ⟨w1x.heap.size, 0, none⟩ = some (.slice a1 n1 c1) := by rw [X.out.cell]; rfl
            clear c1x
            have c1x : V4.cell? ⟨w1x.heap.size, 1, none⟩ = some (.slice a2 n2 c2) := by rw [X.out.cell]; rfl
            clear c2x
            have c2x : V4.cell? ⟨w.heap.size, 0, none⟩ = some (.slice (some ⟨b1, o1, none⟩) l.at_.length cap) := by rw [(HL1.out.below BL.out).cell]; rfl
            clear c3x
            have c3x : V4.cell? ⟨w.heap.size, 1, none⟩ = some (.slice (some ⟨b2, o2, none⟩) l.edges.length cap') := by rw [(HL1.out.below BL.out).cell]; rfl
            clear c4x
            have c4x : V4.cell? ⟨b1, o1 + j, none⟩ = some (.int .i64 (A)) := cellB hc1 BL.out
            clear c5x
            have c5x : V4.cell? ⟨b2, o2 + j * 2, none⟩ = some (.int .i64 lo) := cellB hc2 BL.out
            clear c6x
            have c6x : V4.cell? ⟨b2, o2 + j * 2 + 1, none⟩ = some (.int .i64 hi) := cellB hc3 BL.out
            refine hK.out _ _ (fun _ => ⟨c0, c1x, c2x, c3x, c4x, c5x, c6x⟩) (fun _ => ?_)
            clear hK K
            try simp only [Act.put]
            refine wpAnyT_chain (fuel := 3) rfl (by kernel_rfl) ?_
            simp only [List.drop_succ_cons, List.drop_zero]
            clear hS inv c0 c1x c2x c3x c4x c5x c6x
            obtain ⟨a7, n7, c7, rfl⟩ := (Row.of_owns RA.out).slice
            obtain ⟨a8, n8, c8, rfl⟩ := (Row.of_owns RE.out).slice
            have x0' := X.out.cell 0
            have x1 := X.out.cell 1
            have z0 := X.out.frozen 0
            have z1 := X.out.frozen 1
            have xl := X.out.lt
            simp at x0' x1
            have U := (X.out.set (j := 0) (.slice a7 n7 c7)).set (j := 1) (.slice a8 n8 c8)
            simp only [List.setIfInBounds_toArray, List.set_cons_zero, List.set_cons_succ] at U
            have X1 := X.out.set (j := 0) (.slice a7 n7 c7)
            replace RA := Lib.hid (owns_set (owns_set RA.out X.out (by decide) 0 (.slice a7 n7 c7)) X1 (by decide) 1 (.slice a8 n8 c8))
            replace RE := Lib.hid (owns_set (owns_set RE.out X.out (by decide) 0 (.slice a7 n7 c7)) X1 (by decide) 1 (.slice a8 n8 c8))
            replace Y := Lib.hid ((Y.out.other (b := w1x.heap.size) (by omega) (j := 0) (.slice a7 n7 c7)).other (b := w1x.heap.size) (by omega) (j := 1) (.slice a8 n8 c8))
            replace BL := Lib.hid ((BL.out.setCell (p := ⟨w1x.heap.size, 0, none⟩) (by simp <;> omega) (.slice a7 n7 c7)).setCell (p := ⟨w1x.heap.size, 1, none⟩) (by simp <;> omega) (.slice a8 n8 c8))
            replace X := Lib.hid U
            clear U X1
            go_wp2
            go_roundw
            case rel =>
              refine ⟨k + 1, (j : Int) - 1, .slice a7 n7 c7, .slice a8 n8 c8, rfl, by have := HZ.out; omega, by omega, ?_, ?_, X.out, Y.out, BL.out⟩
              · rw [upto_snoc, List.map_append, HG.out]
                exact RA.out
              · rw [upto_snoc, pairCells_snoc, HG2.out]
                exact RE.out
            case measure => first | (simp [intOf]; done) | (simp [intOf]; omega)
          refine AllReadyT.cons rfl (fun K hK => ?_) AllReadyT.nil
          go_simp
          have hbA := below1 V1 (.cells #[.int .i64 (lo), .int .i64 (hi)] 69)
          have BN17 := Lib.hid (Blk.new V1 (.cells #[.int .i64 (lo), .int .i64 (hi)] 69))
          have AN17RA := fun g (h : Value.ownBlock (.slice a1 n1 c1) = some g) (e : g = V1.heap.size) => show False by have := owns_block RA.out h; omega
          have AN17RE := fun g (h : Value.ownBlock (.slice a2 n2 c2) = some g) (e : g = V1.heap.size) => show False by have := owns_block RE.out h; omega
          generalize V1.alloc (.cells #[.int .i64 (lo), .int .i64 (hi)] 69) = V5 at *
          replace RA := Lib.hid (owns_below RA.out hbA)
          replace RE := Lib.hid (owns_below RE.out hbA)
          replace X := Lib.hid (X.out.below hbA)
          replace Y := Lib.hid (Y.out.below hbA)
          replace BN8 := Lib.hid (BN8.out.below hbA)
          replace BL := Lib.hid (bC BL.out hbA)
          clear hbA
          clear c0
          have c0 : V5.cell? ⟨w1x.heap.size, 0, none⟩ = some (.slice a1 n1 c1) := by rw [X.out.cell]; rfl
          clear c1x
          have c1x : V5.cell? ⟨w1x.heap.size, 1, none⟩ = some (.slice a2 n2 c2) := by rw [X.out.cell]; rfl
          clear c2x
          have c2x : V5.cell? ⟨w.heap.size, 0, none⟩ = some (.slice (some ⟨b1, o1, none⟩) l.at_.length cap) := by rw [(HL1.out.below BL.out).cell]; rfl
          clear c3x
          have c3x : V5.cell? ⟨w.heap.size, 1, none⟩ = some (.slice (some ⟨b2, o2, none⟩) l.edges.length cap') := by rw [(HL1.out.below BL.out).cell]; rfl
          clear c4x
          have c4x : V5.cell? ⟨b1, o1 + j, none⟩ = some (.int .i64 (A)) := cellB hc1 BL.out
          clear c5x
          have c5x : V5.cell? ⟨b2, o2 + j * 2, none⟩ = some (.int .i64 lo) := cellB hc2 BL.out
          clear c6x
          have c6x : V5.cell? ⟨b2, o2 + j * 2 + 1, none⟩ = some (.int .i64 hi) := cellB hc3 BL.out
          refine hK.out _ _ (fun _ => ⟨c0, c1x, c2x, c3x, c4x, c5x, c6x⟩) (fun _ => ?_)
          clear hK K
          try simp only [Act.put]
          refine wpAnyT_ready [9] (by kernel_rfl) (by simp) ?_
          refine AllReadyT.cons rfl (fun K hK => ?_) AllReadyT.nil
          refine Eq.mpr (if_pos ?_) ?_
          · rfl
          have hsz := BL.out.size
          have HNN := Lib.hid (cells_one (by rw [BN8.out.cell]; rfl) : ∀ m u, ([.int .i64 (100 - A)] : List Value)[m]? = some u → V5.cell? (Addr.add ⟨V0.heap.size, 0, none⟩ m) = some u)
          refine wp_append_at _ _ _ 22 rfl w1x.heap.size 2 ii (.int .i64 0) 1 8 undI II.out J0.out J1.out J2.out rfl (by decide) _ _ _ rfl RA.out ⟨V0.heap.size, 0, none⟩ 1 1 [.int .i64 (100 - A)] rfl rfl HNN.out (by intro u hu; simp only [List.mem_cons, List.not_mem_nil, or_false] at hu; subst hu; rfl) (by unfold maxLen; omega) (by omega) (by omega) ?_
          intro v3 V6 own gr att
          replace X := Lib.hid (X.out.grown RA.out (by decide) gr)
          replace Y := Lib.hid (Y.out.grown RA.out (by decide) gr)
          replace BN17 : Hid (Blk V6 (V1.heap.size) (.cells #[.int .i64 (lo), .int .i64 (hi)] 69)) := Lib.hid ((gr.block _ BN17.out.lt (fun h => AN17RA _ h.symm rfl)).trans BN17.out)
          replace RE := Lib.hid (owns_grown RA.out RE.out (by decide) gr)
          replace BL := Lib.hid (below_owns RA.out gr BL.out hsz)
          replace RA := Lib.hid own
          clear own gr att HNN hsz BN8
          clear c0
          have c0 : V6.cell? ⟨w1x.heap.size, 0, none⟩ = some (.slice a1 n1 c1) := by rw [X.out.cell]; rfl
          clear c1x
          have c1x : V6.cell? ⟨w1x.heap.size, 1, none⟩ = some (.slice a2 n2 c2) := by rw [X.out.cell]; rfl
          clear c2x
          have c2x : V6.cell? ⟨w.heap.size, 0, none⟩ = some (.slice (some ⟨b1, o1, none⟩) l.at_.length cap) := by rw [(HL1.out.below BL.out).cell]; rfl
          clear c3x
          have c3x : V6.cell? ⟨w.heap.size, 1, none⟩ = some (.slice (some ⟨b2, o2, none⟩) l.edges.length cap') := by rw [(HL1.out.below BL.out).cell]; rfl
          clear c4x
          have c4x : V6.cell? ⟨b1, o1 + j, none⟩ = some (.int .i64 (A)) := cellB hc1 BL.out
          clear c5x
          have c5x : V6.cell? ⟨b2, o2 + j * 2, none⟩ = some (.int .i64 lo) := cellB hc2 BL.out
          clear c6x
          have c6x : V6.cell? ⟨b2, o2 + j * 2 + 1, none⟩ = some (.int .i64 hi) := cellB hc3 BL.out
          refine hK.out _ _ (fun _ => ⟨c0, c1x, c2x, c3x, c4x, c5x, c6x⟩) (fun _ => ?_)
          clear hK K
          try simp only [Act.put]
          replace inv := HeadM.step inv 8 (by kernel_rfl) (by omega)
          replace inv := HeadM.step inv 17 (by kernel_rfl) (by omega)
          replace inv := HeadM.step inv 9 (by kernel_rfl) (by omega)
          clear hS
          have hS : V6.cell? ⟨w1x.heap.size, 0, none⟩ = some (.slice a1 n1 c1) ∧ V6.cell? ⟨w1x.heap.size, 1, none⟩ = some (.slice a2 n2 c2) ∧ V6.cell? ⟨w.heap.size, 0, none⟩ = some (.slice (some ⟨b1, o1, none⟩) l.at_.length cap) ∧ V6.cell? ⟨w.heap.size, 1, none⟩ = some (.slice (some ⟨b2, o2, none⟩) l.edges.length cap') ∧ V6.cell? ⟨b1, o1 + j, none⟩ = some (.int .i64 (A)) ∧ V6.cell? ⟨b2, o2 + j * 2, none⟩ = some (.int .i64 lo) ∧ V6.cell? ⟨b2, o2 + j * 2 + 1, none⟩ = some (.int .i64 hi) := ⟨c0, c1x, c2x, c3x, c4x, c5x, c6x⟩
          refine wpAnyT_take inv (by kernel_rfl) (by omega) (i := 19) (v := .pointer (some ⟨w1x.heap.size, 0, none⟩)) rfl (by kernel_rfl) (by kernel_rfl) (fun _ _ _ h => h) (Or.inl ⟨by kernel_rfl, ?_⟩) (by assumption) ?_
          · rintro W' ⟨s0, s1, s2, s3, s4, s5, s6⟩
            go_simp
          intro inv2
          clear inv
          have inv := inv2
          clear inv2
          simp only [Act.put, List.setIfInBounds_toArray]
          refine wpAnyT_ready [18] (by kernel_rfl) (by simp) ?_
          refine AllReadyT.cons rfl (fun K hK => ?_) AllReadyT.nil
          refine Eq.mpr (if_pos ?_) ?_
          · rfl
          have hsz := BL.out.size
          have HNN := Lib.hid (cells_pair (by rw [BN17.out.cell]; rfl) (by rw [BN17.out.cell]; rfl) : ∀ m u, ([.int .i64 (lo), .int .i64 (hi)] : List Value)[m]? = some u → V6.cell? (Addr.add ⟨V1.heap.size, 0, none⟩ m) = some u)
          refine wp_append_at _ _ _ 23 rfl w1x.heap.size 69 ir (.agg #[.int .i64 0, .int .i64 0]) 2 16 undR IR.out K0.out K1.out K2.out rfl (by decide) _ _ _ rfl RE.out ⟨V1.heap.size, 0, none⟩ 1 1 [.int .i64 (lo), .int .i64 (hi)] rfl rfl HNN.out (by intro u hu; simp only [List.mem_cons, List.not_mem_nil, or_false] at hu; rcases hu with rfl | rfl <;> rfl) (by unfold maxLen; omega) (by omega) (by omega) ?_
          intro v4 V7 own gr att
          replace X := Lib.hid (X.out.grown RE.out (by decide) gr)
          replace Y := Lib.hid (Y.out.grown RE.out (by decide) gr)
          replace RA := Lib.hid (owns_grown RE.out RA.out (by decide) gr)
          replace BL := Lib.hid (below_owns RE.out gr BL.out hsz)
          replace RE := Lib.hid own
          clear own gr att HNN hsz BN17
          clear c0
          have c0 : V7.cell? ⟨w1x.heap.size, 0, none⟩ = some (.slice a1 n1 c1) := by rw [X.out.cell]; rfl
          clear c1x
          have c1x : V7.cell? ⟨w1x.heap.size, 1, none⟩ = some (.slice a2 n2 c2) := by rw [X.out.cell]; rfl
          clear c2x
          have c2x : V7.cell? ⟨w.heap.size, 0, none⟩ = some (.slice (some ⟨b1, o1, none⟩) l.at_.length cap) := by rw [(HL1.out.below BL.out).cell]; rfl
          clear c3x
          have c3x : V7.cell? ⟨w.heap.size, 1, none⟩ = some (.slice (some ⟨b2, o2, none⟩) l.edges.length cap') := by rw [(HL1.out.below BL.out).cell]; rfl
          clear c4x
          have c4x : V7.cell? ⟨b1, o1 + j, none⟩ = some (.int .i64 (A)) := cellB hc1 BL.out
          clear c5x
          have c5x : V7.cell? ⟨b2, o2 + j * 2, none⟩ = some (.int .i64 lo) := cellB hc2 BL.out
          clear c6x
          have c6x : V7.cell? ⟨b2, o2 + j * 2 + 1, none⟩ = some (.int .i64 hi) := cellB hc3 BL.out
          refine hK.out _ _ (fun _ => ⟨c0, c1x, c2x, c3x, c4x, c5x, c6x⟩) (fun _ => ?_)
          clear hK K
          try simp only [Act.put]
          refine wpAnyT_chain (fuel := 3) rfl (by kernel_rfl) ?_
          simp only [List.drop_succ_cons, List.drop_zero]
          clear hS inv c0 c1x c2x c3x c4x c5x c6x
          obtain ⟨a7, n7, c7, rfl⟩ := (Row.of_owns RA.out).slice
          obtain ⟨a8, n8, c8, rfl⟩ := (Row.of_owns RE.out).slice
          have x0' := X.out.cell 0
          have x1 := X.out.cell 1
          have z0 := X.out.frozen 0
          have z1 := X.out.frozen 1
          have xl := X.out.lt
          simp at x0' x1
          have U := (X.out.set (j := 0) (.slice a7 n7 c7)).set (j := 1) (.slice a8 n8 c8)
          simp only [List.setIfInBounds_toArray, List.set_cons_zero, List.set_cons_succ] at U
          have X1 := X.out.set (j := 0) (.slice a7 n7 c7)
          replace RA := Lib.hid (owns_set (owns_set RA.out X.out (by decide) 0 (.slice a7 n7 c7)) X1 (by decide) 1 (.slice a8 n8 c8))
          replace RE := Lib.hid (owns_set (owns_set RE.out X.out (by decide) 0 (.slice a7 n7 c7)) X1 (by decide) 1 (.slice a8 n8 c8))
          replace Y := Lib.hid ((Y.out.other (b := w1x.heap.size) (by omega) (j := 0) (.slice a7 n7 c7)).other (b := w1x.heap.size) (by omega) (j := 1) (.slice a8 n8 c8))
          replace BL := Lib.hid ((BL.out.setCell (p := ⟨w1x.heap.size, 0, none⟩) (by simp <;> omega) (.slice a7 n7 c7)).setCell (p := ⟨w1x.heap.size, 1, none⟩) (by simp <;> omega) (.slice a8 n8 c8))
          replace X := Lib.hid U
          clear U X1
          go_wp2
          go_roundw
          case rel =>
            refine ⟨k + 1, (j : Int) - 1, .slice a7 n7 c7, .slice a8 n8 c8, rfl, by have := HZ.out; omega, by omega, ?_, ?_, X.out, Y.out, BL.out⟩
            · rw [upto_snoc, List.map_append, HG.out]
              exact RA.out
            · rw [upto_snoc, pairCells_snoc, HG2.out]
              exact RE.out
          case measure => first | (simp [intOf]; done) | (simp [intOf]; omega)
        refine AllReadyT.cons rfl (fun K hK => ?_) AllReadyT.nil
        go_simp
        have hbA := below1 V0 (.cells #[.int .i64 (lo), .int .i64 (hi)] 69)
        have BN17 := Lib.hid (Blk.new V0 (.cells #[.int .i64 (lo), .int .i64 (hi)] 69))
        have AN17RA := fun g (h : Value.ownBlock (.slice a1 n1 c1) = some g) (e : g = V0.heap.size) => show False by have := owns_block RA.out h; omega
        have AN17RE := fun g (h : Value.ownBlock (.slice a2 n2 c2) = some g) (e : g = V0.heap.size) => show False by have := owns_block RE.out h; omega
        generalize V0.alloc (.cells #[.int .i64 (lo), .int .i64 (hi)] 69) = V8 at *
        replace RA := Lib.hid (owns_below RA.out hbA)
        replace RE := Lib.hid (owns_below RE.out hbA)
        replace X := Lib.hid (X.out.below hbA)
        replace Y := Lib.hid (Y.out.below hbA)
        replace BL := Lib.hid (bC BL.out hbA)
        clear hbA
        clear c0
        have c0 : V8.cell? ⟨w1x.heap.size, 0, none⟩ = some (.slice a1 n1 c1) := by rw [X.out.cell]; rfl
        clear c1x
        have c1x : V8.cell? ⟨w1x.heap.size, 1, none⟩ = some (.slice a2 n2 c2) := by rw [X.out.cell]; rfl
        clear c2x
        have c2x : V8.cell? ⟨w.heap.size, 0, none⟩ = some (.slice (some ⟨b1, o1, none⟩) l.at_.length cap) := by rw [(HL1.out.below BL.out).cell]; rfl
        clear c3x
        have c3x : V8.cell? ⟨w.heap.size, 1, none⟩ = some (.slice (some ⟨b2, o2, none⟩) l.edges.length cap') := by rw [(HL1.out.below BL.out).cell]; rfl
        clear c4x
        have c4x : V8.cell? ⟨b1, o1 + j, none⟩ = some (.int .i64 (A)) := cellB hc1 BL.out
        clear c5x
        have c5x : V8.cell? ⟨b2, o2 + j * 2, none⟩ = some (.int .i64 lo) := cellB hc2 BL.out
        clear c6x
        have c6x : V8.cell? ⟨b2, o2 + j * 2 + 1, none⟩ = some (.int .i64 hi) := cellB hc3 BL.out
        refine hK.out _ _ (fun _ => ⟨c0, c1x, c2x, c3x, c4x, c5x, c6x⟩) (fun _ => ?_)
        clear hK K
        try simp only [Act.put]
        refine wpAnyT_ready [8] (by kernel_rfl) (by simp) ?_
        refine AllReadyT.cons rfl (fun K hK => ?_) AllReadyT.nil
        go_simp
        have hbA := below1 V8 (.cells #[.int .i64 (100 - A)] 2)
        have BN8 := Lib.hid (Blk.new V8 (.cells #[.int .i64 (100 - A)] 2))
        have AN8RA := fun g (h : Value.ownBlock (.slice a1 n1 c1) = some g) (e : g = V8.heap.size) => show False by have := owns_block RA.out h; omega
        have AN8RE := fun g (h : Value.ownBlock (.slice a2 n2 c2) = some g) (e : g = V8.heap.size) => show False by have := owns_block RE.out h; omega
        generalize V8.alloc (.cells #[.int .i64 (100 - A)] 2) = V9 at *
        replace RA := Lib.hid (owns_below RA.out hbA)
        replace RE := Lib.hid (owns_below RE.out hbA)
        replace X := Lib.hid (X.out.below hbA)
        replace Y := Lib.hid (Y.out.below hbA)
        replace BN17 := Lib.hid (BN17.out.below hbA)
        replace BL := Lib.hid (bC BL.out hbA)
        clear hbA
        clear c0
        have c0 : V9.cell? ⟨w1x.heap.size, 0, none⟩ = some (.slice a1 n1 c1) := by rw [X.out.cell]; rfl
        clear c1x
        have c1x : V9.cell? ⟨w1x.heap.size, 1, none⟩ = some (.slice a2 n2 c2) := by rw [X.out.cell]; rfl
        clear c2x
        have c2x : V9.cell? ⟨w.heap.size, 0, none⟩ = some (.slice (some ⟨b1, o1, none⟩) l.at_.length cap) := by rw [(HL1.out.below BL.out).cell]; rfl
        clear c3x
        have c3x : V9.cell? ⟨w.heap.size, 1, none⟩ = some (.slice (some ⟨b2, o2, none⟩) l.edges.length cap') := by rw [(HL1.out.below BL.out).cell]; rfl
        clear c4x
        have c4x : V9.cell? ⟨b1, o1 + j, none⟩ = some (.int .i64 (A)) := cellB hc1 BL.out
        clear c5x
        have c5x : V9.cell? ⟨b2, o2 + j * 2, none⟩ = some (.int .i64 lo) := cellB hc2 BL.out
        clear c6x
        have c6x : V9.cell? ⟨b2, o2 + j * 2 + 1, none⟩ = some (.int .i64 hi) := cellB hc3 BL.out
        refine hK.out _ _ (fun _ => ⟨c0, c1x, c2x, c3x, c4x, c5x, c6x⟩) (fun _ => ?_)
        clear hK K
        try simp only [Act.put]
        refine wpAnyT_ready [9] (by kernel_rfl) (by simp) ?_
        refine AllReadyT.cons rfl (fun K hK => ?_) AllReadyT.nil
        refine Eq.mpr (if_pos ?_) ?_
        · rfl
        have hsz := BL.out.size
        have HNN := Lib.hid (cells_one (by rw [BN8.out.cell]; rfl) : ∀ m u, ([.int .i64 (100 - A)] : List Value)[m]? = some u → V9.cell? (Addr.add ⟨V8.heap.size, 0, none⟩ m) = some u)
        refine wp_append_at _ _ _ 22 rfl w1x.heap.size 2 ii (.int .i64 0) 1 8 undI II.out J0.out J1.out J2.out rfl (by decide) _ _ _ rfl RA.out ⟨V8.heap.size, 0, none⟩ 1 1 [.int .i64 (100 - A)] rfl rfl HNN.out (by intro u hu; simp only [List.mem_cons, List.not_mem_nil, or_false] at hu; subst hu; rfl) (by unfold maxLen; omega) (by omega) (by omega) ?_
        intro v3 V10 own gr att
        replace X := Lib.hid (X.out.grown RA.out (by decide) gr)
        replace Y := Lib.hid (Y.out.grown RA.out (by decide) gr)
        replace BN17 : Hid (Blk V10 (V0.heap.size) (.cells #[.int .i64 (lo), .int .i64 (hi)] 69)) := Lib.hid ((gr.block _ BN17.out.lt (fun h => AN17RA _ h.symm rfl)).trans BN17.out)
        replace RE := Lib.hid (owns_grown RA.out RE.out (by decide) gr)
        replace BL := Lib.hid (below_owns RA.out gr BL.out hsz)
        replace RA := Lib.hid own
        clear own gr att HNN hsz BN8
        clear c0
        have c0 : V10.cell? ⟨w1x.heap.size, 0, none⟩ = some (.slice a1 n1 c1) := by rw [X.out.cell]; rfl
        clear c1x
        have c1x : V10.cell? ⟨w1x.heap.size, 1, none⟩ = some (.slice a2 n2 c2) := by rw [X.out.cell]; rfl
        clear c2x
        have c2x : V10.cell? ⟨w.heap.size, 0, none⟩ = some (.slice (some ⟨b1, o1, none⟩) l.at_.length cap) := by rw [(HL1.out.below BL.out).cell]; rfl
        clear c3x
        have c3x : V10.cell? ⟨w.heap.size, 1, none⟩ = some (.slice (some ⟨b2, o2, none⟩) l.edges.length cap') := by rw [(HL1.out.below BL.out).cell]; rfl
        clear c4x
        have c4x : V10.cell? ⟨b1, o1 + j, none⟩ = some (.int .i64 (A)) := cellB hc1 BL.out
        clear c5x
        have c5x : V10.cell? ⟨b2, o2 + j * 2, none⟩ = some (.int .i64 lo) := cellB hc2 BL.out
        clear c6x
        have c6x : V10.cell? ⟨b2, o2 + j * 2 + 1, none⟩ = some (.int .i64 hi) := cellB hc3 BL.out
        refine hK.out _ _ (fun _ => ⟨c0, c1x, c2x, c3x, c4x, c5x, c6x⟩) (fun _ => ?_)
        clear hK K
        try simp only [Act.put]
        replace inv := HeadM.step inv 17 (by kernel_rfl) (by omega)
        replace inv := HeadM.step inv 8 (by kernel_rfl) (by omega)
        replace inv := HeadM.step inv 9 (by kernel_rfl) (by omega)
        clear hS
        have hS : V10.cell? ⟨w1x.heap.size, 0, none⟩ = some (.slice a1 n1 c1) ∧ V10.cell? ⟨w1x.heap.size, 1, none⟩ = some (.slice a2 n2 c2) ∧ V10.cell? ⟨w.heap.size, 0, none⟩ = some (.slice (some ⟨b1, o1, none⟩) l.at_.length cap) ∧ V10.cell? ⟨w.heap.size, 1, none⟩ = some (.slice (some ⟨b2, o2, none⟩) l.edges.length cap') ∧ V10.cell? ⟨b1, o1 + j, none⟩ = some (.int .i64 (A)) ∧ V10.cell? ⟨b2, o2 + j * 2, none⟩ = some (.int .i64 lo) ∧ V10.cell? ⟨b2, o2 + j * 2 + 1, none⟩ = some (.int .i64 hi) := ⟨c0, c1x, c2x, c3x, c4x, c5x, c6x⟩
        refine wpAnyT_take inv (by kernel_rfl) (by omega) (i := 19) (v := .pointer (some ⟨w1x.heap.size, 0, none⟩)) rfl (by kernel_rfl) (by kernel_rfl) (fun _ _ _ h => h) (Or.inl ⟨by kernel_rfl, ?_⟩) (by assumption) ?_
        · rintro W' ⟨s0, s1, s2, s3, s4, s5, s6⟩
          go_simp
        intro inv2
        clear inv
        have inv := inv2
        clear inv2
        simp only [Act.put, List.setIfInBounds_toArray]
        refine wpAnyT_ready [18] (by kernel_rfl) (by simp) ?_
        refine AllReadyT.cons rfl (fun K hK => ?_) AllReadyT.nil
        refine Eq.mpr (if_pos ?_) ?_
        · rfl
        have hsz := BL.out.size
        have HNN := Lib.hid (cells_pair (by rw [BN17.out.cell]; rfl) (by rw [BN17.out.cell]; rfl) : ∀ m u, ([.int .i64 (lo), .int .i64 (hi)] : List Value)[m]? = some u → V10.cell? (Addr.add ⟨V0.heap.size, 0, none⟩ m) = some u)
        refine wp_append_at _ _ _ 23 rfl w1x.heap.size 69 ir (.agg #[.int .i64 0, .int .i64 0]) 2 16 undR IR.out K0.out K1.out K2.out rfl (by decide) _ _ _ rfl RE.out ⟨V0.heap.size, 0, none⟩ 1 1 [.int .i64 (lo), .int .i64 (hi)] rfl rfl HNN.out (by intro u hu; simp only [List.mem_cons, List.not_mem_nil, or_false] at hu; rcases hu with rfl | rfl <;> rfl) (by unfold maxLen; omega) (by omega) (by omega) ?_
        intro v4 V11 own gr att
        replace X := Lib.hid (X.out.grown RE.out (by decide) gr)
        replace Y := Lib.hid (Y.out.grown RE.out (by decide) gr)
        replace RA := Lib.hid (owns_grown RE.out RA.out (by decide) gr)
        replace BL := Lib.hid (below_owns RE.out gr BL.out hsz)
        replace RE := Lib.hid own
        clear own gr att HNN hsz BN17
        clear c0
        have c0 : V11.cell? ⟨w1x.heap.size, 0, none⟩ = some (.slice a1 n1 c1) := by rw [X.out.cell]; rfl
        clear c1x
        have c1x : V11.cell? ⟨w1x.heap.size, 1, none⟩ = some (.slice a2 n2 c2) := by rw [X.out.cell]; rfl
        clear c2x
        have c2x : V11.cell? ⟨w.heap.size, 0, none⟩ = some (.slice (some ⟨b1, o1, none⟩) l.at_.length cap) := by rw [(HL1.out.below BL.out).cell]; rfl
        clear c3x
        have c3x : V11.cell? ⟨w.heap.size, 1, none⟩ = some (.slice (some ⟨b2, o2, none⟩) l.edges.length cap') := by rw [(HL1.out.below BL.out).cell]; rfl
        clear c4x
        have c4x : V11.cell? ⟨b1, o1 + j, none⟩ = some (.int .i64 (A)) := cellB hc1 BL.out
        clear c5x
        have c5x : V11.cell? ⟨b2, o2 + j * 2, none⟩ = some (.int .i64 lo) := cellB hc2 BL.out
        clear c6x
        have c6x : V11.cell? ⟨b2, o2 + j * 2 + 1, none⟩ = some (.int .i64 hi) := cellB hc3 BL.out
        refine hK.out _ _ (fun _ => ⟨c0, c1x, c2x, c3x, c4x, c5x, c6x⟩) (fun _ => ?_)
        clear hK K
        try simp only [Act.put]
        refine wpAnyT_chain (fuel := 3) rfl (by kernel_rfl) ?_
        simp only [List.drop_succ_cons, List.drop_zero]
        clear hS inv c0 c1x c2x c3x c4x c5x c6x
        obtain ⟨a7, n7, c7, rfl⟩ := (Row.of_owns RA.out).slice
        obtain ⟨a8, n8, c8, rfl⟩ := (Row.of_owns RE.out).slice
        have x0' := X.out.cell 0
        have x1 := X.out.cell 1
        have z0 := X.out.frozen 0
        have z1 := X.out.frozen 1
        have xl := X.out.lt
        simp at x0' x1
        have U := (X.out.set (j := 0) (.slice a7 n7 c7)).set (j := 1) (.slice a8 n8 c8)
        simp only [List.setIfInBounds_toArray, List.set_cons_zero, List.set_cons_succ] at U
        have X1 := X.out.set (j := 0) (.slice a7 n7 c7)
        replace RA := Lib.hid (owns_set (owns_set RA.out X.out (by decide) 0 (.slice a7 n7 c7)) X1 (by decide) 1 (.slice a8 n8 c8))
        replace RE := Lib.hid (owns_set (owns_set RE.out X.out (by decide) 0 (.slice a7 n7 c7)) X1 (by decide) 1 (.slice a8 n8 c8))
        replace Y := Lib.hid ((Y.out.other (b := w1x.heap.size) (by omega) (j := 0) (.slice a7 n7 c7)).other (b := w1x.heap.size) (by omega) (j := 1) (.slice a8 n8 c8))
        replace BL := Lib.hid ((BL.out.setCell (p := ⟨w1x.heap.size, 0, none⟩) (by simp <;> omega) (.slice a7 n7 c7)).setCell (p := ⟨w1x.heap.size, 1, none⟩) (by simp <;> omega) (.slice a8 n8 c8))
        replace X := Lib.hid U
        clear U X1
        go_wp2
        go_roundw
        case rel =>
          refine ⟨k + 1, (j : Int) - 1, .slice a7 n7 c7, .slice a8 n8 c8, rfl, by have := HZ.out; omega, by omega, ?_, ?_, X.out, Y.out, BL.out⟩
          · rw [upto_snoc, List.map_append, HG.out]
            exact RA.out
          · rw [upto_snoc, pairCells_snoc, HG2.out]
            exact RE.out
        case measure => first | (simp [intOf]; done) | (simp [intOf]; omega)
      · obtain rfl : k = l.at_.length := by omega
        have tz : decide ((0 : Int) ≤ z) = false := by simp; omega
        clear hz hlt hk
        go_wp2_with fail
        clear m0 m1 ml
        go_loopw [12] (fun i wr => ∃ (k : Nat) (va ve : Value), i = .int .i64 (k : Int) ∧ k ≤ l.at_.length ∧ wr.ownsRow w1x.heap.size 2 1 (.slice a1 n1 c1) l.at_.length ((upto (endF l) l.at_.length).map (Value.int .i64)) ∧ wr.ownsRow w1x.heap.size 69 2 (.slice a2 n2 c2) l.at_.length (pairCells (upto (endG l) l.at_.length)) ∧ wr.ownsRow w1x.heap.size 2 1 va k ((upto (atD l) k).map (Value.int .i64)) ∧ wr.ownsRow w1x.heap.size 69 2 ve k (pairCells (upto (downG l) k)) ∧ Apart (.slice a1 n1 c1) va ∧ Apart (.slice a2 n2 c2) ve ∧ Blk wr w1x.heap.size (.cells #[.slice a1 n1 c1, .slice a2 n2 c2] 25) ∧ Blk wr (w1x.heap.size + 1) (.cells #[va, ve] 25) ∧ Below w1x.heap.size w1x wr) (fun i _ => l.at_.length - (intOf i).toNat)
        case atStart =>
          exact ⟨0, .slice none 0 0, .slice none 0 0, rfl, Nat.zero_le _, RA.out, RE.out, ⟨rfl, .inl ⟨rfl, rfl⟩⟩, ⟨rfl, .inl ⟨rfl, rfl⟩⟩, Apart.nil, Apart.nil, X.out, Y.out, BL.out⟩
        case round =>
          clear RA RE X Y BL hx0
          rename_i wr
          obtain ⟨k, va, ve, rfl, hk, hra, hre, hra2, hre2, hap1, hap2, hE, hD, hB⟩ := hrel
          obtain ⟨a3, n3, c3, rfl⟩ := (Row.of_owns hra2).slice
          obtain ⟨a4, n4, c4, rfl⟩ := (Row.of_owns hre2).slice
          have RA := Lib.hid hra
          have RE := Lib.hid hre
          have RA2 := Lib.hid hra2
          have RE2 := Lib.hid hre2
          have AP_RA_RA2 := hap1
          have AP_RE_RE2 := hap2
          have X := Lib.hid hE
          have Y := Lib.hid hD
          have BL := Lib.hid hB
          have hx0 : w1x.heap.size + 1 < wr.heap.size := hD.lt
          have hL := HL1.out.below hB
          have m0 := hL.cell 0
          have m1 := hL.cell 1
          simp at m0 m1
          have ml := hL.lt
          have rk1 : IntKind.i64.wrap ((k : Int) + 1) = (k : Int) + 1 := IntWalk.i64_in _ (by omega)
          clear hra hre hra2 hre2 hap1 hap2 hE hD hB hL
          by_cases hlt : k < l.at_.length
          · have hle : k < l.edges.length := by have := HLEN.out; omega
            obtain ⟨b1, o1, rfl, hc1⟩ := HIA.out k hlt
            obtain ⟨b2, o2, rfl, hc2, hc3⟩ := HPA.out k hle
            rw [atD_eq hlt] at hc1
            rw [loD_eq hle] at hc2
            rw [hiD_eq hle] at hc3
            have hpt := log_pt HFIT.out hlt
            obtain ⟨A, hA⟩ : ∃ A, atD l k = A := ⟨_, rfl⟩
            obtain ⟨lo, hlo⟩ : ∃ lo, loD l k = lo := ⟨_, rfl⟩
            obtain ⟨hi, hhi⟩ : ∃ hi, hiD l k = hi := ⟨_, rfl⟩
            rw [hA] at hc1
            rw [hlo] at hc2
            rw [hhi] at hc3
            rw [hA, hlo, hhi] at hpt
            have HG := Lib.hid hA
            have HG2 := Lib.hid (show downG l k = (-hi, -lo) by simp only [downG, hlo, hhi])
            have y1 : IntKind.i64.wrap (-hi) = -hi := IntWalk.i64_in _ (by omega)
            have y2 : IntKind.i64.wrap (-lo) = -lo := IntWalk.i64_in _ (by omega)
            have tk : decide ((k : Int) < (l.at_.length : Int)) = true := by simp; omega
            clear hA hlo hhi hpt
            go_wp2_with fail
            clear m0 m1 ml
            have c0 : wr.cell? ⟨w1x.heap.size + 1, 0, none⟩ = some (.slice a3 n3 c3) := by rw [Y.out.cell]; rfl
            have c1x : wr.cell? ⟨w1x.heap.size + 1, 1, none⟩ = some (.slice a4 n4 c4) := by rw [Y.out.cell]; rfl
            have c2x : wr.cell? ⟨w.heap.size, 0, none⟩ = some (.slice (some ⟨b1, o1, none⟩) l.at_.length cap) := by rw [(HL1.out.below BL.out).cell]; rfl
            have c3x : wr.cell? ⟨w.heap.size, 1, none⟩ = some (.slice (some ⟨b2, o2, none⟩) l.edges.length cap') := by rw [(HL1.out.below BL.out).cell]; rfl
            have c4x : wr.cell? ⟨b1, o1 + k, none⟩ = some (.int .i64 (A)) := cellB hc1 BL.out
            have c5x : wr.cell? ⟨b2, o2 + k * 2, none⟩ = some (.int .i64 lo) := cellB hc2 BL.out
            have c6x : wr.cell? ⟨b2, o2 + k * 2 + 1, none⟩ = some (.int .i64 hi) := cellB hc3 BL.out
            refine wp_region_T 29 (fun W' => W'.cell? ⟨w1x.heap.size + 1, 0, none⟩ = some (.slice a3 n3 c3) ∧ W'.cell? ⟨w1x.heap.size + 1, 1, none⟩ = some (.slice a4 n4 c4) ∧ W'.cell? ⟨w.heap.size, 0, none⟩ = some (.slice (some ⟨b1, o1, none⟩) l.at_.length cap) ∧ W'.cell? ⟨w.heap.size, 1, none⟩ = some (.slice (some ⟨b2, o2, none⟩) l.edges.length cap') ∧ W'.cell? ⟨b1, o1 + k, none⟩ = some (.int .i64 (A)) ∧ W'.cell? ⟨b2, o2 + k * 2, none⟩ = some (.int .i64 lo) ∧ W'.cell? ⟨b2, o2 + k * 2 + 1, none⟩ = some (.int .i64 hi)) (by kernel_rfl) (by kernel_rfl) ⟨c0, c1x, c2x, c3x, c4x, c5x, c6x⟩ ?_
            intro inv hS
            have hbD : Below wr.heap.size wr wr.drew := (Below.refl _ _).drew
            generalize wr.drew = V0 at *
            replace RA := Lib.hid (owns_below RA.out hbD)
            replace RE := Lib.hid (owns_below RE.out hbD)
            replace RA2 := Lib.hid (owns_below RA2.out hbD)
            replace RE2 := Lib.hid (owns_below RE2.out hbD)
            replace X := Lib.hid (X.out.below hbD)
            replace Y := Lib.hid (Y.out.below hbD)
            replace BL := Lib.hid (bC BL.out hbD)
            clear hbD
            clear c0
            have c0 : V0.cell? ⟨w1x.heap.size + 1, 0, none⟩ = some (.slice a3 n3 c3) := by rw [Y.out.cell]; rfl
            clear c1x
            have c1x : V0.cell? ⟨w1x.heap.size + 1, 1, none⟩ = some (.slice a4 n4 c4) := by rw [Y.out.cell]; rfl
            clear c2x
            have c2x : V0.cell? ⟨w.heap.size, 0, none⟩ = some (.slice (some ⟨b1, o1, none⟩) l.at_.length cap) := by rw [(HL1.out.below BL.out).cell]; rfl
            clear c3x
            have c3x : V0.cell? ⟨w.heap.size, 1, none⟩ = some (.slice (some ⟨b2, o2, none⟩) l.edges.length cap') := by rw [(HL1.out.below BL.out).cell]; rfl
            clear c4x
            have c4x : V0.cell? ⟨b1, o1 + k, none⟩ = some (.int .i64 (A)) := cellB hc1 BL.out
            clear c5x
            have c5x : V0.cell? ⟨b2, o2 + k * 2, none⟩ = some (.int .i64 lo) := cellB hc2 BL.out
            clear c6x
            have c6x : V0.cell? ⟨b2, o2 + k * 2 + 1, none⟩ = some (.int .i64 hi) := cellB hc3 BL.out
            refine wpAnyT_take inv (by kernel_rfl) (by omega) (i := 0) (v := .pointer (some ⟨w1x.heap.size + 1, 0, none⟩)) rfl (by kernel_rfl) (by kernel_rfl) (fun _ _ _ h => h) (Or.inl ⟨by kernel_rfl, ?_⟩) (by assumption) ?_
            · rintro W' ⟨s0, s1, s2, s3, s4, s5, s6⟩
              go_simp
            intro inv2
            clear inv
            have inv := inv2
            clear inv2
            simp only [Act.put, List.setIfInBounds_toArray]
            refine wpAnyT_take inv (by kernel_rfl) (by omega) (i := 1) (v := .slice a3 n3 c3) rfl (by kernel_rfl) (by kernel_rfl) (fun _ _ _ h => h) (Or.inl ⟨by kernel_rfl, ?_⟩) (by assumption) ?_
            · rintro W' ⟨s0, s1, s2, s3, s4, s5, s6⟩
              go_simp
            intro inv2
            clear inv
            have inv := inv2
            clear inv2
            simp only [Act.put]
            refine wpAnyT_take inv (by kernel_rfl) (by omega) (i := 2) (v := .pointer (some ⟨w.heap.size, 0, none⟩)) rfl (by kernel_rfl) (by kernel_rfl) (fun _ _ _ h => h) (Or.inl ⟨by kernel_rfl, ?_⟩) (by assumption) ?_
            · rintro W' ⟨s0, s1, s2, s3, s4, s5, s6⟩
              go_simp
            intro inv2
            clear inv
            have inv := inv2
            clear inv2
            simp only [Act.put]
            refine wpAnyT_take inv (by kernel_rfl) (by omega) (i := 3) (v := .slice (some ⟨b1, o1, none⟩) l.at_.length cap) rfl (by kernel_rfl) (by kernel_rfl) (fun _ _ _ h => h) (Or.inl ⟨by kernel_rfl, ?_⟩) (by assumption) ?_
            · rintro W' ⟨s0, s1, s2, s3, s4, s5, s6⟩
              go_simp
            intro inv2
            clear inv
            have inv := inv2
            clear inv2
            simp only [Act.put]
            refine wpAnyT_take inv (by kernel_rfl) (by omega) (i := 4) (v := .int .i64 (k : Int)) rfl (by kernel_rfl) (by kernel_rfl) (fun _ _ _ h => h) (Or.inl ⟨by kernel_rfl, ?_⟩) (by assumption) ?_
            · rintro W' ⟨s0, s1, s2, s3, s4, s5, s6⟩
              go_simp
            intro inv2
            clear inv
            have inv := inv2
            clear inv2
            simp only [Act.put]
            refine wpAnyT_take inv (by kernel_rfl) (by omega) (i := 5) (v := .pointer (some ⟨b1, o1 + k, none⟩)) rfl (by kernel_rfl) (by kernel_rfl) (fun _ _ _ h => h) (Or.inl ⟨by kernel_rfl, ?_⟩) (by assumption) ?_
            · rintro W' ⟨s0, s1, s2, s3, s4, s5, s6⟩
              go_simp
            intro inv2
            clear inv
            have inv := inv2
            clear inv2
            simp only [Act.put]
            refine wpAnyT_take inv (by kernel_rfl) (by omega) (i := 6) (v := .int .i64 (A)) rfl (by kernel_rfl) (by kernel_rfl) (fun _ _ _ h => h) (Or.inl ⟨by kernel_rfl, ?_⟩) (by assumption) ?_
            · rintro W' ⟨s0, s1, s2, s3, s4, s5, s6⟩
              go_simp
            intro inv2
            clear inv
            have inv := inv2
            clear inv2
            simp only [Act.put]
            refine wpAnyT_take inv (by kernel_rfl) (by omega) (i := 9) (v := .pointer (some ⟨w1x.heap.size + 1, 1, none⟩)) rfl (by kernel_rfl) (by kernel_rfl) (fun _ _ _ h => h) (Or.inl ⟨by kernel_rfl, ?_⟩) (by assumption) ?_
            · rintro W' ⟨s0, s1, s2, s3, s4, s5, s6⟩
              go_simp
            intro inv2
            clear inv
            have inv := inv2
            clear inv2
            simp only [Act.put]
            refine wpAnyT_take inv (by kernel_rfl) (by omega) (i := 10) (v := .slice a4 n4 c4) rfl (by kernel_rfl) (by kernel_rfl) (fun _ _ _ h => h) (Or.inl ⟨by kernel_rfl, ?_⟩) (by assumption) ?_
            · rintro W' ⟨s0, s1, s2, s3, s4, s5, s6⟩
              go_simp
            intro inv2
            clear inv
            have inv := inv2
            clear inv2
            simp only [Act.put]
            refine wpAnyT_take inv (by kernel_rfl) (by omega) (i := 11) (v := .pointer (some ⟨w.heap.size, 1, none⟩)) rfl (by kernel_rfl) (by kernel_rfl) (fun _ _ _ h => h) (Or.inl ⟨by kernel_rfl, ?_⟩) (by assumption) ?_
            · rintro W' ⟨s0, s1, s2, s3, s4, s5, s6⟩
              go_simp
            intro inv2
            clear inv
            have inv := inv2
            clear inv2
            simp only [Act.put]
            refine wpAnyT_take inv (by kernel_rfl) (by omega) (i := 12) (v := .slice (some ⟨b2, o2, none⟩) l.edges.length cap') rfl (by kernel_rfl) (by kernel_rfl) (fun _ _ _ h => h) (Or.inl ⟨by kernel_rfl, ?_⟩) (by assumption) ?_
            · rintro W' ⟨s0, s1, s2, s3, s4, s5, s6⟩
              go_simp
            intro inv2
            clear inv
            have inv := inv2
            clear inv2
            simp only [Act.put]
            refine wpAnyT_take inv (by kernel_rfl) (by omega) (i := 13) (v := .int .i64 (k : Int)) rfl (by kernel_rfl) (by kernel_rfl) (fun _ _ _ h => h) (Or.inl ⟨by kernel_rfl, ?_⟩) (by assumption) ?_
            · rintro W' ⟨s0, s1, s2, s3, s4, s5, s6⟩
              go_simp
            intro inv2
            clear inv
            have inv := inv2
            clear inv2
            simp only [Act.put]
            refine wpAnyT_take inv (by kernel_rfl) (by omega) (i := 14) (v := .pointer (some ⟨b2, o2 + k * 2, none⟩)) rfl (by kernel_rfl) (by kernel_rfl) (fun _ _ _ h => h) (Or.inl ⟨by kernel_rfl, ?_⟩) (by assumption) ?_
            · rintro W' ⟨s0, s1, s2, s3, s4, s5, s6⟩
              go_simp
            intro inv2
            clear inv
            have inv := inv2
            clear inv2
            simp only [Act.put]
            refine wpAnyT_take inv (by kernel_rfl) (by omega) (i := 15) (v := .pointer (some ⟨b2, o2 + k * 2 + 1, none⟩)) rfl (by kernel_rfl) (by kernel_rfl) (fun _ _ _ h => h) (Or.inl ⟨by kernel_rfl, ?_⟩) (by assumption) ?_
            · rintro W' ⟨s0, s1, s2, s3, s4, s5, s6⟩
              go_simp
            intro inv2
            clear inv
            have inv := inv2
            clear inv2
            simp only [Act.put]
            refine wpAnyT_take inv (by kernel_rfl) (by omega) (i := 16) (v := .int .i64 (hi)) rfl (by kernel_rfl) (by kernel_rfl) (fun _ _ _ h => h) (Or.inl ⟨by kernel_rfl, ?_⟩) (by assumption) ?_
            · rintro W' ⟨s0, s1, s2, s3, s4, s5, s6⟩
              go_simp
            intro inv2
            clear inv
            have inv := inv2
            clear inv2
            simp only [Act.put]
            refine wpAnyT_take inv (by kernel_rfl) (by omega) (i := 17) (v := .int .i64 (-hi)) rfl (by kernel_rfl) (by kernel_rfl) (fun _ _ _ h => h) (Or.inl ⟨by kernel_rfl, ?_⟩) (by assumption) ?_
            · rintro W' ⟨s0, s1, s2, s3, s4, s5, s6⟩
              go_simp
            intro inv2
            clear inv
            have inv := inv2
            clear inv2
            simp only [Act.put]
            refine wpAnyT_take inv (by kernel_rfl) (by omega) (i := 18) (v := .pointer (some ⟨w.heap.size, 1, none⟩)) rfl (by kernel_rfl) (by kernel_rfl) (fun _ _ _ h => h) (Or.inl ⟨by kernel_rfl, ?_⟩) (by assumption) ?_
            · rintro W' ⟨s0, s1, s2, s3, s4, s5, s6⟩
              go_simp
            intro inv2
            clear inv
            have inv := inv2
            clear inv2
            simp only [Act.put]
            refine wpAnyT_take inv (by kernel_rfl) (by omega) (i := 19) (v := .slice (some ⟨b2, o2, none⟩) l.edges.length cap') rfl (by kernel_rfl) (by kernel_rfl) (fun _ _ _ h => h) (Or.inl ⟨by kernel_rfl, ?_⟩) (by assumption) ?_
            · rintro W' ⟨s0, s1, s2, s3, s4, s5, s6⟩
              go_simp
            intro inv2
            clear inv
            have inv := inv2
            clear inv2
            simp only [Act.put]
            refine wpAnyT_take inv (by kernel_rfl) (by omega) (i := 20) (v := .int .i64 (k : Int)) rfl (by kernel_rfl) (by kernel_rfl) (fun _ _ _ h => h) (Or.inl ⟨by kernel_rfl, ?_⟩) (by assumption) ?_
            · rintro W' ⟨s0, s1, s2, s3, s4, s5, s6⟩
              go_simp
            intro inv2
            clear inv
            have inv := inv2
            clear inv2
            simp only [Act.put]
            refine wpAnyT_take inv (by kernel_rfl) (by omega) (i := 21) (v := .pointer (some ⟨b2, o2 + k * 2, none⟩)) rfl (by kernel_rfl) (by kernel_rfl) (fun _ _ _ h => h) (Or.inl ⟨by kernel_rfl, ?_⟩) (by assumption) ?_
            · rintro W' ⟨s0, s1, s2, s3, s4, s5, s6⟩
              go_simp
            intro inv2
            clear inv
            have inv := inv2
            clear inv2
            simp only [Act.put]
            refine wpAnyT_take inv (by kernel_rfl) (by omega) (i := 22) (v := .pointer (some ⟨b2, o2 + k * 2, none⟩)) rfl (by kernel_rfl) (by kernel_rfl) (fun _ _ _ h => h) (Or.inl ⟨by kernel_rfl, ?_⟩) (by assumption) ?_
            · rintro W' ⟨s0, s1, s2, s3, s4, s5, s6⟩
              go_simp
            intro inv2
            clear inv
            have inv := inv2
            clear inv2
            simp only [Act.put]
            refine wpAnyT_take inv (by kernel_rfl) (by omega) (i := 23) (v := .int .i64 (lo)) rfl (by kernel_rfl) (by kernel_rfl) (fun _ _ _ h => h) (Or.inl ⟨by kernel_rfl, ?_⟩) (by assumption) ?_
            · rintro W' ⟨s0, s1, s2, s3, s4, s5, s6⟩
              go_simp
            intro inv2
            clear inv
            have inv := inv2
            clear inv2
            simp only [Act.put]
            refine wpAnyT_take inv (by kernel_rfl) (by omega) (i := 24) (v := .int .i64 (-lo)) rfl (by kernel_rfl) (by kernel_rfl) (fun _ _ _ h => h) (Or.inl ⟨by kernel_rfl, ?_⟩) (by assumption) ?_
            · rintro W' ⟨s0, s1, s2, s3, s4, s5, s6⟩
              go_simp
            intro inv2
            clear inv
            have inv := inv2
            clear inv2
            simp only [Act.put]
            refine wpAnyT_ready [7] (by kernel_rfl) (by simp) ?_
            refine AllReadyT.cons rfl (fun K hK => ?_) AllReadyT.nil
            go_simp
            have hbA := below1 V0 (.cells #[.int .i64 (A)] 2)
            have BN7 := Lib.hid (Blk.new V0 (.cells #[.int .i64 (A)] 2))
            have AN7RA := fun g (h : Value.ownBlock (.slice a1 n1 c1) = some g) (e : g = V0.heap.size) => show False by have := owns_block RA.out h; omega
            have AN7RE := fun g (h : Value.ownBlock (.slice a2 n2 c2) = some g) (e : g = V0.heap.size) => show False by have := owns_block RE.out h; omega
            have AN7RA2 := fun g (h : Value.ownBlock (.slice a3 n3 c3) = some g) (e : g = V0.heap.size) => show False by have := owns_block RA2.out h; omega
            have AN7RE2 := fun g (h : Value.ownBlock (.slice a4 n4 c4) = some g) (e : g = V0.heap.size) => show False by have := owns_block RE2.out h; omega
            generalize V0.alloc (.cells #[.int .i64 (A)] 2) = V1 at *
            replace RA := Lib.hid (owns_below RA.out hbA)
            replace RE := Lib.hid (owns_below RE.out hbA)
            replace RA2 := Lib.hid (owns_below RA2.out hbA)
            replace RE2 := Lib.hid (owns_below RE2.out hbA)
            replace X := Lib.hid (X.out.below hbA)
            replace Y := Lib.hid (Y.out.below hbA)
            replace BL := Lib.hid (bC BL.out hbA)
            clear hbA
            clear c0
            have c0 : V1.cell? ⟨w1x.heap.size + 1, 0, none⟩ = some (.slice a3 n3 c3) := by rw [Y.out.cell]; rfl
            clear c1x
            have c1x : V1.cell? ⟨w1x.heap.size + 1, 1, none⟩ = some (.slice a4 n4 c4) := by rw [Y.out.cell]; rfl
            clear c2x
            have c2x : V1.cell? ⟨w.heap.size, 0, none⟩ = some (.slice (some ⟨b1, o1, none⟩) l.at_.length cap) := by rw [(HL1.out.below BL.out).cell]; rfl
            clear c3x
            have c3x : V1.cell? ⟨w.heap.size, 1, none⟩ = some (.slice (some ⟨b2, o2, none⟩) l.edges.length cap') := by rw [(HL1.out.below BL.out).cell]; rfl
            clear c4x
            have c4x : V1.cell? ⟨b1, o1 + k, none⟩ = some (.int .i64 (A)) := cellB hc1 BL.out
            clear c5x
            have c5x : V1.cell? ⟨b2, o2 + k * 2, none⟩ = some (.int .i64 lo) := cellB hc2 BL.out
            clear c6x
            have c6x : V1.cell? ⟨b2, o2 + k * 2 + 1, none⟩ = some (.int .i64 hi) := cellB hc3 BL.out
            refine hK.out _ _ (fun _ => ⟨c0, c1x, c2x, c3x, c4x, c5x, c6x⟩) (fun _ => ?_)
            clear hK K
            try simp only [Act.put]
            refine wpAnyT_ready [8] (by kernel_rfl) (by simp) ?_
            refine AllReadyT.cons rfl (fun K hK => ?_) AllReadyT.nil
            refine Eq.mpr (if_pos ?_) ?_
            · rfl
            have hsz := BL.out.size
            have HNN := Lib.hid (cells_one (by rw [BN7.out.cell]; rfl) : ∀ m u, ([.int .i64 (A)] : List Value)[m]? = some u → V1.cell? (Addr.add ⟨V0.heap.size, 0, none⟩ m) = some u)
            refine wp_append_at _ _ _ 22 rfl w1x.heap.size 2 ii (.int .i64 0) 1 8 undI II.out J0.out J1.out J2.out rfl (by decide) _ _ _ rfl RA2.out ⟨V0.heap.size, 0, none⟩ 1 1 [.int .i64 (A)] rfl rfl HNN.out (by intro u hu; simp only [List.mem_cons, List.not_mem_nil, or_false] at hu; subst hu; rfl) (by unfold maxLen; omega) (by omega) (by omega) ?_
            intro v3 V2 own gr att
            replace X := Lib.hid (X.out.grown RA2.out (by decide) gr)
            replace Y := Lib.hid (Y.out.grown RA2.out (by decide) gr)
            have AORA := AP_RA_RA2
            replace AP_RA_RA2 := apart_grown RA.out AP_RA_RA2 att
            replace RA := Lib.hid (owns_apart RA.out AORA gr)
            replace RE := Lib.hid (owns_grown RA2.out RE.out (by decide) gr)
            replace RE2 := Lib.hid (owns_grown RA2.out RE2.out (by decide) gr)
            replace BL := Lib.hid (below_owns RA2.out gr BL.out hsz)
            replace RA2 := Lib.hid own
            clear own gr att HNN hsz BN7 AORA
            clear c0
            have c0 : V2.cell? ⟨w1x.heap.size + 1, 0, none⟩ = some (.slice a3 n3 c3) := by rw [Y.out.cell]; rfl
            clear c1x
            have c1x : V2.cell? ⟨w1x.heap.size + 1, 1, none⟩ = some (.slice a4 n4 c4) := by rw [Y.out.cell]; rfl
            clear c2x
            have c2x : V2.cell? ⟨w.heap.size, 0, none⟩ = some (.slice (some ⟨b1, o1, none⟩) l.at_.length cap) := by rw [(HL1.out.below BL.out).cell]; rfl
            clear c3x
            have c3x : V2.cell? ⟨w.heap.size, 1, none⟩ = some (.slice (some ⟨b2, o2, none⟩) l.edges.length cap') := by rw [(HL1.out.below BL.out).cell]; rfl
            clear c4x
            have c4x : V2.cell? ⟨b1, o1 + k, none⟩ = some (.int .i64 (A)) := cellB hc1 BL.out
            clear c5x
            have c5x : V2.cell? ⟨b2, o2 + k * 2, none⟩ = some (.int .i64 lo) := cellB hc2 BL.out
            clear c6x
            have c6x : V2.cell? ⟨b2, o2 + k * 2 + 1, none⟩ = some (.int .i64 hi) := cellB hc3 BL.out
            refine hK.out _ _ (fun _ => ⟨c0, c1x, c2x, c3x, c4x, c5x, c6x⟩) (fun _ => ?_)
            clear hK K
            try simp only [Act.put]
            replace inv := HeadM.step inv 7 (by kernel_rfl) (by omega)
            replace inv := HeadM.step inv 8 (by kernel_rfl) (by omega)
            clear hS
            have hS : V2.cell? ⟨w1x.heap.size + 1, 0, none⟩ = some (.slice a3 n3 c3) ∧ V2.cell? ⟨w1x.heap.size + 1, 1, none⟩ = some (.slice a4 n4 c4) ∧ V2.cell? ⟨w.heap.size, 0, none⟩ = some (.slice (some ⟨b1, o1, none⟩) l.at_.length cap) ∧ V2.cell? ⟨w.heap.size, 1, none⟩ = some (.slice (some ⟨b2, o2, none⟩) l.edges.length cap') ∧ V2.cell? ⟨b1, o1 + k, none⟩ = some (.int .i64 (A)) ∧ V2.cell? ⟨b2, o2 + k * 2, none⟩ = some (.int .i64 lo) ∧ V2.cell? ⟨b2, o2 + k * 2 + 1, none⟩ = some (.int .i64 hi) := ⟨c0, c1x, c2x, c3x, c4x, c5x, c6x⟩
            refine wpAnyT_take inv (by kernel_rfl) (by omega) (i := 28) (v := .pointer (some ⟨w1x.heap.size + 1, 0, none⟩)) rfl (by kernel_rfl) (by kernel_rfl) (fun _ _ _ h => h) (Or.inl ⟨by kernel_rfl, ?_⟩) (by assumption) ?_
            · rintro W' ⟨s0, s1, s2, s3, s4, s5, s6⟩
              go_simp
            intro inv2
            clear inv
            have inv := inv2
            clear inv2
            simp only [Act.put, List.setIfInBounds_toArray]
            refine wpAnyT_ready [25] (by kernel_rfl) (by simp) ?_
            refine AllReadyT.cons rfl (fun K hK => ?_) AllReadyT.nil
            go_simp
            refine (to_any (-hi) (-lo) _).mono ?_
            rintro e V3 ⟨rfl, hbC⟩
            replace RA := Lib.hid (owns_below RA.out hbC)
            replace RE := Lib.hid (owns_below RE.out hbC)
            replace RA2 := Lib.hid (owns_below RA2.out hbC)
            replace RE2 := Lib.hid (owns_below RE2.out hbC)
            replace X := Lib.hid (X.out.below hbC)
            replace Y := Lib.hid (Y.out.below hbC)
            replace BL := Lib.hid (bC BL.out hbC)
            clear hbC
            clear c0
            have c0 : V3.cell? ⟨w1x.heap.size + 1, 0, none⟩ = some (.slice a3 n3 c3) := by rw [Y.out.cell]; rfl
            clear c1x
            have c1x : V3.cell? ⟨w1x.heap.size + 1, 1, none⟩ = some (.slice a4 n4 c4) := by rw [Y.out.cell]; rfl
            clear c2x
            have c2x : V3.cell? ⟨w.heap.size, 0, none⟩ = some (.slice (some ⟨b1, o1, none⟩) l.at_.length cap) := by rw [(HL1.out.below BL.out).cell]; rfl
            clear c3x
            have c3x : V3.cell? ⟨w.heap.size, 1, none⟩ = some (.slice (some ⟨b2, o2, none⟩) l.edges.length cap') := by rw [(HL1.out.below BL.out).cell]; rfl
            clear c4x
            have c4x : V3.cell? ⟨b1, o1 + k, none⟩ = some (.int .i64 (A)) := cellB hc1 BL.out
            clear c5x
            have c5x : V3.cell? ⟨b2, o2 + k * 2, none⟩ = some (.int .i64 lo) := cellB hc2 BL.out
            clear c6x
            have c6x : V3.cell? ⟨b2, o2 + k * 2 + 1, none⟩ = some (.int .i64 hi) := cellB hc3 BL.out
            refine hK.out _ _ (fun _ => ⟨c0, c1x, c2x, c3x, c4x, c5x, c6x⟩) (fun _ => ?_)
            clear hK K
            try simp only [Act.put]
            refine wpAnyT_ready [26] (by kernel_rfl) (by simp) ?_
            refine AllReadyT.cons rfl (fun K hK => ?_) AllReadyT.nil
            go_simp
            have hbA := below1 V3 (.cells #[.int .i64 (-hi), .int .i64 (-lo)] 69)
            have BN26 := Lib.hid (Blk.new V3 (.cells #[.int .i64 (-hi), .int .i64 (-lo)] 69))
            have AN26RA := fun g (h : Value.ownBlock (.slice a1 n1 c1) = some g) (e : g = V3.heap.size) => show False by have := owns_block RA.out h; omega
            have AN26RE := fun g (h : Value.ownBlock (.slice a2 n2 c2) = some g) (e : g = V3.heap.size) => show False by have := owns_block RE.out h; omega
            have AN26RA2 := fun g (h : Value.ownBlock (v3) = some g) (e : g = V3.heap.size) => show False by have := owns_block RA2.out h; omega
            have AN26RE2 := fun g (h : Value.ownBlock (.slice a4 n4 c4) = some g) (e : g = V3.heap.size) => show False by have := owns_block RE2.out h; omega
            generalize V3.alloc (.cells #[.int .i64 (-hi), .int .i64 (-lo)] 69) = V4 at *
            replace RA := Lib.hid (owns_below RA.out hbA)
            replace RE := Lib.hid (owns_below RE.out hbA)
            replace RA2 := Lib.hid (owns_below RA2.out hbA)
            replace RE2 := Lib.hid (owns_below RE2.out hbA)
            replace X := Lib.hid (X.out.below hbA)
            replace Y := Lib.hid (Y.out.below hbA)
            replace BL := Lib.hid (bC BL.out hbA)
            clear hbA
            clear c0
            have c0 : V4.cell? ⟨w1x.heap.size + 1, 0, none⟩ = some (.slice a3 n3 c3) := by rw [Y.out.cell]; rfl
            clear c1x
            have c1x : V4.cell? ⟨w1x.heap.size + 1, 1, none⟩ = some (.slice a4 n4 c4) := by rw [Y.out.cell]; rfl
            clear c2x
            have c2x : V4.cell? ⟨w.heap.size, 0, none⟩ = some (.slice (some ⟨b1, o1, none⟩) l.at_.length cap) := by rw [(HL1.out.below BL.out).cell]; rfl
            clear c3x
            have c3x : V4.cell? ⟨w.heap.size, 1, none⟩ = some (.slice (some ⟨b2, o2, none⟩) l.edges.length cap') := by rw [(HL1.out.below BL.out).cell]; rfl
            clear c4x
            have c4x : V4.cell? ⟨b1, o1 + k, none⟩ = some (.int .i64 (A)) := cellB hc1 BL.out
            clear c5x
            have c5x : V4.cell? ⟨b2, o2 + k * 2, none⟩ = some (.int .i64 lo) := cellB hc2 BL.out
            clear c6x
            have c6x : V4.cell? ⟨b2, o2 + k * 2 + 1, none⟩ = some (.int .i64 hi) := cellB hc3 BL.out
            refine hK.out _ _ (fun _ => ⟨c0, c1x, c2x, c3x, c4x, c5x, c6x⟩) (fun _ => ?_)
            clear hK K
            try simp only [Act.put]
            refine wpAnyT_ready [27] (by kernel_rfl) (by simp) ?_
            refine AllReadyT.cons rfl (fun K hK => ?_) AllReadyT.nil
            refine Eq.mpr (if_pos ?_) ?_
            · rfl
            have hsz := BL.out.size
            have HNN := Lib.hid (cells_pair (by rw [BN26.out.cell]; rfl) (by rw [BN26.out.cell]; rfl) : ∀ m u, ([.int .i64 (-hi), .int .i64 (-lo)] : List Value)[m]? = some u → V4.cell? (Addr.add ⟨V3.heap.size, 0, none⟩ m) = some u)
            refine wp_append_at _ _ _ 23 rfl w1x.heap.size 69 ir (.agg #[.int .i64 0, .int .i64 0]) 2 16 undR IR.out K0.out K1.out K2.out rfl (by decide) _ _ _ rfl RE2.out ⟨V3.heap.size, 0, none⟩ 1 1 [.int .i64 (-hi), .int .i64 (-lo)] rfl rfl HNN.out (by intro u hu; simp only [List.mem_cons, List.not_mem_nil, or_false] at hu; rcases hu with rfl | rfl <;> rfl) (by unfold maxLen; omega) (by omega) (by omega) ?_
            intro v4 V5 own gr att
            replace X := Lib.hid (X.out.grown RE2.out (by decide) gr)
            replace Y := Lib.hid (Y.out.grown RE2.out (by decide) gr)
            have AORE := AP_RE_RE2
            replace AP_RE_RE2 := apart_grown RE.out AP_RE_RE2 att
            replace RA := Lib.hid (owns_grown RE2.out RA.out (by decide) gr)
            replace RE := Lib.hid (owns_apart RE.out AORE gr)
            replace RA2 := Lib.hid (owns_grown RE2.out RA2.out (by decide) gr)
            replace BL := Lib.hid (below_owns RE2.out gr BL.out hsz)
            replace RE2 := Lib.hid own
            clear own gr att HNN hsz BN26 AORE
            clear c0
            have c0 : V5.cell? ⟨w1x.heap.size + 1, 0, none⟩ = some (.slice a3 n3 c3) := by rw [Y.out.cell]; rfl
            clear c1x
            have c1x : V5.cell? ⟨w1x.heap.size + 1, 1, none⟩ = some (.slice a4 n4 c4) := by rw [Y.out.cell]; rfl
            clear c2x
            have c2x : V5.cell? ⟨w.heap.size, 0, none⟩ = some (.slice (some ⟨b1, o1, none⟩) l.at_.length cap) := by rw [(HL1.out.below BL.out).cell]; rfl
            clear c3x
            have c3x : V5.cell? ⟨w.heap.size, 1, none⟩ = some (.slice (some ⟨b2, o2, none⟩) l.edges.length cap') := by rw [(HL1.out.below BL.out).cell]; rfl
            clear c4x
            have c4x : V5.cell? ⟨b1, o1 + k, none⟩ = some (.int .i64 (A)) := cellB hc1 BL.out
            clear c5x
            have c5x : V5.cell? ⟨b2, o2 + k * 2, none⟩ = some (.int .i64 lo) := cellB hc2 BL.out
            clear c6x
            have c6x : V5.cell? ⟨b2, o2 + k * 2 + 1, none⟩ = some (.int .i64 hi) := cellB hc3 BL.out
            refine hK.out _ _ (fun _ => ⟨c0, c1x, c2x, c3x, c4x, c5x, c6x⟩) (fun _ => ?_)
            clear hK K
            try simp only [Act.put]
            refine wpAnyT_chain (fuel := 3) rfl (by kernel_rfl) ?_
            simp only [List.drop_succ_cons, List.drop_zero]
            clear hS inv c0 c1x c2x c3x c4x c5x c6x
            obtain ⟨a7, n7, c7, rfl⟩ := (Row.of_owns RA2.out).slice
            obtain ⟨a8, n8, c8, rfl⟩ := (Row.of_owns RE2.out).slice
            have x0' := Y.out.cell 0
            have x1 := Y.out.cell 1
            have z0 := Y.out.frozen 0
            have z1 := Y.out.frozen 1
            have xl := Y.out.lt
            simp at x0' x1
            have U := (Y.out.set (j := 0) (.slice a7 n7 c7)).set (j := 1) (.slice a8 n8 c8)
            simp only [List.setIfInBounds_toArray, List.set_cons_zero, List.set_cons_succ] at U
            have X1 := Y.out.set (j := 0) (.slice a7 n7 c7)
            replace RA := Lib.hid (owns_set (owns_set RA.out Y.out (by decide) 0 (.slice a7 n7 c7)) X1 (by decide) 1 (.slice a8 n8 c8))
            replace RE := Lib.hid (owns_set (owns_set RE.out Y.out (by decide) 0 (.slice a7 n7 c7)) X1 (by decide) 1 (.slice a8 n8 c8))
            replace RA2 := Lib.hid (owns_set (owns_set RA2.out Y.out (by decide) 0 (.slice a7 n7 c7)) X1 (by decide) 1 (.slice a8 n8 c8))
            replace RE2 := Lib.hid (owns_set (owns_set RE2.out Y.out (by decide) 0 (.slice a7 n7 c7)) X1 (by decide) 1 (.slice a8 n8 c8))
            replace X := Lib.hid ((X.out.other (b := w1x.heap.size + 1) (by omega) (j := 0) (.slice a7 n7 c7)).other (b := w1x.heap.size + 1) (by omega) (j := 1) (.slice a8 n8 c8))
            replace BL := Lib.hid ((BL.out.setCell (p := ⟨w1x.heap.size + 1, 0, none⟩) (by simp <;> omega) (.slice a7 n7 c7)).setCell (p := ⟨w1x.heap.size + 1, 1, none⟩) (by simp <;> omega) (.slice a8 n8 c8))
            replace Y := Lib.hid U
            clear U X1
            go_wp2
            go_roundw
            case rel =>
              refine ⟨k + 1, .slice a7 n7 c7, .slice a8 n8 c8, by go_num, by omega, RA.out, RE.out, ?_, ?_, AP_RA_RA2, AP_RE_RE2, X.out, Y.out, BL.out⟩
              · rw [upto_snoc, List.map_append, HG.out]
                exact RA2.out
              · rw [upto_snoc, pairCells_snoc, HG2.out]
                exact RE2.out
            case measure => first | (simp [intOf]; done) | (simp [intOf]; omega)
          · obtain rfl : k = l.at_.length := by omega
            have HVE : Hid (LogAt wr (.agg #[.slice a1 n1 c1, .slice a2 n2 c2]) (endD l)) := Lib.hid ⟨_, _, rfl, by
                have := Row.ints (l := upto (endF l) l.at_.length) (by rw [upto_len]; exact Row.of_owns RA.out)
                exact this, by
                have := Row.pairs (l := upto (endG l) l.at_.length) (by rw [upto_len]; exact Row.of_owns RE.out)
                exact this⟩
            have HVD : Hid (LogAt wr (.agg #[.slice a3 n3 c3, .slice a4 n4 c4]) (downD l)) := Lib.hid ⟨_, _, rfl, by
                have := Row.ints (l := upto (atD l) l.at_.length) (by rw [upto_len]; exact Row.of_owns RA2.out)
                exact this, by
                have := Row.pairs (l := upto (downG l) l.at_.length) (by rw [upto_len]; exact Row.of_owns RE2.out)
                exact this⟩
            have HV0 := Lib.hid ((HV.out.below HB1.out).below BL.out)
            have HNW := Lib.hid ((HN.out.below HB1.out).below BL.out)
            have HW := Lib.hid (bC HB1.out BL.out)
            have HL0 := Lib.hid (HL1.out.below BL.out)
            have HE0' := X
            have HD0 := Y
            have HB0 := Lib.hid (Below.refl wr.heap.size wr)
            have htt : decide ((l.at_.length : Int) < (l.at_.length : Int)) = false := by simp
            clear X Y RA RE RA2 RE2 BL HL1 HB1 hx0 AP_RA_RA2 AP_RE_RE2
            have hf := HFIT.out
            have h0 := HE0.out
            obtain ⟨⟨t1, t2⟩, bx1, bx2⟩ := BCX.out
            have e1 := end_err hf
            have e2 := down_err hf
            have hS0 : l.small := by unfold LogD.small; have := hf.eight; have := hf.lens _ (List.mem_singleton.2 rfl); omega
            have hS1 : (endD l).small := by unfold LogD.small; rw [lg_len, lg_len2]; omega
            have hS2 : (downD l).small := by unfold LogD.small; rw [lg_len, lg_len2]; omega
            obtain ⟨n, hn⟩ : ∃ n, (bestV l).num = n := ⟨_, rfl⟩
            obtain ⟨d, hd⟩ : ∃ d, ((bestV l).den : Int) = d := ⟨_, rfl⟩
            obtain ⟨an, ad, bn, bd, er, q1, q2, q3, bq1, bq2⟩ := turned_heights h0 t1 t2 bx1 (show x ≤ 100 by omega)
            have HBG : Hid (∀ W, NoneAt W → LogAt W (.agg #[.slice a l.at_.length cap, .slice a' l.edges.length cap']) l → Calls Tryd.prog 42 #[(.agg #[.slice a l.at_.length cap, .slice a' l.edges.length cap'])] W (Gets (.tuple #[.agg #[.int .i64 n, .int .i64 d], .bool true]) W)) := Lib.hid (fun W hN h => by have := best_good _ l W hN h h0; rw [qv, hn, hd] at this; exact this)
            have HBE : Hid (∀ W, NoneAt W → LogAt W (.agg #[.slice a1 n1 c1, .slice a2 n2 c2]) (endD l) → Calls Tryd.prog 42 #[(.agg #[.slice a1 n1 c1, .slice a2 n2 c2])] W (Gets (.tuple #[.agg #[.int .i64 n, .int .i64 d], .bool true]) W)) := Lib.hid (fun W hN h => by have := best_good _ _ W hN h e1; rw [← end_best hf, qv, hn, hd] at this; exact this)
            have HBD : Hid (∀ W, NoneAt W → LogAt W (.agg #[.slice a3 n3 c3, .slice a4 n4 c4]) (downD l) → Calls Tryd.prog 42 #[(.agg #[.slice a3 n3 c3, .slice a4 n4 c4])] W (Gets (.tuple #[.agg #[.int .i64 n, .int .i64 d], .bool true]) W)) := Lib.hid (fun W hN h => by have := best_good _ _ W hN h e2; rw [← down_best hf, qv, hn, hd] at this; exact this)
            have HH1 : Hid (∀ W, LogAt W (.agg #[.slice a l.at_.length cap, .slice a' l.edges.length cap']) l → Calls Tryd.prog 34 #[(.agg #[.slice a l.at_.length cap, .slice a' l.edges.length cap']), .int .i64 core, .int .i64 x] W (Gets (.tuple #[.agg #[.int .i64 an, .int .i64 ad], .agg #[.int .i64 bn, .int .i64 bd], .int .i64 er]) W)) := Lib.hid (fun W h => by have := Heights_any _ l core x W h hS0; rw [q1] at this; exact this)
            have HH2 : Hid (∀ W, LogAt W (.agg #[.slice a1 n1 c1, .slice a2 n2 c2]) (endD l) → Calls Tryd.prog 34 #[(.agg #[.slice a1 n1 c1, .slice a2 n2 c2]), .int .i64 core, .int .i64 (100 - x)] W (Gets (.tuple #[.agg #[.int .i64 an, .int .i64 ad], .agg #[.int .i64 bn, .int .i64 bd], .int .i64 er]) W)) := Lib.hid (fun W h => by have := Heights_any _ _ core (100 - x) W h hS1; rw [q2] at this; exact this)
            have HH3 : Hid (∀ W, LogAt W (.agg #[.slice a3 n3 c3, .slice a4 n4 c4]) (downD l) → Calls Tryd.prog 34 #[(.agg #[.slice a3 n3 c3, .slice a4 n4 c4]), .int .i64 core, .int .i64 x] W (Gets (.tuple #[.agg #[.int .i64 (-bn), .int .i64 bd], .agg #[.int .i64 (-an), .int .i64 ad], .int .i64 er]) W)) := Lib.hid (fun W h => by have := Heights_any _ _ core x W h hS2; rw [q3] at this; exact this)
            have y1 : IntKind.i64.wrap (-an) = -an := IntWalk.i64_in _ (by omega)
            have y2 : IntKind.i64.wrap (-bn) = -bn := IntWalk.i64_in _ (by omega)
            have y3 : IntKind.i64.wrap (100 - x) = 100 - x := IntWalk.i64_in _ (by omega)
            have hq1 := fun w => pair_eq n d w
            have hq2 := fun w => pair_eq an ad w
            have hq3 := fun w => pair_eq bn bd w
            clear hf h0 t1 t2 bx1 bx2 e1 e2 hS0 hS1 hS2 hn hd q1 q2 q3 bq1 bq2
            have hl8' := hl8
            clear hl8
            go_wp2_with fail
            clear m0 m1 ml
            clear HE0
            have HE0 := HE0'
            clear HE0'
            refine (HBG.out _ (HNW.out.below HB0.out) (HV0.out.below HB0.out)).mono ?_
            rintro e v1x ⟨rfl, hb⟩
            have HB1 := Lib.hid (bC HB0.out hb)
            have HL1 := Lib.hid (HL0.out.below hb)
            have HE1 := Lib.hid (HE0.out.below hb)
            have HD1 := Lib.hid (HD0.out.below hb)
            clear hb HB0 HL0 HE0 HD0
            have Ec0 := HE1.out.cell 0
            have Ec1 := HE1.out.cell 1
            simp at Ec0 Ec1
            have El := HE1.out.lt
            go_wp2_with fail
            clear Ec0 Ec1 El
            have hP := Blk.new v1x (.cells #[.int .i64 n, .int .i64 d] 31)
            have hA := below1 v1x (.cells #[.int .i64 n, .int .i64 d] 31)
            generalize v1x.alloc (.cells #[.int .i64 n, .int .i64 d] 31) = W1x at *
            have HP2 := Lib.hid hP
            clear hP
            have HB2 := Lib.hid (bC HB1.out hA)
            have HL2 := Lib.hid (HL1.out.below hA)
            have HE2 := Lib.hid (HE1.out.below hA)
            have HD2 := Lib.hid (HD1.out.below hA)
            clear hA HB1 HL1 HE1 HD1
            refine (HBE.out _ (HNW.out.below HB2.out) (HVE.out.below HB2.out)).mono ?_
            rintro e v3x ⟨rfl, hb⟩
            have HB3 := Lib.hid (bC HB2.out hb)
            have HL3 := Lib.hid (HL2.out.below hb)
            have HE3 := Lib.hid (HE2.out.below hb)
            have HD3 := Lib.hid (HD2.out.below hb)
            have HP3 := Lib.hid (HP2.out.below hb)
            clear hb HB2 HL2 HE2 HD2 HP2
            have Dc0 := HD3.out.cell 0
            have Dc1 := HD3.out.cell 1
            simp at Dc0 Dc1
            have Dl := HD3.out.lt
            go_wp2_with fail
            clear Dc0 Dc1 Dl
            have hQ := Blk.new v3x (.cells #[.int .i64 n, .int .i64 d] 31)
            have hA := below1 v3x (.cells #[.int .i64 n, .int .i64 d] 31)
            generalize v3x.alloc (.cells #[.int .i64 n, .int .i64 d] 31) = W3x at *
            have HQ4 := Lib.hid hQ
            clear hQ
            have HB4 := Lib.hid (bC HB3.out hA)
            have HL4 := Lib.hid (HL3.out.below hA)
            have HE4 := Lib.hid (HE3.out.below hA)
            have HD4 := Lib.hid (HD3.out.below hA)
            have HP4 := Lib.hid (HP3.out.below hA)
            clear hA HB3 HL3 HE3 HD3 HP3
            refine (HBD.out _ (HNW.out.below HB4.out) (HVD.out.below HB4.out)).mono ?_
            rintro e v5x ⟨rfl, hb⟩
            have HB5 := Lib.hid (bC HB4.out hb)
            have HL5 := Lib.hid (HL4.out.below hb)
            have HE5 := Lib.hid (HE4.out.below hb)
            have HD5 := Lib.hid (HD4.out.below hb)
            have HP5 := Lib.hid (HP4.out.below hb)
            have HQ5 := Lib.hid (HQ4.out.below hb)
            clear hb HB4 HL4 HE4 HD4 HP4 HQ4
            have Lc0 := HL5.out.cell 0
            have Lc1 := HL5.out.cell 1
            simp at Lc0 Lc1
            have Ll := HL5.out.lt
            go_wp2_with fail
            clear Lc0 Lc1 Ll
            have hU := Blk.new v5x (.cells #[.int .i64 n, .int .i64 d] 31)
            have hA := below1 v5x (.cells #[.int .i64 n, .int .i64 d] 31)
            generalize v5x.alloc (.cells #[.int .i64 n, .int .i64 d] 31) = W5x at *
            have HU6 := Lib.hid hU
            clear hU
            have HB6 := Lib.hid (bC HB5.out hA)
            have HL6 := Lib.hid (HL5.out.below hA)
            have HE6 := Lib.hid (HE5.out.below hA)
            have HD6 := Lib.hid (HD5.out.below hA)
            have HP6 := Lib.hid (HP5.out.below hA)
            have HQ6 := Lib.hid (HQ5.out.below hA)
            clear hA HB5 HL5 HE5 HD5 HP5 HQ5
            refine (HH1.out _ (HV0.out.below HB6.out)).mono ?_
            rintro e v7x ⟨rfl, hb⟩
            have HB7 := Lib.hid (bC HB6.out hb)
            have HL7 := Lib.hid (HL6.out.below hb)
            have HE7 := Lib.hid (HE6.out.below hb)
            have HD7 := Lib.hid (HD6.out.below hb)
            have HP7 := Lib.hid (HP6.out.below hb)
            have HQ7 := Lib.hid (HQ6.out.below hb)
            have HU7 := Lib.hid (HU6.out.below hb)
            clear hb HB6 HL6 HE6 HD6 HP6 HQ6 HU6
            have Ec0 := HE7.out.cell 0
            have Ec1 := HE7.out.cell 1
            simp at Ec0 Ec1
            have El := HE7.out.lt
            go_wp2_with fail
            clear Ec0 Ec1 El
            have hG := (Blk.new v7x (.cells #[.int .i64 an, .int .i64 ad] 31)).alloc (.cells #[.int .i64 bn, .int .i64 bd] 31)
            have hK := Blk.new (v7x.alloc (.cells #[.int .i64 an, .int .i64 ad] 31)) (.cells #[.int .i64 bn, .int .i64 bd] 31)
            rw [World.size_alloc] at hK
            have hA := below2 v7x (.cells #[.int .i64 an, .int .i64 ad] 31) (.cells #[.int .i64 bn, .int .i64 bd] 31)
            generalize (v7x.alloc (.cells #[.int .i64 an, .int .i64 ad] 31)).alloc (.cells #[.int .i64 bn, .int .i64 bd] 31) = W7x at *
            have HG8 := Lib.hid hG
            have HK8 := Lib.hid hK
            clear hG hK
            have HB8 := Lib.hid (bC HB7.out hA)
            have HL8 := Lib.hid (HL7.out.below hA)
            have HE8 := Lib.hid (HE7.out.below hA)
            have HD8 := Lib.hid (HD7.out.below hA)
            have HP8 := Lib.hid (HP7.out.below hA)
            have HQ8 := Lib.hid (HQ7.out.below hA)
            have HU8 := Lib.hid (HU7.out.below hA)
            clear hA HB7 HL7 HE7 HD7 HP7 HQ7 HU7
            refine (HH2.out _ (HVE.out.below HB8.out)).mono ?_
            rintro e v9x ⟨rfl, hb⟩
            have HB9 := Lib.hid (bC HB8.out hb)
            have HL9 := Lib.hid (HL8.out.below hb)
            have HE9 := Lib.hid (HE8.out.below hb)
            have HD9 := Lib.hid (HD8.out.below hb)
            have HP9 := Lib.hid (HP8.out.below hb)
            have HQ9 := Lib.hid (HQ8.out.below hb)
            have HU9 := Lib.hid (HU8.out.below hb)
            have HG9 := Lib.hid (HG8.out.below hb)
            have HK9 := Lib.hid (HK8.out.below hb)
            clear hb HB8 HL8 HE8 HD8 HP8 HQ8 HU8 HG8 HK8
            have Dc0 := HD9.out.cell 0
            have Dc1 := HD9.out.cell 1
            simp at Dc0 Dc1
            have Dl := HD9.out.lt
            have hnx1 : (w1x.heap.size = v9x.heap.size) = False := by have := HD9.out.lt; simp; omega
            have hnx3 : w1x.heap.size < v9x.heap.size := by have := HD9.out.lt; omega
            have hnx2 : (v9x.heap.size = w1x.heap.size) = False := by have := HD9.out.lt; simp; omega
            go_wp2_with fail
            clear Dc0 Dc1 Dl
            have hM := (Blk.new v9x (.cells #[.int .i64 an, .int .i64 ad] 31)).alloc (.cells #[.int .i64 bn, .int .i64 bd] 31)
            have hO := Blk.new (v9x.alloc (.cells #[.int .i64 an, .int .i64 ad] 31)) (.cells #[.int .i64 bn, .int .i64 bd] 31)
            rw [World.size_alloc] at hO
            have hA := below2 v9x (.cells #[.int .i64 an, .int .i64 ad] 31) (.cells #[.int .i64 bn, .int .i64 bd] 31)
            generalize (v9x.alloc (.cells #[.int .i64 an, .int .i64 ad] 31)).alloc (.cells #[.int .i64 bn, .int .i64 bd] 31) = W9x at *
            have HM10 := Lib.hid hM
            have HO10 := Lib.hid hO
            clear hM hO
            have HB10 := Lib.hid (bC HB9.out hA)
            have HL10 := Lib.hid (HL9.out.below hA)
            have HE10 := Lib.hid (HE9.out.below hA)
            have HD10 := Lib.hid (HD9.out.below hA)
            have HP10 := Lib.hid (HP9.out.below hA)
            have HQ10 := Lib.hid (HQ9.out.below hA)
            have HU10 := Lib.hid (HU9.out.below hA)
            have HG10 := Lib.hid (HG9.out.below hA)
            have HK10 := Lib.hid (HK9.out.below hA)
            clear hA HB9 HL9 HE9 HD9 HP9 HQ9 HU9 HG9 HK9
            refine (HH3.out _ (HVD.out.below HB10.out)).mono ?_
            rintro e v11x ⟨rfl, hb⟩
            have HB11 := Lib.hid (bC HB10.out hb)
            have HL11 := Lib.hid (HL10.out.below hb)
            have HE11 := Lib.hid (HE10.out.below hb)
            have HD11 := Lib.hid (HD10.out.below hb)
            have HP11 := Lib.hid (HP10.out.below hb)
            have HQ11 := Lib.hid (HQ10.out.below hb)
            have HU11 := Lib.hid (HU10.out.below hb)
            have HG11 := Lib.hid (HG10.out.below hb)
            have HK11 := Lib.hid (HK10.out.below hb)
            have HM11 := Lib.hid (HM10.out.below hb)
            have HO11 := Lib.hid (HO10.out.below hb)
            clear hb HB10 HL10 HE10 HD10 HP10 HQ10 HU10 HG10 HK10 HM10 HO10
            have Pc0 := HP11.out.cell 0
            have Pc1 := HP11.out.cell 1
            have Qc0 := HQ11.out.cell 0
            have Qc1 := HQ11.out.cell 1
            have Uc0 := HU11.out.cell 0
            have Uc1 := HU11.out.cell 1
            have Gc0 := HG11.out.cell 0
            have Gc1 := HG11.out.cell 1
            have Kc0 := HK11.out.cell 0
            have Kc1 := HK11.out.cell 1
            have Mc0 := HM11.out.cell 0
            have Mc1 := HM11.out.cell 1
            have Oc0 := HO11.out.cell 0
            have Oc1 := HO11.out.cell 1
            simp at Pc0 Pc1 Qc0 Qc1 Uc0 Uc1 Gc0 Gc1 Kc0 Kc1 Mc0 Mc1 Oc0 Oc1
            have Pl := HP11.out.lt
            have Ql := HQ11.out.lt
            have Ul := HU11.out.lt
            have Gl := HG11.out.lt
            have Kl := HK11.out.lt
            have Ml := HM11.out.lt
            have Ol := HO11.out.lt
            go_wp2_with fail
            clear Pc0 Pc1 Qc0 Qc1 Uc0 Uc1 Gc0 Gc1 Kc0 Kc1 Mc0 Mc1 Oc0 Oc1 Pl Ql Ul Gl Kl Ml Ol
            have hY := (Blk.new v11x (.cells #[.int .i64 (-bn), .int .i64 bd] 31)).alloc (.cells #[.int .i64 (-an), .int .i64 ad] 31)
            have hZ := Blk.new (v11x.alloc (.cells #[.int .i64 (-bn), .int .i64 bd] 31)) (.cells #[.int .i64 (-an), .int .i64 ad] 31)
            rw [World.size_alloc] at hZ
            have hA := below2 v11x (.cells #[.int .i64 (-bn), .int .i64 bd] 31) (.cells #[.int .i64 (-an), .int .i64 ad] 31)
            generalize (v11x.alloc (.cells #[.int .i64 (-bn), .int .i64 bd] 31)).alloc (.cells #[.int .i64 (-an), .int .i64 ad] 31) = W11x at *
            have HY12 := Lib.hid hY
            have HZ12 := Lib.hid hZ
            clear hY hZ
            have HB12 := Lib.hid (bC HB11.out hA)
            have HL12 := Lib.hid (HL11.out.below hA)
            have HE12 := Lib.hid (HE11.out.below hA)
            have HD12 := Lib.hid (HD11.out.below hA)
            have HP12 := Lib.hid (HP11.out.below hA)
            have HQ12 := Lib.hid (HQ11.out.below hA)
            have HU12 := Lib.hid (HU11.out.below hA)
            have HG12 := Lib.hid (HG11.out.below hA)
            have HK12 := Lib.hid (HK11.out.below hA)
            have HM12 := Lib.hid (HM11.out.below hA)
            have HO12 := Lib.hid (HO11.out.below hA)
            clear hA HB11 HL11 HE11 HD11 HP11 HQ11 HU11 HG11 HK11 HM11 HO11
            refine (Works_any _ (HNW.out.below HB12.out)).mono ?_
            rintro e v13x ⟨rfl, hb⟩
            have HB13 := Lib.hid (bC HB12.out hb)
            have HL13 := Lib.hid (HL12.out.below hb)
            have HE13 := Lib.hid (HE12.out.below hb)
            have HD13 := Lib.hid (HD12.out.below hb)
            have HP13 := Lib.hid (HP12.out.below hb)
            have HQ13 := Lib.hid (HQ12.out.below hb)
            have HU13 := Lib.hid (HU12.out.below hb)
            have HG13 := Lib.hid (HG12.out.below hb)
            have HK13 := Lib.hid (HK12.out.below hb)
            have HM13 := Lib.hid (HM12.out.below hb)
            have HO13 := Lib.hid (HO12.out.below hb)
            have HY13 := Lib.hid (HY12.out.below hb)
            have HZ13 := Lib.hid (HZ12.out.below hb)
            clear hb HB12 HL12 HE12 HD12 HP12 HQ12 HU12 HG12 HK12 HM12 HO12 HY12 HZ12
            go_wp2_with fail
            go_ret
            exact ⟨rfl, bC HW.out HB13.out⟩
  · have HF : Hid (∀ W, LogAt W (.agg #[.slice a l.at_.length cap, .slice a' l.edges.length cap']) l → Calls Tryd.prog 41 #[(.agg #[.slice a l.at_.length cap, .slice a' l.edges.length cap'])] W (Gets (.bool false) W)) := Lib.hid (fun W h => by have := fine_any _ l W h; rw [decide_eq_false h0] at this; exact this)
    clear h0 g1 g2
    go_enter Tryd.func11, Tryd.ntmps11
    go_wp2_with fail
    refine (HF.out _ (HV.out.below HB0.out)).mono ?_
    rintro e w1x ⟨rfl, hb⟩
    have HB1 := Lib.hid (bC HB0.out hb)
    have HL1 := Lib.hid (HL0.out.below hb)
    clear hb HB0 HL0
    go_wp2_with fail
    refine (Works_any _ (HN.out.below HB1.out)).mono ?_
    rintro e w2x ⟨rfl, hb⟩
    have HB2 := Lib.hid (bC HB1.out hb)
    have HL2 := Lib.hid (HL1.out.below hb)
    clear hb HB1 HL1
    go_wp2_with fail
    go_ret
    exact ⟨rfl, HB2.out⟩
end Go.Proofs.YtkggjpdjjnnhaaaDoor
