import Derived.Test.YtlhldkiggmlegaaDoorNj
import Derived.Test.YtlhldkiggmlegaaDoorNm
import Derived.Test.YtlhldkiggmlegaaDoorNn
namespace Go.Proofs.YtlhldkiggmlegaaDoor
open Go.RowKit Go.Sort
attribute [local go_sem] Oper.semAt_some

/-! ## The reference: what a proof's shape is, and how high an edge's line is, times a width -/
def betw (l : LogD) (f m t : Nat) (x y : Int) : Int := x * (atD l t - atD l m) + y * (atD l m - atD l f)

set_option maxRecDepth 100000 in
set_option maxHeartbeats 2000000 in
theorem rbetween_any (v : Value) (l : LogD) (f m t : Nat) (s x y : Int) (w : World) (hv : LogAt w v l) (hf : Fit l.at_ [l.edges]) (h1 : f < l.at_.length) (h2 : m < l.at_.length) (h3 : t < l.at_.length) (o1 : atD l f ≤ atD l m) (o2 : atD l m ≤ atD l t)
    (x1 : -1000 ≤ x) (x2 : x ≤ 1000) (y1 : -1000 ≤ y) (y2 : y ≤ 1000) :
    Calls Tryd.prog 103 #[v, .agg #[.int .i64 f, .int .i64 m, .int .i64 t, .int .i64 s], .int .i64 x, .int .i64 y] w fun e w' => e = .returned (.int .i64 (betw l f m t x y)) ∧ Below w.heap.size w w' := by
  obtain ⟨va, ve, rfl, hA, hE⟩ := hv
  obtain ⟨a', cap', rfl⟩ := hE.slice
  obtain ⟨a, cap, rfl, hcell0⟩ := hA
  obtain ⟨ba, oa, rfl, hcell⟩ := hcell0 (by intro h; rw [h] at h1; simp at h1)
  have c1 := hcell f h1
  have c2 := hcell m h2
  have c3 := hcell t h3
  have d1 := okInts_get hf.ats f h1
  have d2 := okInts_get hf.ats m h2
  have d3 := okInts_get hf.ats t h3
  have h8 := hf.eight
  rw [atD_eq h1] at c1 d1
  rw [atD_eq h2] at c2 d2
  rw [atD_eq h3] at c3 d3
  have hb : ba < w.heap.size := lt_of_cell c1
  have m1 := mul_bd x (atD l t - atD l m) 1000 100 (by omega) (by omega) (by omega) (by omega) (by omega)
  have m2 := mul_bd y (atD l m - atD l f) 1000 100 (by omega) (by omega) (by omega) (by omega) (by omega)
  have HB : betw l f m t x y = x * (atD l t - atD l m) + y * (atD l m - atD l f) := rfl
  have wr1 : IntKind.i64.wrap (atD l t - atD l m) = atD l t - atD l m := IntWalk.i64_in _ (by omega)
  have wr2 : IntKind.i64.wrap (atD l m - atD l f) = atD l m - atD l f := IntWalk.i64_in _ (by omega)
  have wr3 : IntKind.i64.wrap (x * (atD l t - atD l m)) = x * (atD l t - atD l m) := IntWalk.i64_in _ (by omega)
  have wr4 : IntKind.i64.wrap (y * (atD l m - atD l f)) = y * (atD l m - atD l f) := IntWalk.i64_in _ (by omega)
  have wr5 : IntKind.i64.wrap (x * (atD l t - atD l m) + y * (atD l m - atD l f)) = x * (atD l t - atD l m) + y * (atD l m - atD l f) := IntWalk.i64_in _ (by omega)
  have HBB := Lib.hid HB
  have hAll := below2 w (.cells #[.slice (some ⟨ba, oa, none⟩) l.at_.length cap, .slice a' l.edges.length cap'] 25) (.cells #[.int .i64 f, .int .i64 m, .int .i64 t, .int .i64 s] 45)
  clear hcell hcell0 hE d1 d2 d3 m1 m2 HB
  go_enter Tryd.func103, Tryd.ntmps103
  go_wp2_with fail
  have e1 := cellB c1 hAll
  have e2 := cellB c2 hAll
  have e3 := cellB c3 hAll
  have bl := (Blk.new w (.cells #[.slice (some ⟨ba, oa, none⟩) l.at_.length cap, .slice a' l.edges.length cap'] 25)).alloc (.cells #[.int .i64 f, .int .i64 m, .int .i64 t, .int .i64 s] 45)
  have bp := Blk.new (w.alloc (.cells #[.slice (some ⟨ba, oa, none⟩) l.at_.length cap, .slice a' l.edges.length cap'] 25)) (.cells #[.int .i64 f, .int .i64 m, .int .i64 t, .int .i64 s] 45)
  rw [World.size_alloc] at bp
  have HAll := Lib.hid hAll
  generalize (w.alloc (.cells #[.slice (some ⟨ba, oa, none⟩) l.at_.length cap, .slice a' l.edges.length cap'] 25)).alloc (.cells #[.int .i64 f, .int .i64 m, .int .i64 t, .int .i64 s] 45) = w1 at *
  have l0 := bl.cell 0
  have p0 := bp.cell 0
  have p1 := bp.cell 1
  have p2 := bp.cell 2
  simp at l0 p0 p1 p2
  have g1 := fun d os => cell_regrown e1 d os
  have g2 := fun d os => cell_regrown e2 d os
  have g3 := fun d os => cell_regrown e3 d os
  have g4 := fun d os => cell_regrown l0 d os
  have g5 := fun d os => cell_regrown p0 d os
  have g6 := fun d os => cell_regrown p1 d os
  have g7 := fun d os => cell_regrown p2 d os
  clear hAll bl bp l0 p0 p1 p2 e1 e2 e3 c1 c2 c3
  refine wp_region_quiet_below (by kernel_rfl) (by kernel_rfl) ?_
  repeat (quiet_step (fail))
  refine wpQuiet_nil ?_
  intro _ hw'
  obtain ⟨⟨dq, osq⟩, hw''⟩ := hw'
  subst hw''
  have HB2 := Lib.hid (HAll.out.trans ((below_regrown w1 dq osq).mono HAll.out.size))
  clear g1 g2 g3 g4 g5 g6 g7
  generalize grow (redrawn w1 dq) osq = w2 at *
  go_wp2
  go_ret
  exact ⟨by rw [HBB.out]; rfl, HB2.out⟩

/-- A proof is as described, as the reference asks it. -/
def shB (n : Nat) (f m t s : Int) : Bool :=
  !(decide (f < 0) || decide (m < f) || decide (t < m) || decide ((n : Int) ≤ t)) && (if f = t then s == 0 else decide (f < m) && decide (m < t) && (s == 1 || s == 2))
theorem shB_iff (n : Nat) (f m t s : Int) : shB n f m t s = true ↔ Shaped n f m t s := by
  unfold shB
  by_cases hft : f = t
  · rw [if_pos hft]
    simp only [Bool.and_eq_true, Bool.not_eq_true', Bool.or_eq_false_iff, decide_eq_false_iff_not, beq_iff_eq]
    constructor
    · rintro ⟨⟨⟨⟨h1, h2⟩, h3⟩, h4⟩, h5⟩
      exact ⟨by omega, by omega, by omega, by omega, .inl ⟨h5, by omega, by omega⟩⟩
    · rintro ⟨h1, h2, h3, h4, h5⟩
      refine ⟨⟨⟨⟨by omega, by omega⟩, by omega⟩, by omega⟩, ?_⟩
      rcases h5 with h5 | h5
      · exact h5.1
      · omega
  · rw [if_neg hft]
    simp only [Bool.and_eq_true, Bool.not_eq_true', Bool.or_eq_false_iff, decide_eq_false_iff_not, Bool.or_eq_true, decide_eq_true_eq, beq_iff_eq]
    constructor
    · rintro ⟨⟨⟨⟨h1, h2⟩, h3⟩, h4⟩, ⟨h5, h6⟩, h7⟩
      exact ⟨by omega, by omega, by omega, by omega, .inr ⟨h7, h5, h6⟩⟩
    · rintro ⟨h1, h2, h3, h4, h5⟩
      refine ⟨⟨⟨⟨by omega, by omega⟩, by omega⟩, by omega⟩, ?_⟩
      rcases h5 with h5 | h5
      · omega
      · exact ⟨⟨h5.2.1, h5.2.2⟩, h5.1⟩
set_option maxRecDepth 100000 in
set_option maxHeartbeats 2000000 in
theorem rshaped_any (v : Value) (l : LogD) (f m t s : Int) (w : World) (hv : LogAt w v l) :
    Calls Tryd.prog 73 #[v, .agg #[.int .i64 f, .int .i64 m, .int .i64 t, .int .i64 s]] w fun e w' => e = .returned (.bool (shB l.at_.length f m t s)) ∧ Below w.heap.size w w' := by
  obtain ⟨va, ve, rfl, hA, hE⟩ := hv
  obtain ⟨a, cap, rfl⟩ := hA.slice
  obtain ⟨a', cap', rfl⟩ := hE.slice
  clear hA hE
  by_cases d1 : f < 0
  · have HV := Lib.hid (show shB l.at_.length f m t s = false by unfold shB; simp [d1])
    go_enter Tryd.func73, Tryd.ntmps73
    go_wp2
    refine bodyPost_ret (v := .bool false) (by simp [results, Tryd.results73, go_sem]) rfl ⟨by rw [HV.out], below2 _ _ _⟩
  by_cases d2 : m < f
  · have HV := Lib.hid (show shB l.at_.length f m t s = false by unfold shB; simp [d2])
    go_enter Tryd.func73, Tryd.ntmps73
    go_wp2
    refine bodyPost_ret (v := .bool false) (by simp [results, Tryd.results73, go_sem]) rfl ⟨by rw [HV.out], below2 _ _ _⟩
  by_cases d3 : t < m
  · have HV := Lib.hid (show shB l.at_.length f m t s = false by unfold shB; simp [d3])
    go_enter Tryd.func73, Tryd.ntmps73
    go_wp2
    refine bodyPost_ret (v := .bool false) (by simp [results, Tryd.results73, go_sem]) rfl ⟨by rw [HV.out], below2 _ _ _⟩
  by_cases d4 : (l.at_.length : Int) ≤ t
  · have HV := Lib.hid (show shB l.at_.length f m t s = false by unfold shB; simp [d4])
    go_enter Tryd.func73, Tryd.ntmps73
    go_wp2
    refine bodyPost_ret (v := .bool false) (by simp [results, Tryd.results73, go_sem]) rfl ⟨by rw [HV.out], below2 _ _ _⟩
  by_cases d5 : f = t
  · have hq : (f == t) = true := by simp [d5]
    have HV := Lib.hid (show shB l.at_.length f m t s = (s == 0) by unfold shB; rw [if_pos d5]; simp [d1, d2, d3, d4])
    clear d5
    go_enter Tryd.func73, Tryd.ntmps73
    go_wp2
    refine bodyPost_ret (v := .bool (s == 0)) (by simp [results, Tryd.results73, go_sem]) rfl ⟨by rw [HV.out], below2 _ _ _⟩
  have hq : (f == t) = false := by simp [d5]
  by_cases d6 : f < m
  · by_cases d7 : m < t
    · by_cases d8 : s = 1
      · have hs : (s == 1) = true := by simp [d8]
        have HV := Lib.hid (show shB l.at_.length f m t s = true by unfold shB; rw [if_neg d5]; simp [d1, d2, d3, d4, d6, d7, d8])
        clear d8
        go_enter Tryd.func73, Tryd.ntmps73
        go_wp2
        refine bodyPost_ret (v := .bool true) (by simp [results, Tryd.results73, go_sem]) rfl ⟨by rw [HV.out], below2 _ _ _⟩
      · have hs : (s == 1) = false := by simp [d8]
        have HV := Lib.hid (show shB l.at_.length f m t s = (s == 2) by unfold shB; rw [if_neg d5]; simp [d1, d2, d3, d4, d6, d7, d8])
        clear d8
        go_enter Tryd.func73, Tryd.ntmps73
        go_wp2
        refine bodyPost_ret (v := .bool (s == 2)) (by simp [results, Tryd.results73, go_sem]) rfl ⟨by rw [HV.out], below2 _ _ _⟩
    · have HV := Lib.hid (show shB l.at_.length f m t s = false by unfold shB; rw [if_neg d5]; simp [d7])
      go_enter Tryd.func73, Tryd.ntmps73
      go_wp2
      refine bodyPost_ret (v := .bool false) (by simp [results, Tryd.results73, go_sem]) rfl ⟨by rw [HV.out], below2 _ _ _⟩
  · have HV := Lib.hid (show shB l.at_.length f m t s = false by unfold shB; rw [if_neg d5]; simp [d6])
    go_enter Tryd.func73, Tryd.ntmps73
    go_wp2
    refine bodyPost_ret (v := .bool false) (by simp [results, Tryd.results73, go_sem]) rfl ⟨by rw [HV.out], below2 _ _ _⟩
end Go.Proofs.YtlhldkiggmlegaaDoor

namespace Go.Proofs.YtlhldkiggmlegaaDoor

/-! ## What the reference says of a proof is what the program proves by it -/
theorem mkRat_of {n : Int} {d : Nat} {h : Rat} (hd : 0 < d) (e : h * (d : Rat) = (n : Rat)) : mkRat n d = h := by
  rw [Rat.mkRat_eq_div, ← e]
  have : ((d : Nat) : Rat) ≠ 0 := by
    have : (0 : Rat) < (d : Rat) := Rat.natCast_pos.2 hd
    grind
  exact Rat.mul_div_cancel this
theorem toNat_cast {z : Int} (h : 0 ≤ z) : ((z.toNat : Nat) : Rat) = (z : Rat) := by
  obtain ⟨k, rfl⟩ := Int.eq_ofNat_of_zero_le h
  rw [Int.toNat_natCast]
  exact (Rat.intCast_natCast k).symm
theorem ref_zero (l : LogD) (m : Nat) : mkRat (hiD l m - loD l m) 2 = half ((hiD l m : Rat) - (loD l m : Rat)) := by
  refine mkRat_of (by omega) ?_
  have := half_eq ((hiD l m : Rat) - (loD l m : Rat))
  rw [Rat.intCast_sub]
  exact this
theorem ref_one (l : LogD) {f m t : Nat} (h : atD l f < atD l t) :
    mkRat (hiD l m * (atD l t - atD l f) - betw l f m t (loD l f) (loD l t)) (2 * (atD l t - atD l f)).toNat = half ((hiD l m : Rat) - lineAt (loP l f) (loP l t) (atD l m)) := by
  refine mkRat_of (by omega) ?_
  have e1 := half_eq ((hiD l m : Rat) - lineAt (loP l f) (loP l t) (atD l m))
  have e2 := lineAt_eq (loP l f) (loP l t) (atD l m) h
  rw [toNat_cast (by omega)]
  unfold betw
  simp only [loP] at *
  generalize lineAt _ _ _ = y at *
  generalize half _ = z at *
  simp only [Rat.intCast_sub, Rat.intCast_add, Rat.intCast_mul]
  have c2 : ((2 : Int) : Rat) = 2 := rfl
  rw [c2]
  have e3 : z * (2 * ((atD l t : Rat) - (atD l f : Rat))) = ((hiD l m : Rat) - y) * ((atD l t : Rat) - (atD l f : Rat)) := by grind
  rw [e3]
  grind
theorem ref_two (l : LogD) {f m t : Nat} (h : atD l f < atD l t) :
    mkRat (betw l f m t (hiD l f) (hiD l t) - loD l m * (atD l t - atD l f)) (2 * (atD l t - atD l f)).toNat = half (lineAt (hiP l f) (hiP l t) (atD l m) - (loD l m : Rat)) := by
  refine mkRat_of (by omega) ?_
  have e1 := half_eq (lineAt (hiP l f) (hiP l t) (atD l m) - (loD l m : Rat))
  have e2 := lineAt_eq (hiP l f) (hiP l t) (atD l m) h
  rw [toNat_cast (by omega)]
  unfold betw
  simp only [hiP] at *
  generalize lineAt _ _ _ = y at *
  generalize half _ = z at *
  simp only [Rat.intCast_sub, Rat.intCast_add, Rat.intCast_mul]
  have c2 : ((2 : Int) : Rat) = 2 := rfl
  rw [c2]
  have e3 : z * (2 * ((atD l t : Rat) - (atD l f : Rat))) = (y - (loD l m : Rat)) * ((atD l t : Rat) - (atD l f : Rat)) := by grind
  rw [e3]
  grind

/-! ## The converse: what is kept proves itself against every proof -/
theorem keeps_le {l : LogD} (hf : Fit l.at_ [l.edges]) {c : Rat} {a s : Rat} (hk : ∀ k, k < l.at_.length → (lowP l c k).2 ≤ a + s * xR l k ∧ a + s * xR l k ≤ (uppP l c k).2) : ∀ p ∈ proofsL l.at_.length, c ≤ valR l p := by
  intro p hp
  rcases List.mem_append.1 hp with hp | hp
  · obtain ⟨i, hi, rfl⟩ := List.mem_map.1 hp
    rw [valR_single]
    have h1 := half_eq ((hiD l i : Rat) - (loD l i : Rat))
    obtain ⟨h2, h3⟩ := hk i (List.mem_range.1 hi)
    simp only [lowP, uppP] at h2 h3
    grind
  · obtain ⟨j, hj, hp⟩ := List.mem_flatMap.1 hp
    obtain ⟨m, hm, hp⟩ := List.mem_flatMap.1 hp
    obtain ⟨i, hi, hp⟩ := List.mem_flatMap.1 hp
    rw [List.mem_range] at hj hm hi
    have x1 : xR l i < xR l m := Rat.intCast_lt_intCast.2 (strict_at hf hi (by omega))
    have x2 : xR l m < xR l j := Rat.intCast_lt_intCast.2 (strict_at hf hm hj)
    obtain ⟨u1, u2⟩ := hk i (by omega)
    obtain ⟨v1, v2⟩ := hk m (by omega)
    obtain ⟨w1, w2⟩ := hk j hj
    simp only [tri3, List.mem_cons, List.not_mem_nil, or_false] at hp
    rcases hp with rfl | rfl
    · rw [valR_one]
      have h1 := half_eq ((hiD l m : Rat) - lineAt (loP l i) (loP l j) (atD l m))
      have h2 := lineAt_eq (loP l i) (loP l j) (atD l m) (strict_at hf (by omega) hj)
      simp only [lowP, uppP, loP, xR] at *
      generalize lineAt _ _ _ = y at *
      generalize half _ = z at *
      have p1 := Rat.mul_le_mul_of_nonneg_right u1 (c := (atD l j : Rat) - (atD l m : Rat)) (by grind)
      have p2 := Rat.mul_le_mul_of_nonneg_right w1 (c := (atD l m : Rat) - (atD l i : Rat)) (by grind)
      rcases Rat.le_total (a := y + c) (b := a + s * (atD l m : Rat)) with h | h
      · grind
      · by_cases he : y + c = a + s * (atD l m : Rat)
        · grind
        · have p3 : (0 : Rat) < (y + c - (a + s * (atD l m : Rat))) * ((atD l j : Rat) - (atD l i : Rat)) := Rat.mul_pos (by grind) (by grind)
          grind
    · rw [valR_two]
      have h1 := half_eq (lineAt (hiP l i) (hiP l j) (atD l m) - (loD l m : Rat))
      have h2 := lineAt_eq (hiP l i) (hiP l j) (atD l m) (strict_at hf (by omega) hj)
      simp only [lowP, uppP, hiP, xR] at *
      generalize lineAt _ _ _ = y at *
      generalize half _ = z at *
      have p1 := Rat.mul_le_mul_of_nonneg_right u2 (c := (atD l j : Rat) - (atD l m : Rat)) (by grind)
      have p2 := Rat.mul_le_mul_of_nonneg_right w2 (c := (atD l m : Rat) - (atD l i : Rat)) (by grind)
      rcases Rat.le_total (a := a + s * (atD l m : Rat)) (b := y - c) with h | h
      · grind
      · by_cases he : y - c = a + s * (atD l m : Rat)
        · grind
        · have p3 : (0 : Rat) < (a + s * (atD l m : Rat) - (y - c)) * ((atD l j : Rat) - (atD l i : Rat)) := Rat.mul_pos (by grind) (by grind)
          grind
end Go.Proofs.YtlhldkiggmlegaaDoor

namespace Go.Proofs.YtlhldkiggmlegaaDoor

/-! ## The line that is returned is the line of the heights -/
theorem lineDen_dvd (s d : Rat) : s.den ∣ lineDen s d ∧ d.den ∣ lineDen s d := by
  refine ⟨?_, Nat.dvd_mul_left _ _⟩
  obtain ⟨a, ha⟩ := Nat.gcd_dvd_left s.den d.den
  obtain ⟨b, hb⟩ := Nat.gcd_dvd_right s.den d.den
  have hg : 0 < s.den.gcd d.den := Nat.gcd_pos_of_pos_left _ s.den_pos
  unfold lineDen
  generalize s.den.gcd d.den = g at *
  rw [ha, hb, Nat.mul_div_cancel_left _ hg]
  exact ⟨b, by rw [Nat.mul_left_comm, Nat.mul_assoc]⟩
theorem lineDen_pos (s d : Rat) : 0 < lineDen s d := by
  obtain ⟨k, hk⟩ := (lineDen_dvd s d).2
  have h0 := d.den_pos
  rcases Nat.eq_zero_or_pos (lineDen s d) with h | h
  · exfalso
    have hg : 0 < s.den.gcd d.den := Nat.gcd_pos_of_pos_left _ s.den_pos
    have h1 : 0 < s.den / s.den.gcd d.den := Nat.div_pos (Nat.le_of_dvd s.den_pos (Nat.gcd_dvd_left _ _)) hg
    have h2 := Nat.mul_pos h1 h0
    unfold lineDen at h
    omega
  · exact h
theorem scaled {x : Rat} {D : Nat} (h : x.den ∣ D) : ((x.num * ((D : Int) / (x.den : Int)) : Int) : Rat) = x * (D : Rat) := by
  obtain ⟨k, rfl⟩ := h
  have e1 : ((x.den * k : Nat) : Int) / (x.den : Int) = (k : Int) := by
    rw [Int.natCast_mul]
    exact Int.mul_ediv_cancel_left _ (by have := x.den_pos; omega)
  have e2 : x * (x.den : Rat) = (x.num : Rat) := by
    have h1 : x = (x.num : Rat) / (x.den : Rat) := by rw [← Rat.mkRat_eq_div]; exact (Rat.mkRat_self x).symm
    have h2 : (x.den : Rat) ≠ 0 := by
      have : (0 : Rat) < (x.den : Rat) := Rat.natCast_pos.2 x.den_pos
      grind
    have h3 := congrArg (· * (x.den : Rat)) h1
    simpa [Rat.div_mul_cancel h2] using h3
  rw [e1, Rat.intCast_mul, Rat.natCast_mul, Rat.intCast_natCast, ← Rat.mul_assoc, e2]
theorem line_val (s d : Rat) : (lineStart s d : Rat) = s * (lineDen s d : Rat) ∧ (lineStep s d : Rat) = d * (lineDen s d : Rat) :=
  ⟨scaled (lineDen_dvd s d).1, scaled (lineDen_dvd s d).2⟩
/-- The denominator divides whatever denominator both have. -/
theorem den_dvd {D : Nat} {M : Int} {r : Rat} (hD : 0 < D) (h : Fr D M r) : r.den ∣ D := by
  obtain ⟨k, rfl, _, _⟩ := h
  rw [← Rat.mkRat_eq_div, Rat.den_mkRat, if_neg (by omega)]
  exact Nat.div_dvd_of_dvd (Nat.gcd_dvd_left _ _)
theorem lineDen_small {D : Nat} {s d : Rat} (hD : 0 < D) (h1 : s.den ∣ D) (h2 : d.den ∣ D) : lineDen s d ≤ D := by
  have e : lineDen s d = Nat.lcm s.den d.den := by
    unfold lineDen Nat.lcm
    rw [Nat.div_mul_right_comm (Nat.gcd_dvd_left _ _)]
  rw [e]
  exact Nat.le_of_dvd hD (Nat.lcm_dvd h1 h2)
end Go.Proofs.YtlhldkiggmlegaaDoor

namespace Go.Proofs.YtlhldkiggmlegaaDoor

/-! ## The core of a line is the greatest one that it keeps; no line's core is greater than the best one -/
theorem leastR_eq (xs : List Rat) : leastR xs = bestBy (fun a b => decide (a < b)) xs := by
  unfold leastR bestBy
  congr 1
  funext b x
  cases b <;> simp
theorem mem_core {l : LogD} (hf : Fit l.at_ [l.edges]) {h : Int → Rat} {x : Rat} : x ∈ coreList l h ↔ ∃ k, k < l.at_.length ∧ (x = h (atD l k) - (loD l k : Rat) ∨ x = (hiD l k : Rat) - h (atD l k)) := by
  have hlen := hf.lens _ (List.mem_singleton.2 rfl)
  unfold coreList
  rw [List.mem_flatMap]
  constructor
  · rintro ⟨p, hp, hx⟩
    obtain ⟨k, hk, rfl⟩ := List.mem_iff_getElem.1 hp
    simp only [List.length_zip] at hk
    have k1 : k < l.at_.length := by omega
    have k2 : k < l.edges.length := by omega
    simp only [List.getElem_zip, atD_eq k1, loD_eq k2, hiD_eq k2, List.mem_cons, List.not_mem_nil, or_false] at hx
    exact ⟨k, k1, hx⟩
  · rintro ⟨k, k1, hx⟩
    have k2 : k < l.edges.length := by omega
    refine ⟨(l.at_[k], l.edges[k]), List.mem_iff_getElem.2 ⟨k, by simp; omega, by simp⟩, ?_⟩
    simp only [atD_eq k1, loD_eq k2, hiD_eq k2, List.mem_cons, List.not_mem_nil, or_false]
    exact hx
theorem core_iff {l : LogD} (hf : Fit l.at_ [l.edges]) {den start step : Int} {c : Rat} :
    c ≤ coreOf l den start step ↔ ∀ k, k < l.at_.length → (lowP l c k).2 ≤ strAt den start step (atD l k) ∧ strAt den start step (atD l k) ≤ (uppP l c k).2 := by
  have hm : strAt den start step (atD l 0) - (loD l 0 : Rat) ∈ coreList l (strAt den start step) := (mem_core hf).2 ⟨0, by have := hf.two; omega, .inl rfl⟩
  obtain ⟨y, hy⟩ := bestBy_some (fun a b => decide (a < b)) (show coreList l (strAt den start step) ≠ [] from fun e => by rw [e] at hm; cases hm)
  obtain ⟨h1, h2⟩ := best_least hy
  have e : coreOf l den start step = y := by unfold coreOf; rw [leastR_eq, hy]; rfl
  rw [e]
  simp only [lowP, uppP]
  constructor
  · intro hc k hk
    have a1 := h2 _ ((mem_core hf).2 ⟨k, hk, .inl rfl⟩)
    have a2 := h2 _ ((mem_core hf).2 ⟨k, hk, .inr rfl⟩)
    constructor <;> grind
  · intro hc
    obtain ⟨k, hk, h3⟩ := (mem_core hf).1 h1
    obtain ⟨h4, h5⟩ := hc k hk
    rcases h3 with h3 | h3 <;> grind
theorem strAt_eq {den start step x : Int} (h : 0 < den) : strAt den start step x = (start : Rat) / (den : Rat) + (step : Rat) / (den : Rat) * (x : Rat) := by
  unfold strAt
  obtain ⟨d, rfl⟩ := Int.eq_ofNat_of_zero_le (Int.le_of_lt h)
  rw [Rat.mkRat_eq_div, Int.toNat_natCast, Rat.intCast_add, Rat.intCast_mul, Rat.intCast_natCast]
  have : (d : Rat) ≠ 0 := by
    have : (0 : Rat) < (d : Rat) := Rat.natCast_pos.2 (by omega)
    grind
  grind
/-- No line has a core that is greater than what a proof proves. -/
theorem core_le_proof {l : LogD} (hf : Fit l.at_ [l.edges]) {den start step : Int} (h : 0 < den) : ∀ p ∈ proofsL l.at_.length, coreOf l den start step ≤ valR l p := by
  refine keeps_le hf (a := (start : Rat) / (den : Rat)) (s := (step : Rat) / (den : Rat)) fun k hk => ?_
  have := (core_iff hf (c := coreOf l den start step) (den := den) (start := start) (step := step)).1 Rat.le_refl k hk
  rw [strAt_eq h] at this
  exact this
theorem core_le_best {l : LogD} (hf : Fit l.at_ [l.edges]) {den start step : Int} (h : 0 < den) : coreOf l den start step ≤ bestV l := by
  obtain ⟨⟨p, hp, e⟩, _⟩ := isBest_of hf
  rw [← e]
  exact core_le_proof hf h p hp

theorem lineAt_affine {a b : Pt} (h : a.1 < b.1) (x : Int) : lineAt a b x = lineAt a b 0 + (lineAt a b 1 - lineAt a b 0) * (x : Rat) := by
  have e0 := lineAt_eq a b 0 h
  have e1 := lineAt_eq a b 1 h
  have ex := lineAt_eq a b x h
  have c0 : ((0 : Int) : Rat) = 0 := rfl
  have c1 : ((1 : Int) : Rat) = 1 := rfl
  rw [c0] at e0
  rw [c1] at e1
  have hlt : (a.1 : Rat) < (b.1 : Rat) := Rat.intCast_lt_intCast.2 h
  generalize lineAt a b 0 = y0 at *
  generalize lineAt a b 1 = y1 at *
  generalize lineAt a b x = y at *
  have e : (y - (y0 + (y1 - y0) * (x : Rat))) * ((b.1 : Rat) - (a.1 : Rat)) = 0 := by grind
  rcases Rat.mul_eq_zero.1 e with h | h
  · grind
  · grind
theorem lineD_at {x : Pt × Pt} (h : x.1.1 < x.2.1) (t : Int) : strAt (lineD x).1 (lineD x).2.1 (lineD x).2.2 t = lineAt x.1 x.2 t := by
  have hp := lineDen_pos (lineAt x.1 x.2 0) (lineAt x.1 x.2 1 - lineAt x.1 x.2 0)
  obtain ⟨v1, v2⟩ := line_val (lineAt x.1 x.2 0) (lineAt x.1 x.2 1 - lineAt x.1 x.2 0)
  rw [strAt_eq (show 0 < (lineD x).1 by simp only [lineD]; omega), lineAt_affine h t]
  simp only [lineD]
  rw [v1, v2, Rat.intCast_natCast]
  have hne : (lineDen (lineAt x.1 x.2 0) (lineAt x.1 x.2 1 - lineAt x.1 x.2 0) : Rat) ≠ 0 := by
    have := Rat.natCast_pos.2 hp
    grind
  rw [Rat.mul_div_cancel hne, Rat.mul_div_cancel hne]
/-- The line that is returned has the best core. -/
theorem line_best {l : LogD} (hf : Fit l.at_ [l.edges]) : coreOf l (lineD (lineX l)).1 (lineD (lineX l)).2.1 (lineD (lineX l)).2.2 = bestV l := by
  have hne := keepL_ne hf (fun p hp => (isBest_of hf).2 p hp)
  have hm : lineX l ∈ keepL l (bestV l) := by
    unfold lineX
    cases h : keepL l (bestV l) with
    | nil => exact absurd h hne
    | cons x xs => simp
  obtain ⟨h1, h2⟩ := List.mem_filter.1 hm
  obtain ⟨D, _, _, _, _, g3, g4, g5, _⟩ := corner_fr hf (bestCore hf).1 (isCorner_of_mem h1)
  refine Rat.le_antisymm (core_le_best hf ?_) ((core_iff hf).2 fun k hk => ?_)
  · simp only [lineD]
    have := lineDen_pos (lineAt (lineX l).1 (lineX l).2 0) (lineAt (lineX l).1 (lineX l).2 1 - lineAt (lineX l).1 (lineX l).2 0)
    omega
  · rw [lineD_at g4]
    exact keepsB_iff.1 h2 k hk
/-- The line that is returned is valid. -/
theorem line_valid {l : LogD} (hf : Fit l.at_ [l.edges]) : lineErr (lineD (lineX l)).1 (lineD (lineX l)).2.1 (lineD (lineX l)).2.2 = 0 := by
  have hne := keepL_ne hf (fun p hp => (isBest_of hf).2 p hp)
  have hm : lineX l ∈ keepL l (bestV l) := by
    unfold lineX
    cases h : keepL l (bestV l) with
    | nil => exact absurd h hne
    | cons x xs => simp
  obtain ⟨D, d1, d2, _, _, g3, g4, g5, g6⟩ := corner_fr hf (bestCore hf).1 (isCorner_of_mem (List.mem_filter.1 hm).1)
  have f0 := (g6 0 (by omega) (by omega)).2
  have f1 := (g6 1 (by omega) (by omega)).2
  have fd := f1.sub f0
  simp only [lineD]
  generalize lineAt (lineX l).1 (lineX l).2 0 = s at *
  generalize lineAt (lineX l).1 (lineX l).2 1 = e at *
  generalize e - s = d at *
  have hp := lineDen_pos s d
  have hs := lineDen_small d1 (den_dvd d1 f0) (den_dvd d1 fd)
  obtain ⟨v1, v2⟩ := line_val s d
  obtain ⟨b1, b2⟩ := f0.le d1
  obtain ⟨b3, b4⟩ := fd.le d1
  have hD : (0 : Rat) < (lineDen s d : Rat) := Rat.natCast_pos.2 hp
  have hD2 : (lineDen s d : Rat) ≤ 20000 := by
    have : ((20000 : Nat) : Rat) = 20000 := rfl
    rw [← this]
    exact Rat.natCast_le_natCast.2 (by omega)
  have bd : ∀ (z : Int) (q : Rat) (M : Int), 0 ≤ M → M ≤ 3000000 → -(M : Rat) ≤ q → q ≤ (M : Rat) → (z : Rat) = q * (lineDen s d : Rat) → -68719476736 ≤ z ∧ z ≤ 68719476736 := by
    intro z q M hM0 hM h1 h2 h3
    have p1 := Rat.mul_le_mul_of_nonneg_right h1 (c := (lineDen s d : Rat)) (by grind)
    have p2 := Rat.mul_le_mul_of_nonneg_right h2 (c := (lineDen s d : Rat)) (by grind)
    have hM2 : (M : Rat) ≤ 3000000 := by
      have : ((3000000 : Int) : Rat) = 3000000 := rfl
      rw [← this]
      exact Rat.intCast_le_intCast.2 hM
    have hM3 : (0 : Rat) ≤ (M : Rat) := by
      have : ((0 : Int) : Rat) = 0 := rfl
      rw [← this]
      exact Rat.intCast_le_intCast.2 hM0
    have p3 := Rat.mul_le_mul_of_nonneg_right hM2 (c := (lineDen s d : Rat)) (by grind)
    rw [← h3] at p1 p2
    have c1 : ((-68719476736 : Int) : Rat) = -68719476736 := rfl
    have c2 : ((68719476736 : Int) : Rat) = 68719476736 := rfl
    constructor
    · refine Rat.intCast_le_intCast.1 ?_
      rw [c1]
      grind
    · refine Rat.intCast_le_intCast.1 ?_
      rw [c2]
      grind
  obtain ⟨q1, q2⟩ := bd _ s 603000 (by omega) (by omega) b1 b2 v1
  obtain ⟨q3, q4⟩ := bd _ d (603000 + 603000) (by omega) (by omega) b3 b4 v2
  unfold lineErr
  rw [if_neg (by omega)]
end Go.Proofs.YtlhldkiggmlegaaDoor

namespace Go.Proofs.YtlhldkiggmlegaaDoor
open Go.Sort

/-! ## The proof that is returned -/
theorem keys_filter (E : EL) (f : PK → Bool) : keysOf (asE (E.filter fun e => f e.1)) = (keysOf (asE E)).filter f := by
  induction E with
  | nil => rfl
  | cons e E ih =>
    have h1 : keysOf (asE (e :: E)) = e.1 :: keysOf (asE E) := rfl
    rw [List.filter_cons, h1, List.filter_cons]
    by_cases he : f e.1 = true
    · rw [if_pos he, if_pos he, ← ih]; rfl
    · rw [if_neg he, if_neg he, ih]
/-- The map after best holds just the proofs of the best core. -/
theorem find_best {l : LogD} {clock : Nat} {r : Rat} {p : PK} (hp : p ∈ proofsL l.at_.length) :
    (valR l p = r ∧ ∃ i q, findE p (asE ((EV l clock (proofsL l.at_.length)).filter fun e => decide (valR l e.1 = r))) 0 = some (i, qv q)) ∨
    (valR l p ≠ r ∧ findE p (asE ((EV l clock (proofsL l.at_.length)).filter fun e => decide (valR l e.1 = r))) 0 = none) := by
  have hk := keys_filter (EV l clock (proofsL l.at_.length)) (fun k => decide (valR l k = r))
  rw [EV_keys] at hk
  by_cases h : valR l p = r
  · refine .inl ⟨h, ?_⟩
    obtain ⟨j, e, h1, _, h3, _⟩ := findE_some (k := p) (i := 0) (es := asE ((EV l clock (proofsL l.at_.length)).filter fun e => decide (valR l e.1 = r))) (by rw [hk]; exact List.mem_filter.2 ⟨hp, by simp [h]⟩)
    obtain ⟨e', _, rfl⟩ := List.mem_map.1 (List.mem_of_getElem? h1)
    exact ⟨_, _, h3⟩
  · refine .inr ⟨h, findE_none ?_⟩
    rw [hk]
    intro hm
    have := (List.mem_filter.1 hm).2
    simp [h] at this
/-- The proofs of the best core, in order; the first one. -/
def bestPs (l : LogD) : List PK := (proofsL l.at_.length).filter fun p => decide (valR l p = bestV l)
def proofX (l : LogD) : PK := (bestPs l).headD (single 0)
theorem bestPs_ne {l : LogD} (hf : Fit l.at_ [l.edges]) : bestPs l ≠ [] := by
  obtain ⟨⟨p, hp, e⟩, _⟩ := isBest_of hf
  intro h
  have : p ∈ bestPs l := List.mem_filter.2 ⟨hp, by simp [e]⟩
  rw [h] at this
  cases this
/-- The proof that is returned proves the best core. -/
theorem proof_best {l : LogD} (hf : Fit l.at_ [l.edges]) : proofX l ∈ proofsL l.at_.length ∧ valR l (proofX l) = bestV l := by
  have hne := bestPs_ne hf
  have hm : proofX l ∈ bestPs l := by
    unfold proofX
    cases h : bestPs l with
    | nil => exact absurd h hne
    | cons x xs => simp
  obtain ⟨h1, h2⟩ := List.mem_filter.1 hm
  exact ⟨h1, by simpa using h2⟩
def pkCells (l : List PK) : List Value := l.flatMap fun p => [.int .i64 p.f, .int .i64 p.m, .int .i64 p.t, .int .i64 p.s]
theorem pkCells_snoc (l : List PK) (p : PK) : pkCells (l ++ [p]) = pkCells l ++ [.int .i64 p.f, .int .i64 p.m, .int .i64 p.t, .int .i64 p.s] := by simp [pkCells]
theorem proofs_len {n : Nat} (hn : n ≤ 8) : (proofsL n).length ≤ 1000 := by
  have h : ∀ n : Nat, n < 9 → (proofsL n).length ≤ 1000 := by decide +kernel
  exact h n (by omega)
end Go.Proofs.YtlhldkiggmlegaaDoor
