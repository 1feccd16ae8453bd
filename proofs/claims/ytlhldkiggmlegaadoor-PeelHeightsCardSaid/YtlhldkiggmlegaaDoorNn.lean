import Derived.Test.YtlhldkiggmlegaaDoorNm
namespace Go.Proofs.YtlhldkiggmlegaaDoor
open Go.RowKit Go.Sort

theorem corner_fr {l : LogD} (hf : Fit l.at_ [l.edges]) {core : Rat} (h : CoreOk core) {x : Pt × Pt} (hx : IsCorner l core x) :
    ∃ D : Nat, 0 < D ∧ D ≤ 20000 ∧ Fine x.1.2 ∧ Fine (x.2.2 - x.1.2) ∧ 0 ≤ x.1.1 ∧ x.1.1 < x.2.1 ∧ x.2.1 ≤ 100 ∧
      ∀ t : Int, 0 ≤ t → t ≤ 100 → Fr D 600000 ((x.2.2 - x.1.2) * ((t - x.1.1 : Int) : Rat) / ((x.2.1 - x.1.1 : Int) : Rat)) ∧ Fr D 603000 (lineAt x.1 x.2 t) := by
  obtain ⟨f1, f2, _, _, f5, f6, f7, _, _⟩ := corner_fine hf h hx (k := 0) (by have := hf.two; omega)
  obtain ⟨i, j, c, d, hij, hj, hc, hd, rfl⟩ := hx
  obtain ⟨a1, a2⟩ := ptK_fr hf h (show i < l.at_.length by omega) c
  obtain ⟨b1, b2⟩ := ptK_fr hf h hj d
  have hd1 := core.den_pos
  have hd2 := h.den
  generalize ptK (lowP l core i) (uppP l core i) c = pa at *
  generalize ptK (lowP l core j) (uppP l core j) d = pb at *
  simp only at f1 f2 f5 f6 f7
  have e1 : Fr core.den 6000 (pb.2 - pa.2) := (b1.sub a1).mono (by omega)
  refine ⟨core.den * (pb.1 - pa.1).toNat, Nat.mul_pos hd1 (by omega), ?_, f1, f2, f5, f6, f7, fun t ht ht' => ?_⟩
  · have := Nat.mul_le_mul hd2 (show (pb.1 - pa.1).toNat ≤ 100 by omega)
    omega
  · have e2 := e1.part (n := t - pa.1) (d := pb.1 - pa.1) (by omega) (by omega) (by omega) (by omega)
    exact ⟨e2.mono (by omega), ((a1.wide (pb.1 - pa.1).toNat (by omega)).add e2).mono (by omega)⟩
theorem frD_fine {D : Nat} {M : Int} {r : Rat} (hD : 0 < D) (hD' : D ≤ 20000) (h0 : 0 ≤ M) (hM : M ≤ 10000000) (h : Fr D M r) : Fine r := by
  refine h.fine hD (by omega) ?_
  have := mul_bd M (D : Int) 10000000 20000 (by omega) hM (by omega) (by omega) (by omega)
  omega
theorem isCorner_of_mem {l : LogD} {core : Rat} {x : Pt × Pt} (hx : x ∈ cornersL l core) : IsCorner l core x := by
  obtain ⟨j, hj, hx⟩ := List.mem_flatMap.1 hx
  obtain ⟨i, hi, hx⟩ := List.mem_flatMap.1 hx
  rw [List.mem_range] at hi hj
  simp only [cn2, two1, List.cons_append, List.nil_append, List.mem_cons, List.not_mem_nil, or_false] at hx
  rcases hx with rfl | rfl | rfl | rfl
  · exact ⟨i, j, 0, 0, hi, hj, by omega, by omega, rfl⟩
  · exact ⟨i, j, 0, 1, hi, hj, by omega, by omega, rfl⟩
  · exact ⟨i, j, 1, 0, hi, hj, by omega, by omega, rfl⟩
  · exact ⟨i, j, 1, 1, hi, hj, by omega, by omega, rfl⟩
theorem isBest_of {l : LogD} (hf : Fit l.at_ [l.edges]) : IsBest l (bestV l) := by
  have hm := mem_single (n := l.at_.length) (i := 0) (by have := hf.two; omega)
  have hne : (proofsL l.at_.length).map (valR l) ≠ [] := by intro e; rw [List.map_eq_nil_iff] at e; rw [e] at hm; cases hm
  obtain ⟨r, hr⟩ := bestBy_some (fun a b => decide (a < b)) hne
  obtain ⟨h3, h4⟩ := best_least hr
  have hb : IsBest l r := by
    obtain ⟨q, hq, e⟩ := List.mem_map.1 h3
    exact ⟨⟨q, hq, e⟩, fun p hp => h4 _ (List.mem_map_of_mem hp)⟩
  rw [isBest_eq hb]
  exact hb
theorem edge_bd {l : LogD} (hf : Fit l.at_ [l.edges]) {k : Nat} (hk : k < l.at_.length) : (-1000 : Rat) ≤ (loD l k : Rat) ∧ (loD l k : Rat) ≤ 1000 ∧ (-1000 : Rat) ≤ (hiD l k : Rat) ∧ (hiD l k : Rat) ≤ 1000 := by
  have hlen := hf.lens _ (List.mem_singleton.2 rfl)
  have hk' : k < l.edges.length := by omega
  obtain ⟨y1, y2, y3⟩ := okEdges_get (hf.edges _ (List.mem_singleton.2 rfl)) k hk'
  rw [loD_eq hk', hiD_eq hk'] at *
  have c1 : ((-1000 : Int) : Rat) = -1000 := rfl
  have c2 : ((1000 : Int) : Rat) = 1000 := rfl
  rw [← c1, ← c2]
  exact ⟨Rat.intCast_le_intCast.2 (by omega), Rat.intCast_le_intCast.2 (by omega), Rat.intCast_le_intCast.2 (by omega), Rat.intCast_le_intCast.2 (by omega)⟩
/-- Between two points a line is as high as they are. -/
theorem line_between {a b : Pt} {x : Int} (h1 : a.1 < x) (h2 : x < b.1) {m : Rat} (ha : a.2 ≤ m) (hb : b.2 ≤ m) : lineAt a b x ≤ m := by
  have e := lineAt_eq a b x (by omega)
  have c1 : (a.1 : Rat) < (x : Rat) := Rat.intCast_lt_intCast.2 h1
  have c2 : (x : Rat) < (b.1 : Rat) := Rat.intCast_lt_intCast.2 h2
  generalize lineAt a b x = y at *
  have p1 := Rat.mul_le_mul_of_nonneg_right ha (c := (b.1 : Rat) - (x : Rat)) (by grind)
  have p2 := Rat.mul_le_mul_of_nonneg_right hb (c := (x : Rat) - (a.1 : Rat)) (by grind)
  rcases Rat.le_total (a := y) (b := m) with h | h
  · exact h
  · have p3 := Rat.mul_le_mul_of_nonneg_right h (c := (b.1 : Rat) - (a.1 : Rat)) (by grind)
    by_cases hym : y = m
    · rw [hym]; exact Rat.le_refl
    · have p4 : (0 : Rat) < (y - m) * ((b.1 : Rat) - (a.1 : Rat)) := Rat.mul_pos (by grind) (by grind)
      grind
theorem between_line {a b : Pt} {x : Int} (h1 : a.1 < x) (h2 : x < b.1) {m : Rat} (ha : m ≤ a.2) (hb : m ≤ b.2) : m ≤ lineAt a b x := by
  have e := lineAt_eq a b x (by omega)
  have c1 : (a.1 : Rat) < (x : Rat) := Rat.intCast_lt_intCast.2 h1
  have c2 : (x : Rat) < (b.1 : Rat) := Rat.intCast_lt_intCast.2 h2
  generalize lineAt a b x = y at *
  have p1 := Rat.mul_le_mul_of_nonneg_right ha (c := (b.1 : Rat) - (x : Rat)) (by grind)
  have p2 := Rat.mul_le_mul_of_nonneg_right hb (c := (x : Rat) - (a.1 : Rat)) (by grind)
  rcases Rat.le_total (a := m) (b := y) with h | h
  · exact h
  · by_cases hym : y = m
    · rw [hym]; exact Rat.le_refl
    · have p4 : (0 : Rat) < (m - y) * ((b.1 : Rat) - (a.1 : Rat)) := Rat.mul_pos (by grind) (by grind)
      grind
theorem bestCore {l : LogD} (hf : Fit l.at_ [l.edges]) : CoreOk (bestV l) ∧ -1000 ≤ bestV l ∧ bestV l ≤ 1000 := by
  have hb := isBest_of hf
  obtain ⟨_, hden, _, _⟩ := best_small hf hb
  have hup : bestV l ≤ 1000 := by
    have h0 : 0 < l.at_.length := by have := hf.two; omega
    have := hb.2 _ (mem_single h0)
    rw [valR_single] at this
    have h2 := half_eq ((hiD l 0 : Rat) - (loD l 0 : Rat))
    obtain ⟨y1, y2, y3, y4⟩ := edge_bd hf h0
    grind
  have hlo : -1000 ≤ bestV l := by
    obtain ⟨⟨p, hp, he⟩, _⟩ := hb
    rw [← he]
    rcases List.mem_append.1 hp with hp | hp
    · obtain ⟨i, hi, rfl⟩ := List.mem_map.1 hp
      rw [valR_single]
      have h2 := half_eq ((hiD l i : Rat) - (loD l i : Rat))
      obtain ⟨y1, y2, y3, y4⟩ := edge_bd hf (List.mem_range.1 hi)
      grind
    · obtain ⟨j, hj, hp⟩ := List.mem_flatMap.1 hp
      obtain ⟨m, hm, hp⟩ := List.mem_flatMap.1 hp
      obtain ⟨i, hi, hp⟩ := List.mem_flatMap.1 hp
      rw [List.mem_range] at hj hm hi
      have a1 := strict_at hf hi (show m < l.at_.length by omega)
      have a2 := strict_at hf hm hj
      obtain ⟨y1, y2, y3, y4⟩ := edge_bd hf (show m < l.at_.length by omega)
      obtain ⟨u1, u2, u3, u4⟩ := edge_bd hf (show i < l.at_.length by omega)
      obtain ⟨v1, v2, v3, v4⟩ := edge_bd hf hj
      simp only [tri3, List.mem_cons, List.not_mem_nil, or_false] at hp
      rcases hp with rfl | rfl
      · rw [valR_one]
        have h2 := half_eq ((hiD l m : Rat) - lineAt (loP l i) (loP l j) (atD l m))
        have h3 := line_between (a := loP l i) (b := loP l j) a1 a2 u2 v2
        grind
      · rw [valR_two]
        have h2 := half_eq (lineAt (hiP l i) (hiP l j) (atD l m) - (loD l m : Rat))
        have h3 := between_line (a := hiP l i) (b := hiP l j) a1 a2 u3 v3
        grind
  exact ⟨⟨hden, by grind, by grind⟩, hlo, hup⟩

def lineX (l : LogD) : Pt × Pt := (keepL l (bestV l)).headD ((0, 0), (0, 0))
def lineD (x : Pt × Pt) : Int × Int × Int :=
  let s := lineAt x.1 x.2 0
  let d := lineAt x.1 x.2 1 - lineAt x.1 x.2 0
  (lineDen s d, lineStart s d, lineStep s d)
def lv (x : Int × Int × Int) : Value := .agg #[.int .i64 x.1, .int .i64 x.2.1, .int .i64 x.2.2]
def le (x : Int × Int × Int) (e : Int) : Value := .tuple #[if e = 0 then lv x else lv (0, 0, 0), .int .i64 e]

set_option maxRecDepth 100000 in
set_option maxHeartbeats 1000000 in
theorem Line_any (v : Value) (l : LogD) (w : World) (hv : LogAt w v l) (hs : l.small) :
    Calls Tryd.prog 28 #[v] w fun e w' => e = .returned (le (lineD (lineX l)) (logErr l)) ∧ Below w.heap.size w w' := by
  obtain ⟨va, ve, rfl, h1, h2⟩ := hv
  obtain ⟨a, cap, rfl⟩ := h1.slice
  obtain ⟨a', cap', rfl⟩ := h2.slice
  have HV : Hid (LogAt w (.agg #[.slice a l.at_.length cap, .slice a' l.edges.length cap']) l) := Lib.hid ⟨_, _, rfl, h1, h2⟩
  have HS := Lib.hid hs
  clear h1 h2 hs
  by_cases h0 : logErr l = 0
  · have H0 := Lib.hid h0
    have HF := Lib.hid (placesErr_zero h0)
    clear h0
    go_enter Tryd.func28, Tryd.ntmps28
    go_wp2_with fail
    refine (lay_ok _ l _ (HV.out.below (below2 _ _ _)) HS.out H0.out).mono ?_
    rintro e w1 ⟨L, M, clock, rfl, hL, hM, l1, l2, hb1⟩
    have hz1 := hb1.size
    simp at hz1 l1 l2
    have hB1 := after2 hb1
    have bR := (Blk.new (w.alloc (.cells #[.slice a l.at_.length cap, .slice a' l.edges.length cap'] 25)) (.cells #[.int .i64 0, .int .i64 0, .int .i64 0] 27)).below hb1
    rw [World.size_alloc] at bR
    have HLM := Lib.hid (And.intro hL hM)
    clear hL hM hb1
    go_wp2_with fail
    refine (best_any L M clock l _ HLM.out.1 HF.out HLM.out.2).mono ?_
    rintro e w2 ⟨r, c', hr, rfl, hM2, hfr⟩
    have bR2 := bR.fr hfr (by omega)
    have hlt := bR2.lt
    have HL2 := Lib.hid (LatheAt.frM HLM.out.2 HLM.out.1 hfr)
    have hB2 := below_frL hB1 (by omega) hfr
    obtain rfl := isBest_eq hr
    clear hr hM2 hfr bR
    unfold qv
    go_wp2_with fail
    refine (keeping_any L M l (bestV l) _ HL2.out HF.out (bestCore HF.out).1).mono ?_
    rintro e w3 ⟨v, ks, rfl, hrow, hIs, hks, hb3⟩
    have hne := keepL_ne HF.out (fun p hp => (isBest_of HF.out).2 p hp)
    rw [← hks] at hne
    obtain ⟨c, rest, rfl⟩ : ∃ c rest, ks = c :: rest := by
      cases ks with
      | nil => exact absurd rfl hne
      | cons c rest => exact ⟨c, rest, rfl⟩
    have hX : lineX l = (c.a, c.b) := by unfold lineX; rw [← hks]; rfl
    have hcor : IsCorner l (bestV l) (c.a, c.b) := isCorner_of_mem (List.mem_filter.1 (show (c.a, c.b) ∈ keepL l (bestV l) by rw [← hks]; exact List.mem_cons_self)).1
    obtain ⟨D, d1, d2, g1, g2, g3, g4, g5, g6⟩ := corner_fr HF.out (bestCore HF.out).1 hcor
    have hIc := Lib.hid (hIs c List.mem_cons_self)
    obtain ⟨k1, ⟨_, k2⟩ | ⟨g, capk, cur, T, rfl, hblk, k3, k4, k5, k6⟩⟩ := hrow
    · simp at k2
    have hq0 : w3.cell? ⟨g, 0, none⟩ = some (hv c.b1 c.b2 c.b3) := by
      rw [hblk.cell]
      have h6 := congrArg (fun x : List Value => x[0]?) k6
      simp at h6
      simpa [Cn.val] using h6
    have hlen : (c :: rest).length = rest.length + 1 := rfl
    rw [hlen] at k3
    have bR3 := bR2.below hb3
    have hB3 := hB2.trans (hb3.mono hB2.size)
    have HX := Lib.hid hX
    have hD := frD_fine d1 d2 (by omega) (by omega) (((g6 1 (by omega) (by omega)).2).sub (g6 0 (by omega) (by omega)).2)
    have hLC := Lib.hid (fun W (h : HAt W c.b1 c.b2 c.b3 c.a c.b) => lineOf_any c.a c.b c.b1 c.b2 c.b3 W h g1 g2 (frD_fine d1 d2 (by omega) (by omega) (g6 0 (by omega) (by omega)).1) (frD_fine d1 d2 (by omega) (by omega) (g6 1 (by omega) (by omega)).1)
      (frD_fine d1 d2 (by omega) (by omega) (g6 0 (by omega) (by omega)).2) (frD_fine d1 d2 (by omega) (by omega) (g6 1 (by omega) (by omega)).2) hD g3 g4 g5)
    clear hIs hks hcor g1 g2 g3 g4 g5 g6 d1 d2 hX hne k1 k5 k6 hb3 bR2 hB2 hblk hD
    unfold hv at hq0
    go_wp2_with fail
    refine (hLC.out _ hIc.out).mono ?_
    rintro e w4 ⟨rfl, hb4⟩
    have bR4 := bR3.below hb4
    have r0 := bR4.cell 0
    have r1 := bR4.cell 1
    have r2 := bR4.cell 2
    have f0 := bR4.frozen 0
    have f1 := bR4.frozen 1
    have f2 := bR4.frozen 2
    simp at r0 r1 r2
    have HB4 := Lib.hid (hB3.trans (hb4.mono hB3.size))
    have hlt4 := bR4.lt
    clear hb4 hB3 bR3
    generalize hE1 : (lineDen (lineAt c.a c.b 0) (lineAt c.a c.b 1 - lineAt c.a c.b 0) : Int) = y1 at *
    generalize hE2 : lineStart (lineAt c.a c.b 0) (lineAt c.a c.b 1 - lineAt c.a c.b 0) = y2 at *
    generalize hE3 : lineStep (lineAt c.a c.b 0) (lineAt c.a c.b 1 - lineAt c.a c.b 0) = y3 at *
    have HE := Lib.hid (And.intro hE1 (And.intro hE2 hE3))
    clear hE1 hE2 hE3
    go_wp2
    have U := ((bR4.set (j := 0) (.int .i64 y1)).set (j := 1) (.int .i64 y2)).set (j := 2) (.int .i64 y3)
    have v0 := U.cell 0
    have v1 := U.cell 1
    have v2 := U.cell 2
    simp at v0 v1 v2
    refine bodyPost_ret (v := .tuple #[.agg #[.int .i64 y1, .int .i64 y2, .int .i64 y3], .int .i64 0]) (by simp [results, Tryd.results28, go_sem, v0, v1, v2]) rfl ⟨?_, ?_⟩
    · rw [H0.out, le, if_pos rfl, HX.out, lineD, lv]
      simp only
      rw [HE.out.1, HE.out.2.1, HE.out.2.2]
    · exact ((HB4.out.setCell (by simp) _).setCell (by simp) _).setCell (by simp) _
  · have h0' : (logErr l != 0) = true := by simp [h0]
    have H0 := Lib.hid h0
    clear h0
    go_enter Tryd.func28, Tryd.ntmps28
    go_wp2_with fail
    refine (lay_err _ l _ (HV.out.below (below2 _ _ _)) HS.out H0.out).mono ?_
    rintro e w1 ⟨rfl, hb1⟩
    have hz1 := hb1.size
    simp at hz1
    have hB1 := after2 hb1
    have bR := (Blk.new (w.alloc (.cells #[.slice a l.at_.length cap, .slice a' l.edges.length cap'] 25)) (.cells #[.int .i64 0, .int .i64 0, .int .i64 0] 27)).below hb1
    rw [World.size_alloc] at bR
    have r0 := bR.cell 0
    have r1 := bR.cell 1
    have r2 := bR.cell 2
    have f0 := bR.frozen 0
    have f1 := bR.frozen 1
    have f2 := bR.frozen 2
    simp at r0 r1 r2
    clear hb1
    go_wp2
    refine bodyPost_ret (v := .tuple #[lv (0, 0, 0), .int .i64 (logErr l)]) (by simp [results, Tryd.results28, go_sem, lv, r0, r1, r2]) rfl ⟨by rw [le, if_neg H0.out], ?_⟩
    exact ((hB1.setCell (by simp) _).setCell (by simp) _).setCell (by simp) _
end Go.Proofs.YtlhldkiggmlegaaDoor

namespace Go.Proofs.YtlhldkiggmlegaaDoor
open Go.RowKit Go.Sort

/-! ## The heights of a number -/
/-- A list of fractions, as the program holds it. -/
theorem Row.rats {w : World} {v : Value} {l : List Rat} (h : Row w v l.length 2 (ratCells l)) (hne : l ≠ []) : ∃ g cap, v = .slice (some ⟨g, 0, none⟩) l.length cap ∧ g < w.heap.size ∧ ∀ j (hj : j < l.length), w.cell? ⟨g, 0 + j * 2, none⟩ = some (.int .i64 l[j].num) ∧ w.cell? ⟨g, 0 + j * 2 + 1, none⟩ = some (.int .i64 l[j].den) := by
  obtain ⟨h1, ⟨_, h2⟩ | ⟨g, cap, cur, e, e1, e3, e4, e5, e6, e7⟩⟩ := h
  · exact absurd (List.length_eq_zero_iff.1 h2) hne
  · refine ⟨g, cap, e1, e3.lt, fun j hj => ?_⟩
    obtain ⟨c1, c2⟩ := ratCells_get l j hj
    rw [← e7] at c1 c2
    rw [e3.cell, e3.cell, Nat.zero_add]
    simp only [List.getElem?_take, Array.getElem?_toList] at c1 c2
    rw [if_pos (by omega)] at c1 c2
    exact ⟨c1, c2⟩

/-- The best one of a list. -/
theorem pickV (gc : Nat) (better : Rat → Rat → Bool) (hgc : ∀ args w, (callFunc gc args).run Tryd.prog w = .ok (.enter gc args) w) (hcmp : ∀ (a b : Rat) (w : World), Fine a → Fine b → Calls Tryd.prog gc #[qv a, qv b] w fun e w' => e = .returned (.bool (better a b)) ∧ Below w.heap.size w w')
    (l : List Rat) (hf : ∀ r ∈ l, Fine r) (hne : l ≠ []) (hlen : l.length ≤ 100000) (v : Value) (Bs : Nat) (w : World) (hrow : Row w v l.length 2 (ratCells l)) (hB : w.cell? ⟨Bs, 0, none⟩ = some v) :
    Calls Tryd.prog 78 #[.func (.func 105) #[] #[.pointer (some ⟨Bs, 0, none⟩)], .func (.func gc) #[] #[]] w fun e w' => ∃ r, bestBy better l = some r ∧ e = .returned (qv r) ∧ Below w.heap.size w w' := by
  obtain ⟨g, cap, rfl, hg, hcs⟩ := hrow.rats hne
  obtain ⟨fs, rfl⟩ : ∃ fs : List FR, l = fs.map Subtype.val := ⟨l.attach.map fun x => ⟨x.1, hf x.1 x.2⟩, by rw [List.map_map]; exact (List.attach_map_subtype_val l).symm⟩
  have hp := (callsIn_wide (n := 5)).1 (pick_any 5 (by omega) gc better hgc hcmp 105 #[.pointer (some ⟨Bs, 0, none⟩)] (fun ys => ys = fs) (fun pre => pre <+: fs) fs.length
    (fun ys h => by rw [h]; intro e; exact hne (by rw [e]; rfl)) w (enters_of Tryd.func105 (by kernel_rfl) rfl)
    (fun n hn => SeqStopsK.weak (fun _ _ h => h.1) (values_stops (fun x : FR => x.1) n hn Bs w.heap.size _ fs (by simpa using hlen) w (lt_of_cell hB) (Nat.le_refl _) hB ⟨g, 0, cap, by simp, hg, fun j hj => by
      have := hcs j (by simpa using hj)
      simpa using this⟩)))
  refine hp.mono ?_
  rintro e w' ⟨⟨xs, r, rfl, h2, h3⟩, h4⟩
  exact ⟨r, h2, h3, h4⟩

def heightsL (l : LogD) (core x : Int) : List Rat := (keepL l (core : Rat)).map fun p => lineAt p.1 p.2 x
def heightsE (l : LogD) (core x : Int) : Int :=
  if logErr l ≠ 0 then logErr l else if ¬ (-2000 ≤ core ∧ core ≤ 2000 ∧ 0 ≤ x ∧ x ≤ 100) then 3 else if heightsL l core x = [] then 17 else 0
def heightsV (better : Rat → Rat → Bool) (l : LogD) (core x : Int) : Rat := (bestBy better (heightsL l core x)).getD 0
def he (l : LogD) (core x : Int) : Value :=
  .tuple #[if heightsE l core x = 0 then qv (heightsV (fun a b => decide (a < b)) l core x) else zq, if heightsE l core x = 0 then qv (heightsV (fun a b => decide (b < a)) l core x) else zq, .int .i64 (heightsE l core x)]
theorem intCore {core : Int} (h1 : -2000 ≤ core) (h2 : core ≤ 2000) : CoreOk (core : Rat) := by
  have c1 : ((-2000 : Int) : Rat) = -2000 := rfl
  have c2 : ((2000 : Int) : Rat) = 2000 := rfl
  refine ⟨by rw [Rat.den_intCast]; omega, ?_, ?_⟩
  · rw [← c1]; exact Rat.intCast_le_intCast.2 h1
  · rw [← c2]; exact Rat.intCast_le_intCast.2 h2
/-- The two places of a result, and the log's box. -/
structure HBlk (w W : World) : Prop where
  p1 : Blk W (w.heap.size + 1) (.cells #[.int .i64 0, .int .i64 0] 31)
  p2 : Blk W (w.heap.size + 1 + 1) (.cells #[.int .i64 0, .int .i64 0] 31)
  old : Below w.heap.size w W
theorem HBlk.below {w W W' : World} (h : HBlk w W) (hb : Below W.heap.size W W') : HBlk w W' := ⟨h.p1.below hb, h.p2.below hb, h.old.trans (hb.mono h.old.size)⟩

set_option maxRecDepth 100000 in
set_option maxHeartbeats 2000000 in
theorem Heights_any (v : Value) (l : LogD) (core x : Int) (w : World) (hv : LogAt w v l) (hs : l.small) :
    Calls Tryd.prog 34 #[v, .int .i64 core, .int .i64 x] w fun e w' => e = .returned (he l core x) ∧ Below w.heap.size w w' := by
  obtain ⟨va, ve, rfl, h1, h2⟩ := hv
  obtain ⟨a, cap, rfl⟩ := h1.slice
  obtain ⟨a', cap', rfl⟩ := h2.slice
  have HV : Hid (LogAt w (.agg #[.slice a l.at_.length cap, .slice a' l.edges.length cap']) l) := Lib.hid ⟨_, _, rfl, h1, h2⟩
  have HS := Lib.hid hs
  clear h1 h2 hs
  by_cases h0 : logErr l = 0
  · have H0 := Lib.hid h0
    have HF := Lib.hid (placesErr_zero h0)
    clear h0
    go_enter Tryd.func34, Tryd.ntmps34
    go_wp2_with fail
    refine (lay_ok _ l _ (HV.out.below (below3 _ _ _ _)) HS.out H0.out).mono ?_
    rintro e w1 ⟨L, M, clock, rfl, hL, hM, l1, l2, hb1⟩
    have hz1 := hb1.size
    simp at hz1 l1 l2
    have hK1 : HBlk w w1 := by
      have q1 := ((Blk.new (w.alloc (.cells #[.slice a l.at_.length cap, .slice a' l.edges.length cap'] 25)) (.cells #[.int .i64 0, .int .i64 0] 31)).alloc (.cells #[.int .i64 0, .int .i64 0] 31)).below hb1
      have q2 := (Blk.new ((w.alloc (.cells #[.slice a l.at_.length cap, .slice a' l.edges.length cap'] 25)).alloc (.cells #[.int .i64 0, .int .i64 0] 31)) (.cells #[.int .i64 0, .int .i64 0] 31)).below hb1
      simp only [World.size_alloc] at q1 q2
      exact ⟨q1, q2, (below3 w _ _ _).trans (hb1.mono (by simp <;> omega))⟩
    have HK1 := Lib.hid hK1
    have HL1 := Lib.hid hL
    clear hL hM hb1 hK1
    by_cases hs1 : -2000 ≤ core ∧ core ≤ 2000
    · have k1 : okInts (-2000) 2000 [core] = true := by simp [okInts]; omega
      by_cases hs2 : 0 ≤ x ∧ x ≤ 100
      · have k2 : okInts 0 100 [x] = true := by simp [okInts]; omega
        have K1 := Lib.hid k1
        have K2 := Lib.hid k2
        clear k1 k2
        go_wp2_with fail
        refine (within_any (-2000) 2000 _ [core] _ (IntsAt.mk1 (by go_simp)) (by simp)).mono ?_
        rintro e w2 ⟨rfl, rfl⟩
        rw [K1.out]
        go_wp2_with fail
        refine (within_any 0 100 _ [x] _ (IntsAt.mk1 (by go_simp)) (by simp)).mono ?_
        rintro e w2 ⟨rfl, rfl⟩
        rw [K2.out]
        have HK2 := Lib.hid (HK1.out.below (below2 w1 (.cells #[.int .i64 core] 2) (.cells #[.int .i64 x] 2)))
        have HL2 := Lib.hid (HL1.out.below (below2 w1 (.cells #[.int .i64 core] 2) (.cells #[.int .i64 x] 2)))
        generalize (w1.alloc (.cells #[.int .i64 core] 2)).alloc (.cells #[.int .i64 x] 2) = w2 at *
        go_wp2_with fail
        refine (whole_any core _).mono ?_
        rintro e w3 ⟨rfl, hb3⟩
        have HK3 := Lib.hid (HK2.out.below hb3)
        have HL3 := Lib.hid (HL2.out.below hb3)
        clear hb3
        unfold qv
        go_wp2_with fail
        refine (keeping_any L M l (core : Rat) _ HL3.out HF.out (intCore hs1.1 hs1.2)).mono ?_
        rintro e w4 ⟨v, ks, rfl, hrow, hIs, hks, hb4⟩
        have HK4 := Lib.hid (HK3.out.below hb4)
        clear hb4
        have HIs := Lib.hid hIs
        have HKs := Lib.hid hks
        have HRow := Lib.hid hrow
        obtain ⟨a4, cap4, rfl, _, _, _, _⟩ := hrow.cells
        have hL : heightsL l core x = ks.map fun c => lineAt c.a c.b x := by
          unfold heightsL
          rw [← hks]
          simp [ptsOf]
        have HHL := Lib.hid hL
        have hcor : ∀ c ∈ ks, IsCorner l (core : Rat) (c.a, c.b) := fun c hc => by
          have : (c.a, c.b) ∈ keepL l (core : Rat) := by rw [← hks]; exact List.mem_map.2 ⟨c, hc, rfl⟩
          exact isCorner_of_mem (List.mem_filter.1 this).1
        have HCor := Lib.hid hcor
        have hkb : ks.length ≤ 2000 := by
          have h1 := congrArg List.length hks
          have h2 : (keepL l (core : Rat)).length ≤ (cornersL l (core : Rat)).length := List.length_filter_le _ _
          have h3 := eJ_len l (core : Rat) l.at_.length (by have := HF.out.eight; omega)
          have h4 := HF.out.eight
          have h5 : (eJ l (core : Rat) l.at_.length).length = (cornersL l (core : Rat)).length := rfl
          simp only [ptsOf, List.length_map] at h1
          omega
        clear hIs hks hrow hL hcor
        go_wp2
        go_loopw [11, 41] (fun v i wr => ∃ k : Nat, k ≤ ks.length ∧ i = .int .i64 k ∧ Row wr v k 2 (ratCells ((ks.take k).map fun c => lineAt c.a c.b x)) ∧ Below w4.heap.size w4 wr) (fun _ i _ => ks.length - (intOf i).toNat)
        case atStart => exact ⟨0, Nat.zero_le _, rfl, Row.nil _ _, Below.refl _ _⟩
        case round =>
          obtain ⟨k, hk, rfl, hrk, hbk⟩ := hrel
          by_cases hlt : k < ks.length
          · obtain ⟨k1, ⟨_, k2⟩ | ⟨g, capk, cur, T, hsl, hblk, k3, k4, k5, k6⟩⟩ := HRow.out
            · omega
            simp at hsl
            obtain ⟨rfl, rfl⟩ := hsl
            obtain ⟨c, hc⟩ : ∃ c, c = ks[k] := ⟨_, rfl⟩
            have hmem : c ∈ ks := by rw [hc]; exact List.getElem_mem hlt
            have hcell : wr.cell? ⟨g, k, none⟩ = some (hv c.b1 c.b2 c.b3) := by
              refine cellB ?_ hbk
              rw [hblk.cell]
              have h6 := congrArg (fun x : List Value => x[k]?) k6
              simp only [List.getElem?_take, Nat.mul_one, if_pos hlt, Array.getElem?_toList, List.getElem?_map, List.getElem?_eq_getElem hlt, ← hc] at h6
              exact h6
            have hts : (ks.take (k + 1)).map (fun c => lineAt c.a c.b x) = (ks.take k).map (fun c => lineAt c.a c.b x) ++ [lineAt c.a c.b x] := by
              rw [List.take_add_one, List.getElem?_eq_getElem hlt, ← hc]
              simp
            have HTS := Lib.hid hts
            obtain ⟨D, d1, d2, g1, g2, g3, g4, g5, g6⟩ := corner_fr HF.out (intCore hs1.1 hs1.2) (HCor.out c hmem)
            obtain ⟨g7, g8⟩ := g6 x hs2.1 hs2.2
            obtain ⟨W5, rfl⟩ : ∃ W5 : World, W5 = wr := ⟨_, rfl⟩
            have hH := Lib.hid (height_any c.a c.b c.b1 c.b2 c.b3 x W5 (HAt.below (HIs.out c hmem) hbk) g1 g2 (frD_fine d1 d2 (by omega) (by omega) g7) hs2.1 hs2.2 g3 g4 g5)
            have HRK := Lib.hid hrk
            have HBK := Lib.hid hbk
            clear hc hmem hts g1 g2 g3 g4 g5 g6 g7 g8 d1 d2 hrk hbk hblk k1 k4 k5 k6
            unfold hv at hcell
            go_wp2_with fail
            refine hH.out.mono ?_
            rintro e w6 ⟨rfl, hb6⟩
            go_wp2_with fail
            refine (grownR_any _ k _ (lineAt c.a c.b x) _ (HRK.out.below hb6) (by omega)).mono ?_
            rintro e w7 ⟨v7, rfl, hrow7, hb7⟩
            have HB7 := Lib.hid (HBK.out.trans ((hb6.trans (hb7.mono hb6.size)).mono HBK.out.size))
            have HR7 := Lib.hid hrow7
            clear hb6 hb7 hrow7
            go_wp2
            go_round
            case rel => exact ⟨k + 1, by omega, by simp, by rw [HTS.out, ratCells_snoc]; exact HR7.out, HB7.out⟩
            case measure => simp [intOf]; omega
          · obtain rfl : k = ks.length := by omega
            have HK5 := Lib.hid (HK4.out.below hbk)
            rw [List.take_length] at hrk
            obtain ⟨a5, cap5, rfl, _, _, _, _⟩ := hrk.cells
            by_cases hnil : ks = []
            · have HE := Lib.hid (show heightsE l core x = 17 by
                unfold heightsE
                rw [if_neg (by simp [H0.out]), if_neg (by omega), if_pos (by rw [HHL.out, hnil]; rfl)])
              have HN := Lib.hid (show ¬ (17 : Int) = 0 by decide)
              subst hnil
              clear hbk hrk
              obtain ⟨p1, p2, hB⟩ := HK5.out
              have r0 := p1.cell 0
              have r1 := p1.cell 1
              have r2 := p2.cell 0
              have r3 := p2.cell 1
              have f0 := p1.frozen 0
              have f1 := p1.frozen 1
              have f2 := p2.frozen 0
              have f3 := p2.frozen 1
              have lt1 := p1.lt
              have lt2 := p2.lt
              simp at r0 r1 r2 r3
              go_wp2
              refine bodyPost_ret (v := .tuple #[zq, zq, .int .i64 17]) (by simp [results, Tryd.results34, go_sem, r0, r1, r2, r3]) rfl ⟨by rw [he, HE.out, if_neg (HN.out), if_neg (HN.out)], ?_⟩
              exact (((hB.setCell (by simp <;> omega) _).setCell (by simp <;> omega) _).setCell (by simp <;> omega) _).setCell (by simp <;> omega) _
            · have HE := Lib.hid (show heightsE l core x = 0 by
                unfold heightsE
                rw [if_neg (by simp [H0.out]), if_neg (by omega), if_neg (by rw [HHL.out]; simpa using hnil)])
              have hpos : ¬ ks.length = 0 := by simpa using hnil
              have hfl : ∀ r ∈ heightsL l core x, Fine r := by
                rw [HHL.out]
                intro r hr
                obtain ⟨c, hc, rfl⟩ := List.mem_map.1 hr
                obtain ⟨D, d1, d2, _, _, _, _, _, g6⟩ := corner_fr HF.out (intCore hs1.1 hs1.2) (HCor.out c hc)
                exact frD_fine d1 d2 (by omega) (by omega) (g6 x hs2.1 hs2.2).2
              have hlen : (heightsL l core x).length = ks.length := by rw [HHL.out]; simp
              rw [← HHL.out, ← hlen] at hrk
              have hne : heightsL l core x ≠ [] := by rw [HHL.out]; simpa using hnil
              have HRK := Lib.hid hrk
              have HFL := Lib.hid hfl
              have HNE := Lib.hid hne
              have HLE := Lib.hid (show (heightsL l core x).length ≤ 100000 by omega)
              rw [hlen] at HRK
              have HLEN := Lib.hid hlen
              clear hbk hrk hfl hne hlen
              obtain ⟨W5, rfl⟩ : ∃ W5 : World, W5 = wr := ⟨_, rfl⟩
              go_wp2_with fail
              refine (Values_any _ W5 ⟨_, _, _, rfl⟩).mono ?_
              rintro e w6 ⟨rfl, rfl⟩
              have HR6 := Lib.hid (show Row (W5.alloc (.cells #[.slice a5 ks.length cap5] 114)) (.slice a5 ks.length cap5) (heightsL l core x).length 2 (ratCells (heightsL l core x)) by rw [HLEN.out]; exact HRK.out.below (below1 _ _))
              have HC6 := Lib.hid (Blk.cell0 (Blk.new W5 (.cells #[.slice a5 ks.length cap5] 114)))
              have HK6 := Lib.hid (HK5.out.below (below1 W5 (.cells #[.slice a5 ks.length cap5] 114)))
              go_wp2_with fail
              refine (pickV 80 (fun a b => decide (a < b)) (enters_of Tryd.func80 (by kernel_rfl) rfl) (fun a b w ha hb => less_any a b w ha hb) (heightsL l core x) HFL.out HNE.out HLE.out _ W5.heap.size _ HR6.out HC6.out).mono ?_
              rintro e w7 ⟨r, hr, rfl, hb7⟩
              have HR7 := Lib.hid (HR6.out.below hb7)
              have HK7 := Lib.hid (HK6.out.below hb7)
              have HBR := Lib.hid hr
              clear hb7 hr
              go_wp2_with fail
              refine (Values_any _ w7 ⟨_, _, _, rfl⟩).mono ?_
              rintro e w8 ⟨rfl, rfl⟩
              have HR8 := Lib.hid (HR7.out.below (below1 w7 (.cells #[.slice a5 ks.length cap5] 114)))
              have HC8 := Lib.hid (Blk.cell0 (Blk.new w7 (.cells #[.slice a5 ks.length cap5] 114)))
              have HK8 := Lib.hid (HK7.out.below (below1 w7 (.cells #[.slice a5 ks.length cap5] 114)))
              go_wp2_with fail
              refine (pickV 81 (fun a b => decide (b < a)) (enters_of Tryd.func81 (by kernel_rfl) rfl) (fun a b w ha hb => more_any a b w ha hb) (heightsL l core x) HFL.out HNE.out HLE.out _ w7.heap.size _ HR8.out HC8.out).mono ?_
              rintro e w9 ⟨r', hr', rfl, hb9⟩
              have HBR' := Lib.hid hr'
              have HK9 := Lib.hid (HK8.out.below hb9)
              clear hb9 hr'
              obtain ⟨p1, p2, hB⟩ := HK9.out
              have r0 := p1.cell 0
              have r1 := p1.cell 1
              have r2 := p2.cell 0
              have r3 := p2.cell 1
              have f0 := p1.frozen 0
              have f1 := p1.frozen 1
              have f2 := p2.frozen 0
              have f3 := p2.frozen 1
              have lt1 := p1.lt
              have lt2 := p2.lt
              simp at r0 r1 r2 r3
              unfold qv
              go_wp2
              have U1 := (((p1.set (j := 0) (.int .i64 r.num)).set (j := 1) (.int .i64 r.den)).other (b := w.heap.size + 1 + 1) (j := 0) (by omega) (.int .i64 r'.num)).other (b := w.heap.size + 1 + 1) (j := 1) (by omega) (.int .i64 r'.den)
              have U2 := (((p2.other (b := w.heap.size + 1) (j := 0) (by omega) (.int .i64 r.num)).other (b := w.heap.size + 1) (j := 1) (by omega) (.int .i64 r.den)).set (j := 0) (.int .i64 r'.num)).set (j := 1) (.int .i64 r'.den)
              have v0 := U1.cell 0
              have v1 := U1.cell 1
              have v2 := U2.cell 0
              have v3 := U2.cell 1
              simp at v0 v1 v2 v3
              refine bodyPost_ret (v := .tuple #[qv r, qv r', .int .i64 0]) (by simp [results, Tryd.results34, go_sem, qv, v0, v1, v2, v3]) rfl ⟨?_, ?_⟩
              · rw [he, HE.out, if_pos rfl, if_pos rfl, heightsV, heightsV, HBR.out, HBR'.out]
                rfl
              · exact (((hB.setCell (by simp <;> omega) _).setCell (by simp <;> omega) _).setCell (by simp <;> omega) _).setCell (by simp <;> omega) _
      · have k2 : okInts 0 100 [x] = false := by simp [okInts]; omega
        have K1 := Lib.hid k1
        have K2 := Lib.hid k2
        have HE := Lib.hid (show heightsE l core x = 3 by
          unfold heightsE
          rw [if_neg (by simp [H0.out]), if_pos (by omega)])
        have HN := Lib.hid (show ¬ (3 : Int) = 0 by decide)
        clear k1 k2
        go_wp2_with fail
        refine (within_any (-2000) 2000 _ [core] _ (IntsAt.mk1 (by go_simp)) (by simp)).mono ?_
        rintro e w2 ⟨rfl, rfl⟩
        rw [K1.out]
        go_wp2_with fail
        refine (within_any 0 100 _ [x] _ (IntsAt.mk1 (by go_simp)) (by simp)).mono ?_
        rintro e w2 ⟨rfl, rfl⟩
        rw [K2.out]
        have HK2 := Lib.hid (HK1.out.below (below2 w1 (.cells #[.int .i64 core] 2) (.cells #[.int .i64 x] 2)))
        generalize (w1.alloc (.cells #[.int .i64 core] 2)).alloc (.cells #[.int .i64 x] 2) = w2 at *
        obtain ⟨p1, p2, hB⟩ := HK2.out
        have r0 := p1.cell 0
        have r1 := p1.cell 1
        have r2 := p2.cell 0
        have r3 := p2.cell 1
        have f0 := p1.frozen 0
        have f1 := p1.frozen 1
        have f2 := p2.frozen 0
        have f3 := p2.frozen 1
        have lt1 := p1.lt
        have lt2 := p2.lt
        simp at r0 r1 r2 r3
        go_wp2
        refine bodyPost_ret (v := .tuple #[zq, zq, .int .i64 3]) (by simp [results, Tryd.results34, go_sem, r0, r1, r2, r3]) rfl ⟨by rw [he, HE.out, if_neg (HN.out), if_neg (HN.out)], ?_⟩
        exact (((hB.setCell (by simp <;> omega) _).setCell (by simp <;> omega) _).setCell (by simp <;> omega) _).setCell (by simp <;> omega) _
    · have k1 : okInts (-2000) 2000 [core] = false := by simp [okInts]; omega
      have K1 := Lib.hid k1
      have HE := Lib.hid (show heightsE l core x = 3 by
        unfold heightsE
        rw [if_neg (by simp [H0.out]), if_pos (by omega)])
      have HN := Lib.hid (show ¬ (3 : Int) = 0 by decide)
      clear k1
      go_wp2_with fail
      refine (within_any (-2000) 2000 _ [core] _ (IntsAt.mk1 (by go_simp)) (by simp)).mono ?_
      rintro e w2 ⟨rfl, rfl⟩
      rw [K1.out]
      have HK2 := Lib.hid (HK1.out.below (below1 w1 (.cells #[.int .i64 core] 2)))
      generalize w1.alloc (.cells #[.int .i64 core] 2) = w2 at *
      obtain ⟨p1, p2, hB⟩ := HK2.out
      have r0 := p1.cell 0
      have r1 := p1.cell 1
      have r2 := p2.cell 0
      have r3 := p2.cell 1
      have f0 := p1.frozen 0
      have f1 := p1.frozen 1
      have f2 := p2.frozen 0
      have f3 := p2.frozen 1
      have lt1 := p1.lt
      have lt2 := p2.lt
      simp at r0 r1 r2 r3
      go_wp2
      refine bodyPost_ret (v := .tuple #[zq, zq, .int .i64 3]) (by simp [results, Tryd.results34, go_sem, r0, r1, r2, r3]) rfl ⟨by rw [he, HE.out, if_neg (HN.out), if_neg (HN.out)], ?_⟩
      exact (((hB.setCell (by simp <;> omega) _).setCell (by simp <;> omega) _).setCell (by simp <;> omega) _).setCell (by simp <;> omega) _
  · have h0' : (logErr l != 0) = true := by simp [h0]
    have HN := Lib.hid h0
    have HE := Lib.hid (show heightsE l core x = logErr l by unfold heightsE; rw [if_pos h0])
    go_enter Tryd.func34, Tryd.ntmps34
    go_wp2_with fail
    refine (lay_err _ l _ (HV.out.below (below3 _ _ _ _)) HS.out HN.out).mono ?_
    rintro e w1 ⟨rfl, hb1⟩
    have hK1 : HBlk w w1 := by
      have q1 := ((Blk.new (w.alloc (.cells #[.slice a l.at_.length cap, .slice a' l.edges.length cap'] 25)) (.cells #[.int .i64 0, .int .i64 0] 31)).alloc (.cells #[.int .i64 0, .int .i64 0] 31)).below hb1
      have q2 := (Blk.new ((w.alloc (.cells #[.slice a l.at_.length cap, .slice a' l.edges.length cap'] 25)).alloc (.cells #[.int .i64 0, .int .i64 0] 31)) (.cells #[.int .i64 0, .int .i64 0] 31)).below hb1
      simp only [World.size_alloc] at q1 q2
      exact ⟨q1, q2, (below3 w _ _ _).trans (hb1.mono (by simp <;> omega))⟩
    clear hb1 h0
    obtain ⟨p1, p2, hB⟩ := hK1
    have r0 := p1.cell 0
    have r1 := p1.cell 1
    have r2 := p2.cell 0
    have r3 := p2.cell 1
    have f0 := p1.frozen 0
    have f1 := p1.frozen 1
    have f2 := p2.frozen 0
    have f3 := p2.frozen 1
    have lt1 := p1.lt
    have lt2 := p2.lt
    simp at r0 r1 r2 r3
    go_wp2
    refine bodyPost_ret (v := .tuple #[zq, zq, .int .i64 (logErr l)]) (by simp [results, Tryd.results34, go_sem, r0, r1, r2, r3]) rfl ⟨by rw [he, HE.out, if_neg (HN.out), if_neg (HN.out)], ?_⟩
    exact (((hB.setCell (by simp <;> omega) _).setCell (by simp <;> omega) _).setCell (by simp <;> omega) _).setCell (by simp <;> omega) _
end Go.Proofs.YtlhldkiggmlegaaDoor
