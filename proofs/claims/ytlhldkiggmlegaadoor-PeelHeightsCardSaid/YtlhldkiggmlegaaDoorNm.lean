import Derived.Test.YtlhldkiggmlegaaDoorNl
import Derived.Test.YtlhldkiggmlegaaDoorNe
import Derived.Test.YtlhldkiggmlegaaDoorNj
namespace Go.Proofs.YtlhldkiggmlegaaDoor
open Go.RowKit Go.Shelf Go.Sort
attribute [local go_sem] Oper.semAt_some

/-! ## The line of heights -/
def lineDen (s d : Rat) : Nat := s.den / s.den.gcd d.den * d.den
def lineStart (s d : Rat) : Int := s.num * ((lineDen s d : Int) / (s.den : Int))
def lineStep (s d : Rat) : Int := d.num * ((lineDen s d : Int) / (d.den : Int))
theorem lineDen_le (s d : Rat) : lineDen s d ≤ s.den * d.den := Nat.mul_le_mul_right _ (Nat.div_le_self _ _)
theorem lineDen_div (s d : Rat) : lineDen s d / s.den ≤ d.den ∧ lineDen s d / d.den ≤ s.den :=
  ⟨Nat.div_le_of_le_mul (lineDen_le s d), Nat.div_le_of_le_mul (by rw [Nat.mul_comm]; exact lineDen_le s d)⟩
theorem mul_wide {x : Int} {k : Nat} (h1 : -17592186044416 ≤ x) (h2 : x ≤ 17592186044416) (h3 : k ≤ 131072) : -2305843009213693952 ≤ x * (k : Int) ∧ x * (k : Int) ≤ 2305843009213693952 := by
  have a1 := Int.mul_le_mul_of_nonneg_right (c := (k : Int)) h1 (by omega)
  have a2 := Int.mul_le_mul_of_nonneg_right (c := (k : Int)) h2 (by omega)
  omega
theorem q2 {v : World} {c t : Nat} (hb : Blk v c (.cells #[.int .i64 0, .int .i64 0] t)) : v.cell? ⟨c, 0, none⟩ = some (.int .i64 0) ∧ v.cell? ⟨c, 1, none⟩ = some (.int .i64 0) ∧ (v.frozen? ⟨c, 0, none⟩ = false ∧ v.frozen? ⟨c, 1, none⟩ = false) ∧ c < v.heap.size ∧ ((c = v.heap.size) = False) ∧ ((v.heap.size = c) = False) := by
  have hlt := hb.lt
  refine ⟨by rw [hb.cell]; rfl, by rw [hb.cell]; rfl, ⟨hb.frozen _, hb.frozen _⟩, hlt, by simp; omega, by simp; omega⟩
theorem bS2o {w W : World} {b : Nat} {u v : Value} (h : Below w.heap.size w W) (hb : w.heap.size ≤ b) : Below w.heap.size w ((W.setCell ⟨b, 0, none⟩ u).setCell ⟨b, 1, none⟩ v) := (h.setCell hb _).setCell hb _
theorem hFrom {w W : World} {b1 b2 b3 : Nat} {a b : Pt} (h : HAt w b1 b2 b3 a b) (hb : Below w.heap.size w W) : HAt W b1 b2 b3 a b := h.below hb

set_option maxRecDepth 100000 in
set_option maxHeartbeats 2000000 in
theorem lineOf_any (a b : Pt) (b1 b2 b3 : Nat) (w : World) (hH : HAt w b1 b2 b3 a b) (ha : Fine a.2) (hr : Fine (b.2 - a.2))
    (hp0 : Fine ((b.2 - a.2) * ((0 - a.1 : Int) : Rat) / ((b.1 - a.1 : Int) : Rat))) (hp1 : Fine ((b.2 - a.2) * ((1 - a.1 : Int) : Rat) / ((b.1 - a.1 : Int) : Rat)))
    (hl0 : Fine (lineAt a b 0)) (hl1 : Fine (lineAt a b 1)) (hd : Fine (lineAt a b 1 - lineAt a b 0))
    (h1 : 0 ≤ a.1) (h2 : a.1 < b.1) (h3 : b.1 ≤ 100) :
    Calls Tryd.prog 67 #[hv b1 b2 b3] w fun e w' => e = .returned (.agg #[.int .i64 (lineDen (lineAt a b 0) (lineAt a b 1 - lineAt a b 0)), .int .i64 (lineStart (lineAt a b 0) (lineAt a b 1 - lineAt a b 0)), .int .i64 (lineStep (lineAt a b 0) (lineAt a b 1 - lineAt a b 0))]) ∧ Below w.heap.size w w' := by
  have HC0 := Lib.hid (fun W (h : HAt W b1 b2 b3 a b) => height_any a b b1 b2 b3 0 W h ha hr hp0 (by omega) (by omega) h1 h2 h3)
  have HC1 := Lib.hid (fun W (h : HAt W b1 b2 b3 a b) => height_any a b b1 b2 b3 1 W h ha hr hp1 (by omega) (by omega) h1 h2 h3)
  have HM := Lib.hid (fun W => minus_any (lineAt a b 1) (lineAt a b 0) W hl1 hl0)
  have HH := Lib.hid hH
  have HF0 := Lib.hid hl0
  have HFd := Lib.hid hd
  clear ha hr hp0 hp1 hl0 hl1 hd h1 h2 h3 hH
  unfold qv at HM
  generalize lineAt a b 0 = s at *
  generalize lineAt a b 1 = e1 at *
  go_enter Tryd.func67, Tryd.ntmps67
  go_wp2_with fail
  refine (HC0.out _ (HH.out.below (below1 _ _))).mono ?_
  rintro e w1 ⟨rfl, hb1⟩
  unfold qv
  have bR : Blk w1 w.heap.size (.cells #[.int .i64 0, .int .i64 0, .int .i64 0] 27) := (Blk.new w _).below hb1
  have hB1 := (below1 w (.cells #[.int .i64 0, .int .i64 0, .int .i64 0] 27)).trans (hb1.mono (by simp))
  clear hb1
  go_upto_region 2 with (fail)
  obtain ⟨W1, hW1⟩ : ∃ W1, w1.alloc (.cells #[.int .i64 s.num, .int .i64 s.den] 31) = W1 := ⟨_, rfl⟩
  have hbz : Below w1.heap.size w1 W1 := by rw [← hW1]; exact below1 _ _
  have bz : Blk W1 w1.heap.size (.cells #[.int .i64 s.num, .int .i64 s.den] 31) := by rw [← hW1]; exact Blk.new _ _
  have z0 : W1.cell? ⟨w1.heap.size, 0, none⟩ = some (.int .i64 s.num) := by rw [bz.cell]; rfl
  have z1 : W1.cell? ⟨w1.heap.size, 1, none⟩ = some (.int .i64 s.den) := by rw [bz.cell]; rfl
  have hRR := Lib.hid (bR.below hbz)
  have hBW' := Lib.hid (hB1.trans (hbz.mono hB1.size))
  have hz1 := hB1.size
  have hzW : w1.heap.size < W1.heap.size := by rw [← hW1]; simp
  have hzw0 := bR.lt
  have HH1 := Lib.hid (HH.out.below hBW'.out)
  have HSX : Hid (∀ W, Below W1.heap.size W1 W → ((W.cell? ⟨w1.heap.size, 0, none⟩ = some (.int .i64 s.num) ∧ W.cell? ⟨w1.heap.size, 1, none⟩ = some (.int .i64 s.den)) ∧ Below W1.heap.size W1 W)) := Lib.hid (fun W h => ⟨⟨cellB z0 h, cellB z1 h⟩, h⟩)
  have hb0 : Below W1.heap.size W1 W1.drew := (Below.refl _ _).drew
  rw [hW1]
  clear hW1 bR hbz hB1
  have hAC : ∀ (W : World) (o : Obj) (b j : Nat), b < W.heap.size → (W.alloc o).cell? ⟨b, j, none⟩ = W.cell? ⟨b, j, none⟩ := fun W o b j h => (below1 W o).cell (p := ⟨b, j, none⟩) h
  have hAF : ∀ (W : World) (o : Obj) (b j : Nat), b < W.heap.size → (W.alloc o).frozen? ⟨b, j, none⟩ = W.frozen? ⟨b, j, none⟩ := fun W o b j h => (below1 W o).frozen (p := ⟨b, j, none⟩) h
  unfold hv
  go_cut [4] (fun s4 wx => ∃ c : Nat, s4 = .pointer (some ⟨c, 0, none⟩) ∧ wx.cell? ⟨c, 0, none⟩ = some (.int .i64 (e1 - s).num) ∧ wx.cell? ⟨c, 1, none⟩ = some (.int .i64 (e1 - s).den) ∧ c < wx.heap.size ∧ W1.heap.size ≤ c ∧ Below W1.heap.size W1 wx)
  case first =>
    go_region_held3 (fun W => (W.cell? ⟨w1.heap.size, 0, none⟩ = some (.int .i64 s.num) ∧ W.cell? ⟨w1.heap.size, 1, none⟩ = some (.int .i64 s.den)) ∧ Below W1.heap.size W1 W)
      (((with_reducible refine HSX.out _ ?_); (repeat' (first | (with_reducible assumption) | (with_reducible refine Below.refl _ _) | (with_reducible refine Below.drew ?_) | (with_reducible refine bA ?_) | (with_reducible refine bS2o ?_ ?_) | omega))))
      (first | (go_at_call 110; (with_reducible refine (HC1.out _ ?_).mono ?_); (with_reducible refine hFrom HH1.out ?_); (repeat' (first | (with_reducible assumption) | (with_reducible refine Below.refl _ _) | (with_reducible refine Below.drew ?_) | (with_reducible refine bA ?_) | (with_reducible refine bS2o ?_ ?_) | omega)); rintro e v2 ⟨rfl, hc2⟩; unfold qv; obtain ⟨hB2x, hz2x⟩ : Below W1.heap.size W1 v2 ∧ W1.heap.size ≤ v2.heap.size := bC2 (by (repeat' (first | (with_reducible assumption) | (with_reducible refine Below.refl _ _) | (with_reducible refine Below.drew ?_) | (with_reducible refine bA ?_) | (with_reducible refine bS2o ?_ ?_) | omega))) hc2; (try (have ka2 := n1 hc2; (try simp only [World.size_alloc] at ka2); obtain ⟨ka21, ka22, ⟨ka23, ka24⟩, ka25, ka26, ka27⟩ := q2 ka2)); (try (have kb2 := n1d hc2; (try simp only [World.size_alloc] at kb2); obtain ⟨kb21, kb22, ⟨kb23, kb24⟩, kb25, kb26, kb27⟩ := q2 kb2)); clear hc2) | (go_at_call 69; (with_reducible refine (HM.out _).mono ?_); rintro e v3 ⟨rfl, hc3⟩; obtain ⟨hB3x, hz3x⟩ : Below W1.heap.size W1 v3 ∧ W1.heap.size ≤ v3.heap.size := bC2 (by (repeat' (first | (with_reducible assumption) | (with_reducible refine Below.refl _ _) | (with_reducible refine Below.drew ?_) | (with_reducible refine bA ?_) | (with_reducible refine bS2o ?_ ?_) | omega))) hc3; (try (have ka3 := n1 hc3; (try simp only [World.size_alloc] at ka3); obtain ⟨ka31, ka32, ⟨ka33, ka34⟩, ka35, ka36, ka37⟩ := q2 ka3)); (try (have kb3 := n1d hc3; (try simp only [World.size_alloc] at kb3); obtain ⟨kb31, kb32, ⟨kb33, kb34⟩, kb35, kb36, kb37⟩ := q2 kb3)); (try (have kc3 := oldB ka2 hc3; (try simp only [World.size_alloc] at kc3); obtain ⟨kc31, kc32, ⟨kc33, kc34⟩, kc35, kc36, kc37⟩ := q2 kc3)); (try (have kd3 := oldB kb2 hc3; (try simp only [World.size_alloc] at kd3); obtain ⟨kd31, kd32, ⟨kd33, kd34⟩, kd35, kd36, kd37⟩ := q2 kd3)); clear hc3))
    all_goals (go_wp2_with fail; go_meet; refine ⟨_, rfl, ?_, ?_, ?_, ?_, ?_⟩)
    all_goals (go_split_ands; first | (with_reducible assumption) | (go_simp; done) | (simp [*]; done) | omega | (simp; omega) | ((repeat' (first | (with_reducible assumption) | (with_reducible refine Below.refl _ _) | (with_reducible refine Below.drew ?_) | (with_reducible refine bA ?_) | (with_reducible refine bS2o ?_ ?_) | omega)); done))
  case rest =>
    obtain ⟨c, rfl, c0, c1, hc, hgc, hW⟩ := hcut
    have z0w := cellB z0 hW
    have z1w := cellB z1 hW
    have RR := hRR.out.below hW
    have HBx := Lib.hid (hBW'.out.trans (hW.mono hBW'.out.size))
    clear hW z0 z1 HSX hb0 hAC hAF hRR HH1
    have hlt1 := lt_of_cell z0w
    obtain ⟨d, hd⟩ : ∃ d, d = e1 - s := ⟨_, rfl⟩
    have Hd := Lib.hid hd
    rw [← hd] at c0 c1 HFd
    clear hd
    have g1 := fun d os => cell_regrown z0w d os
    have g2 := fun d os => cell_regrown z1w d os
    have g3 := fun d os => cell_regrown c0 d os
    have g4 := fun d os => cell_regrown c1 d os
    have o1 := HF0.out.den
    have o2 := HFd.out.den
    have hcG := fun (dr : Nat) (os : Array Obj) => Calls.regrown_of ((gcd_any (s.den : Int) (d.den : Int) (grow (redrawn wc dr) os) (by omega) (by omega) (by omega) (by omega)).mono (fun e w' h => ⟨h.1, h.2 ▸ Below.refl (grow (redrawn wc dr) os).heap.size (grow (redrawn wc dr) os)⟩))
    clear o1 o2
    have hs0 : ¬ s.den = 0 := s.den_nz
    have hd0 : ¬ d.den = 0 := d.den_nz
    have hn2 : ¬ (s.den = 0 ∧ d.den = 0) := fun h => hs0 h.1
    have o1 := HF0.out.den
    have o2 := HFd.out.den
    have wr1 : IntKind.i64.wrap ((s.den : Int) / ((s.den.gcd d.den : Nat) : Int)) = ((s.den / s.den.gcd d.den : Nat) : Int) := by
      have hq : s.den / s.den.gcd d.den ≤ s.den := Nat.div_le_self _ _
      rw [← Int.natCast_ediv]
      generalize s.den / s.den.gcd d.den = q at *
      exact IntWalk.i64_in _ (by omega)
    have wr2 : IntKind.i64.wrap (((s.den / s.den.gcd d.den : Nat) : Int) * (d.den : Int)) = (lineDen s d : Int) := by
      have h1 : ((s.den / s.den.gcd d.den : Nat) : Int) * (d.den : Int) = (lineDen s d : Int) := by unfold lineDen; rw [Int.natCast_mul]
      have h2 := lineDen_le s d
      have h3 : s.den * d.den ≤ 131072 * 131072 := Nat.mul_le_mul (by omega) (by omega)
      rw [h1]
      exact IntWalk.i64_in _ (by omega)
    have hw : ∀ (x y : Rat), Fine x → lineDen s d / x.den ≤ 131072 → IntKind.i64.wrap ((lineDen s d : Int) / (x.den : Int)) = (lineDen s d : Int) / (x.den : Int) ∧ IntKind.i64.wrap (x.num * ((lineDen s d : Int) / (x.den : Int))) = x.num * ((lineDen s d : Int) / (x.den : Int)) := by
      intro x _ hx hle
      rw [← Int.natCast_ediv]
      have := mul_wide hx.lo hx.hi hle
      generalize lineDen s d / x.den = q at *
      exact ⟨IntWalk.i64_in _ (by omega), IntWalk.i64_in _ (by omega)⟩
    obtain ⟨wr3, wr4⟩ := hw s s HF0.out (by have := (lineDen_div s d).1; omega)
    obtain ⟨wr5, wr6⟩ := hw d d HFd.out (by have := (lineDen_div s d).2; omega)
    generalize s.den / s.den.gcd d.den = q at *
    clear o1 o2 hw
    go_wp2_with fail
    refine wp_region_quiet_below (by kernel_rfl) (by kernel_rfl) ?_
    repeat (quiet_step ((go_at_call 95; exact hcG _ _)))
    refine wpQuiet_nil ?_
    intro _ hw'
    obtain ⟨⟨dq, osq⟩, hw''⟩ := hw'
    subst hw''
    have hB2 := below_regrown wc dq osq
    have y0 := cellB z0w hB2
    have y1 := cellB z1w hB2
    have y2 := cellB c0 hB2
    have y3 := cellB c1 hB2
    have RR2 := RR.below hB2
    have HB2 := Lib.hid (HBx.out.trans (hB2.mono HBx.out.size))
    clear g1 g2 g3 g4 hcG z0w z1w c0 c1 hB2 RR wr1 wr2 hn2
    generalize grow (redrawn wc dq) osq = W2 at *
    have g1 := fun d os => cell_regrown y0 d os
    have g2 := fun d os => cell_regrown y1 d os
    have g3 := fun d os => cell_regrown y2 d os
    have g4 := fun d os => cell_regrown y3 d os
    obtain ⟨D, hD⟩ : ∃ D, D = lineDen s d := ⟨_, rfl⟩
    rw [← hD] at wr3 wr4 wr5 wr6 ⊢
    have HD := Lib.hid hD
    clear hD
    go_wp2_with fail
    refine wp_region_tail 16 (by kernel_rfl) (by kernel_rfl) ?_
    repeat (quiet_step (fail))
    refine wpQuiet_nil ?_
    intro _ hw'
    obtain ⟨⟨dq2, osq2⟩, hw''⟩ := hw'
    subst hw''
    simp only [List.drop_succ_cons, List.drop_zero]
    have hB3 := below_regrown W2 dq2 osq2
    have RR3 := RR2.below hB3
    have HB3 := Lib.hid (HB2.out.trans (hB3.mono HB2.out.size))
    clear g1 g2 g3 g4 hB3 RR2 y0 y1 y2 y3 wr3 wr4 wr5 wr6
    generalize grow (redrawn W2 dq2) osq2 = W3 at *
    have u0 := RR3.cell 0
    have u1 := RR3.cell 1
    have u2 := RR3.cell 2
    have f0 := RR3.frozen 0
    have f1 := RR3.frozen 1
    have f2 := RR3.frozen 2
    have ltr := RR3.lt
    simp at u0 u1 u2
    go_wp2
    have U := ((RR3.set (j := 0) (.int .i64 D)).set (j := 1) (.int .i64 (s.num * ((D : Int) / (s.den : Int))))).set (j := 2) (.int .i64 (d.num * ((D : Int) / (d.den : Int))))
    have v0 := U.cell 0
    have v1 := U.cell 1
    have v2 := U.cell 2
    simp at v0 v1 v2
    refine bodyPost_ret (v := .agg #[.int .i64 D, .int .i64 (s.num * ((D : Int) / (s.den : Int))), .int .i64 (d.num * ((D : Int) / (d.den : Int)))]) (by simp [results, Tryd.results67, go_sem, v0, v1, v2]) rfl ⟨?_, ?_⟩
    · rw [← Hd.out]
      unfold lineStart lineStep
      rw [← HD.out]
    · exact ((HB3.out.setCell (by simp) _).setCell (by simp) _).setCell (by simp) _
end Go.Proofs.YtlhldkiggmlegaaDoor

namespace Go.Proofs.YtlhldkiggmlegaaDoor
open Go.Geo

/-! ## A core that all proofs allow is kept by a corner -/
def xR (l : LogD) (k : Nat) : Rat := (atD l k : Rat)
theorem lineAt_eq (a b : Pt) (x : Int) (h : a.1 < b.1) : (lineAt a b x - a.2) * ((b.1 : Rat) - (a.1 : Rat)) = (b.2 - a.2) * ((x : Rat) - (a.1 : Rat)) := by
  have hlt : (a.1 : Rat) < (b.1 : Rat) := Rat.intCast_lt_intCast.2 h
  have hne : (b.1 : Rat) - (a.1 : Rat) ≠ 0 := by grind
  unfold lineAt
  rw [Rat.intCast_sub, Rat.intCast_sub]
  have e1 : (b.2 - a.2) * ((x : Rat) - (a.1 : Rat)) / ((b.1 : Rat) - (a.1 : Rat)) * ((b.1 : Rat) - (a.1 : Rat)) = (b.2 - a.2) * ((x : Rat) - (a.1 : Rat)) := Rat.div_mul_cancel hne
  grind
theorem lineAt_through (a b : Pt) (x : Int) : lineAt a b x = through (a.1 : Rat) a.2 (b.1 : Rat) b.2 (x : Rat) := by
  unfold lineAt through
  rw [Rat.intCast_sub, Rat.intCast_sub]
theorem half_eq (r : Rat) : half r * 2 = r := by
  unfold half
  have : ((1 : Int) : Rat) = 1 := rfl
  have : ((2 : Int) : Rat) = 2 := rfl
  grind
theorem mem_single {n i : Nat} (h : i < n) : single i ∈ proofsL n := List.mem_append_left _ (List.mem_map_of_mem (List.mem_range.2 h))
theorem mem_tri {n i m j : Nat} {s : Int} (h1 : i < m) (h2 : m < j) (h3 : j < n) (hs : s = 1 ∨ s = 2) : (⟨i, m, j, s⟩ : PK) ∈ proofsL n := by
  refine List.mem_append_right _ (List.mem_flatMap.2 ⟨j, List.mem_range.2 h3, List.mem_flatMap.2 ⟨m, List.mem_range.2 h2, List.mem_flatMap.2 ⟨i, List.mem_range.2 h1, ?_⟩⟩⟩)
  rcases hs with rfl | rfl <;> simp [tri3]
theorem valR_single (l : LogD) (i : Nat) : valR l (single i) = half ((hiD l i : Rat) - (loD l i : Rat)) := by
  simp [valR, single, provesV]
theorem valR_one (l : LogD) (i m j : Nat) : valR l ⟨i, m, j, 1⟩ = half ((hiD l m : Rat) - lineAt (loP l i) (loP l j) (atD l m)) := by
  simp [valR, provesV]
theorem valR_two (l : LogD) (i m j : Nat) : valR l ⟨i, m, j, 2⟩ = half (lineAt (hiP l i) (hiP l j) (atD l m) - (loD l m : Rat)) := by
  simp [valR, provesV]
theorem wide_of_proofs {l : LogD} (hf : Fit l.at_ [l.edges]) {c : Rat} (h : ∀ p ∈ proofsL l.at_.length, c ≤ valR l p) : Wide l.at_.length (xR l) (fun k => (lowP l c k).2) (fun k => (uppP l c k).2) := by
  refine ⟨fun i j hij hj => Rat.intCast_lt_intCast.2 (strict_at hf hij hj), fun i hi => ?_, fun i m j h1 h2 h3 => ?_, fun i m j h1 h2 h3 => ?_⟩
  · have := h _ (mem_single hi)
    rw [valR_single] at this
    have := half_eq ((hiD l i : Rat) - (loD l i : Rat))
    simp only [lowP, uppP]
    grind
  · have h4 := h _ (mem_tri h1 h2 h3 (.inl rfl))
    rw [valR_one] at h4
    have h5 := half_eq ((hiD l m : Rat) - lineAt (loP l i) (loP l j) (atD l m))
    have h6 := lineAt_eq (loP l i) (loP l j) (atD l m) (strict_at hf (by omega) h3)
    have h7 : xR l i < xR l j := Rat.intCast_lt_intCast.2 (strict_at hf (by omega) h3)
    simp only [loP, lowP, uppP, xR] at *
    generalize lineAt _ _ _ = y at *
    have h8 : 2 * c ≤ (hiD l m : Rat) - y := by grind
    have h9 := Rat.mul_le_mul_of_nonneg_right h8 (c := (atD l j : Rat) - (atD l i : Rat)) (by grind)
    grind
  · have h4 := h _ (mem_tri h1 h2 h3 (.inr rfl))
    rw [valR_two] at h4
    have h5 := half_eq (lineAt (hiP l i) (hiP l j) (atD l m) - (loD l m : Rat))
    have h6 := lineAt_eq (hiP l i) (hiP l j) (atD l m) (strict_at hf (by omega) h3)
    have h7 : xR l i < xR l j := Rat.intCast_lt_intCast.2 (strict_at hf (by omega) h3)
    simp only [hiP, lowP, uppP, xR] at *
    generalize lineAt _ _ _ = y at *
    have h8 : 2 * c ≤ y - (loD l m : Rat) := by grind
    have h9 := Rat.mul_le_mul_of_nonneg_right h8 (c := (atD l j : Rat) - (atD l i : Rat)) (by grind)
    grind
theorem mem_corners {l : LogD} {c : Rat} {i j : Nat} (hij : i < j) (hj : j < l.at_.length) {x : Pt × Pt} (hx : x ∈ cn2 l c j i) : x ∈ cornersL l c :=
  List.mem_flatMap.2 ⟨j, List.mem_range.2 hj, List.mem_flatMap.2 ⟨i, List.mem_range.2 hij, hx⟩⟩
theorem keepsB_iff {l : LogD} {c : Rat} {x : Pt × Pt} : keepsB l c x = true ↔ ∀ k, k < l.at_.length → (lowP l c k).2 ≤ lineAt x.1 x.2 (atD l k) ∧ lineAt x.1 x.2 (atD l k) ≤ (uppP l c k).2 := by
  unfold keepsB keepsUpto keepsAt
  simp only [List.all_eq_true, List.mem_range, Bool.and_eq_true, Bool.not_eq_true', decide_eq_false_iff_not, Rat.not_lt]
theorem keepL_ne {l : LogD} (hf : Fit l.at_ [l.edges]) {c : Rat} (h : ∀ p ∈ proofsL l.at_.length, c ≤ valR l p) : keepL l c ≠ [] := by
  obtain ⟨P, Q, hPQ, hQ, hk⟩ := (wide_of_proofs hf h).corner hf.two
  have hm : (uppP l c P, lowP l c Q) ∈ keepL l c := by
    refine List.mem_filter.2 ⟨mem_corners hPQ hQ (by simp [cn2, two1]), keepsB_iff.2 fun k hk' => ?_⟩
    have := hk k hk'
    rw [lineAt_through]
    exact this
  intro e
  rw [e] at hm
  cases hm
end Go.Proofs.YtlhldkiggmlegaaDoor
