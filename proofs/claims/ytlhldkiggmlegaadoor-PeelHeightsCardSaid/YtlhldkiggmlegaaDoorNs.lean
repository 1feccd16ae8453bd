import Derived.Test.YtlhldkiggmlegaaDoorNr
import Derived.Test.YtlhldkiggmlegaaDoorNp
import Derived.Test.YtlhldkiggmlegaaDoorNi
namespace Go.Proofs.YtlhldkiggmlegaaDoor
open Go.RowKit Go.Shelf Go.Sort
attribute [local go_sem] Oper.semAt_some

/-! ## The reference: what a proof as described proves -/
def rProvesI (l : LogD) (f m t : Nat) (s : Int) : Int × Int :=
  if s = 0 then (hiD l m - loD l m, 2) else
  if s = 1 then (hiD l m * (atD l t - atD l f) - betw l f m t (loD l f) (loD l t), 2 * (atD l t - atD l f)) else
  (betw l f m t (hiD l f) (hiD l t) - loD l m * (atD l t - atD l f), 2 * (atD l t - atD l f))

theorem q2r {v : World} {c t : Nat} {x y : Value} (hb : Blk v c (.cells #[x, y] t)) : v.cell? ⟨c, 0, none⟩ = some x ∧ v.cell? ⟨c, 1, none⟩ = some y ∧ (v.frozen? ⟨c, 0, none⟩ = false ∧ v.frozen? ⟨c, 1, none⟩ = false) ∧ c < v.heap.size := by
  have hlt := hb.lt
  refine ⟨by rw [hb.cell]; rfl, by rw [hb.cell]; rfl, ⟨hb.frozen _, hb.frozen _⟩, hlt⟩

set_option maxRecDepth 100000 in
set_option maxHeartbeats 4000000 in
theorem rProves_any (v : Value) (l : LogD) (f m t : Nat) (s : Int) (w : World) (hv : LogAt w v l) (hf : Fit l.at_ [l.edges]) (h1 : f < l.at_.length) (h2 : m < l.at_.length) (h3 : t < l.at_.length)
    (hs : (s = 0 ∧ f = t ∧ m = t) ∨ ((s = 1 ∨ s = 2) ∧ f < m ∧ m < t)) :
    Calls Tryd.prog 74 #[v, .agg #[.int .i64 f, .int .i64 m, .int .i64 t, .int .i64 s]] w fun e w' => e = .returned (qv (valR l ⟨f, m, t, s⟩)) ∧ Below w.heap.size w w' := by
  have hLog := Lib.hid hv
  obtain ⟨va, ve, rfl, hA, hE⟩ := hv
  obtain ⟨a, cap, rfl, hcell0⟩ := hA
  obtain ⟨a', cap', rfl, hcell1⟩ := hE
  have h8 := hf.eight
  have hlen := hf.lens _ (List.mem_singleton.2 rfl)
  obtain ⟨ba, oa, rfl, hcell⟩ := hcell0 (by intro h; rw [h] at h1; simp at h1)
  obtain ⟨be, oe, rfl, hcelle⟩ := hcell1 (by intro h; rw [h] at hlen; simp at hlen; omega)
  have k1 : f < l.edges.length := by omega
  have k2 : m < l.edges.length := by omega
  have k3 : t < l.edges.length := by omega
  have a1 := hcell f h1
  have a2 := hcell m h2
  have a3 := hcell t h3
  obtain ⟨e1, e1'⟩ := hcelle f k1
  obtain ⟨e2, e2'⟩ := hcelle m k2
  obtain ⟨e3, e3'⟩ := hcelle t k3
  have d1 := okInts_get hf.ats f h1
  have d2 := okInts_get hf.ats m h2
  have d3 := okInts_get hf.ats t h3
  have y1 := okEdges_get (hf.edges _ (List.mem_singleton.2 rfl)) f k1
  have y2 := okEdges_get (hf.edges _ (List.mem_singleton.2 rfl)) m k2
  have y3 := okEdges_get (hf.edges _ (List.mem_singleton.2 rfl)) t k3
  rw [atD_eq h1] at a1 d1
  rw [atD_eq h2] at a2 d2
  rw [atD_eq h3] at a3 d3
  rw [loD_eq k1, hiD_eq k1] at y1
  rw [loD_eq k2, hiD_eq k2] at y2
  rw [loD_eq k3, hiD_eq k3] at y3
  rw [loD_eq k1] at e1
  rw [hiD_eq k1] at e1'
  rw [loD_eq k2] at e2
  rw [hiD_eq k2] at e2'
  rw [loD_eq k3] at e3
  rw [hiD_eq k3] at e3'
  have HLEN := Lib.hid hlen
  clear hcell hcelle hcell0 hcell1 hlen
  obtain ⟨w1, hw1⟩ : ∃ w1, ((w.alloc (.cells #[.slice (some ⟨ba, oa, none⟩) l.at_.length cap, .slice (some ⟨be, oe, none⟩) l.edges.length cap'] 25)).alloc (.cells #[.int .i64 f, .int .i64 m, .int .i64 t, .int .i64 s] 45)).alloc (.cells #[.int .i64 0, .int .i64 0] 31) = w1 := ⟨_, rfl⟩
  have bl : Blk w1 w.heap.size (.cells #[.slice (some ⟨ba, oa, none⟩) l.at_.length cap, .slice (some ⟨be, oe, none⟩) l.edges.length cap'] 25) := by rw [← hw1]; exact ((Blk.new w _).alloc _).alloc _
  have bx : Blk w1 (w.heap.size + 1) (.cells #[.int .i64 f, .int .i64 m, .int .i64 t, .int .i64 s] 45) := by rw [← hw1]; exact (by simpa using Blk.new (w.alloc _) _ : Blk _ (w.heap.size + 1) _).alloc _
  have br : Blk w1 (w.heap.size + 1 + 1) (.cells #[.int .i64 0, .int .i64 0] 31) := by rw [← hw1]; simpa using Blk.new ((w.alloc _).alloc _) (.cells #[.int .i64 0, .int .i64 0] 31)
  have hB1 : Below w.heap.size w w1 := by rw [← hw1]; exact below3 _ _ _ _
  have hz1 : w1.heap.size = w.heap.size + 3 := by rw [← hw1]; simp
  have HZ1 := Lib.hid hz1
  have HB1 := Lib.hid hB1
  have HBL := Lib.hid bl
  have HBX := Lib.hid bx
  have HBR := Lib.hid br
  have l0 := bl.cell 0
  have l1 := bl.cell 1
  have p0 := bx.cell 0
  have p1 := bx.cell 1
  have p2 := bx.cell 2
  simp at l0 l1 p0 p1 p2
  have c1 := cellB e1 hB1
  have c1' := cellB e1' hB1
  have c2 := cellB e2 hB1
  have c2' := cellB e2' hB1
  have c3 := cellB e3 hB1
  have c3' := cellB e3' hB1
  have HA1 := Lib.hid (cellB a1 hB1)
  have HA2 := Lib.hid (cellB a2 hB1)
  have HA3 := Lib.hid (cellB a3 hB1)
  clear bl bx br hB1 hz1 a1 a2 a3 e1 e1' e2 e2' e3 e3'
  have hAC : ∀ (W : World) (o : Obj) (b j : Nat), b < W.heap.size → (W.alloc o).cell? ⟨b, j, none⟩ = W.cell? ⟨b, j, none⟩ := fun W o b j h => (below1 W o).cell (p := ⟨b, j, none⟩) h
  have hAF : ∀ (W : World) (o : Obj) (b j : Nat), b < W.heap.size → (W.alloc o).frozen? ⟨b, j, none⟩ = W.frozen? ⟨b, j, none⟩ := fun W o b j h => (below1 W o).frozen (p := ⟨b, j, none⟩) h
  have HSX : Hid (∀ W, Below w1.heap.size w1 W → ((W.cell? ⟨w.heap.size, 0, none⟩ = some (.slice (some ⟨ba, oa, none⟩) l.at_.length cap) ∧ W.cell? ⟨w.heap.size, 1, none⟩ = some (.slice (some ⟨be, oe, none⟩) l.edges.length cap') ∧ W.cell? ⟨w.heap.size + 1, 0, none⟩ = some (.int .i64 f) ∧ W.cell? ⟨w.heap.size + 1, 1, none⟩ = some (.int .i64 m) ∧ W.cell? ⟨w.heap.size + 1, 2, none⟩ = some (.int .i64 t) ∧ W.cell? ⟨be, oe + f * 2, none⟩ = some (.int .i64 (loD l f)) ∧ W.cell? ⟨be, oe + f * 2 + 1, none⟩ = some (.int .i64 (hiD l f)) ∧ W.cell? ⟨be, oe + m * 2, none⟩ = some (.int .i64 (loD l m)) ∧ W.cell? ⟨be, oe + m * 2 + 1, none⟩ = some (.int .i64 (hiD l m)) ∧ W.cell? ⟨be, oe + t * 2, none⟩ = some (.int .i64 (loD l t)) ∧ W.cell? ⟨be, oe + t * 2 + 1, none⟩ = some (.int .i64 (hiD l t))) ∧ Below w1.heap.size w1 W)) :=
    Lib.hid (fun W h => ⟨⟨cellB l0 h, cellB l1 h, cellB p0 h, cellB p1 h, cellB p2 h, cellB c1 h, cellB c1' h, cellB c2 h, cellB c2' h, cellB c3 h, cellB c3' h⟩, h⟩)
  have hb0 : Below w1.heap.size w1 w1.drew := (Below.refl _ _).drew
  have HS := Lib.hid hs
  clear hs
  go_enter Tryd.func74, Tryd.ntmps74
  go_wp2_with fail
  clear hw1
  go_cut [5, 6, 7] (fun s5 s6 s7 wx => ∃ c d g : Nat, s5 = .pointer (some ⟨c, 0, none⟩) ∧ s6 = .pointer (some ⟨d, 0, none⟩) ∧ s7 = .pointer (some ⟨g, 0, none⟩) ∧ (wx.cell? ⟨c, 0, none⟩ = some (.int .i64 (loD l m)) ∧ wx.cell? ⟨c, 1, none⟩ = some (.int .i64 (hiD l m)) ∧ wx.cell? ⟨d, 0, none⟩ = some (.int .i64 (loD l f)) ∧ wx.cell? ⟨d, 1, none⟩ = some (.int .i64 (hiD l f)) ∧ wx.cell? ⟨g, 0, none⟩ = some (.int .i64 (loD l t)) ∧ wx.cell? ⟨g, 1, none⟩ = some (.int .i64 (hiD l t))) ∧ Below w1.heap.size w1 wx)
  case first =>
    go_region_held3 (fun W => (W.cell? ⟨w.heap.size, 0, none⟩ = some (.slice (some ⟨ba, oa, none⟩) l.at_.length cap) ∧ W.cell? ⟨w.heap.size, 1, none⟩ = some (.slice (some ⟨be, oe, none⟩) l.edges.length cap') ∧ W.cell? ⟨w.heap.size + 1, 0, none⟩ = some (.int .i64 f) ∧ W.cell? ⟨w.heap.size + 1, 1, none⟩ = some (.int .i64 m) ∧ W.cell? ⟨w.heap.size + 1, 2, none⟩ = some (.int .i64 t) ∧ W.cell? ⟨be, oe + f * 2, none⟩ = some (.int .i64 (loD l f)) ∧ W.cell? ⟨be, oe + f * 2 + 1, none⟩ = some (.int .i64 (hiD l f)) ∧ W.cell? ⟨be, oe + m * 2, none⟩ = some (.int .i64 (loD l m)) ∧ W.cell? ⟨be, oe + m * 2 + 1, none⟩ = some (.int .i64 (hiD l m)) ∧ W.cell? ⟨be, oe + t * 2, none⟩ = some (.int .i64 (loD l t)) ∧ W.cell? ⟨be, oe + t * 2 + 1, none⟩ = some (.int .i64 (hiD l t))) ∧ Below w1.heap.size w1 W)
      (((with_reducible refine HSX.out _ ?_); (repeat' (first | (with_reducible assumption) | (with_reducible refine Below.refl _ _) | (with_reducible refine Below.drew ?_) | (with_reducible refine bA ?_) | (with_reducible refine bS2o ?_ ?_) | omega))))
      (fail)
    all_goals (go_wp2_with fail; go_meet; refine ⟨_, _, _, rfl, rfl, rfl, ?_, ?_⟩)
    all_goals (go_split_ands; first | (with_reducible assumption) | (go_simp; done) | (simp [*]; done) | omega | (simp; omega) | ((repeat' (first | (with_reducible assumption) | (with_reducible refine Below.refl _ _) | (with_reducible refine Below.drew ?_) | (with_reducible refine bA ?_) | (with_reducible refine bS2o ?_ ?_) | omega)); done))
  case rest =>
    obtain ⟨c, d, g, rfl, rfl, rfl, ⟨q1, q2, q3, q4, q5, q6⟩, hW⟩ := hcut
    have p3 := (HBX.out.below hW).cell 3
    simp at p3
    have PR := HBR.out.below hW
    have HBLW := Lib.hid (HBL.out.below hW)
    have HBXW := Lib.hid (HBX.out.below hW)
    have HBW := Lib.hid (HB1.out.trans (hW.mono HB1.out.size))
    have hzr := PR.lt
    have m0 := cellB l0 hW
    have m1 := cellB p0 hW
    have m2 := cellB p2 hW
    have m3 := cellB HA1.out hW
    have m4 := cellB HA3.out hW
    have m5 := (HBX.out.below hW).cell 1
    simp at m5
    clear hW HSX hb0 hAC hAF l0 l1 p0 p1 p2 c1 c1' c2 c2' c3 c3' HA1 HA2 HA3
    rcases HS.out with ⟨rfl, rfl, rfl⟩ | ⟨hs, hfm, hmt⟩
    · have wr1 : IntKind.i64.wrap (hiD l m - loD l m) = hiD l m - loD l m := IntWalk.i64_in _ (by omega)
      have hV : mkRat (hiD l m - loD l m) (2 : Int).toNat = valR l ⟨m, m, m, 0⟩ := by rw [show (2 : Int).toNat = 2 from rfl, ref_zero]; exact (valR_single l m).symm
      have HV := Lib.hid hV
      clear hV
      go_wp2_with fail
      refine (rby_any _ _ _ (by omega) (by omega) (by omega) (by omega)).mono ?_
      rintro e w3 ⟨rfl, hb3⟩
      rw [HV.out]
      have R := PR.below hb3
      have HB3 := Lib.hid (HBW.out.trans (hb3.mono HBW.out.size))
      have f0 := R.frozen 0
      have f1 := R.frozen 1
      have u0 := R.cell 0
      have u1 := R.cell 1
      have ltr := R.lt
      simp at u0 u1
      obtain ⟨r, hr⟩ : ∃ r, valR l ⟨m, m, m, 0⟩ = r := ⟨_, rfl⟩
      rw [hr]
      have HR := Lib.hid hr
      clear hr
      have U := ((R.set (j := 0) (.int .i64 r.num)).set (j := 1) (.int .i64 (r.den : Int)))
      have v0 := U.cell 0
      have v1 := U.cell 1
      simp at v0 v1
      unfold qv
      go_wp2
      refine bodyPost_ret (v := qv r) (by simp [results, Tryd.results74, go_sem, v0, v1, qv]) rfl ⟨by rw [HR.out], ?_⟩
      exact (HB3.out.setCell (by simp; omega) _).setCell (by simp; omega) _
    · have hft : atD l f < atD l t := strict_at hf (by omega) h3
      have m1a : atD l f ≤ atD l m := Int.le_of_lt (strict_at hf hfm h2)
      have m2a : atD l m ≤ atD l t := Int.le_of_lt (strict_at hf hmt h3)
      have hft' : (f : Int) < l.at_.length := by omega
      have wr1 : IntKind.i64.wrap (atD l t - atD l f) = atD l t - atD l f := IntWalk.i64_in _ (by omega)
      have wr2 : IntKind.i64.wrap (2 * (atD l t - atD l f)) = 2 * (atD l t - atD l f) := IntWalk.i64_in _ (by omega)
      have hs0 : (s == 0) = false := by rcases hs with rfl | rfl <;> rfl
      have hs1 : ¬ s = 0 := by omega
      go_wp2_with fail
      refine wp_region_quiet_below (by kernel_rfl) (by kernel_rfl) ?_
      have g1 := fun d os => cell_regrown m0 d os
      have g2 := fun d os => cell_regrown m1 d os
      have g3 := fun d os => cell_regrown m2 d os
      have g4 := fun d os => cell_regrown m3 d os
      have g5 := fun d os => cell_regrown m4 d os
      repeat (quiet_step (fail))
      refine wpQuiet_nil ?_
      intro _ hw'
      obtain ⟨⟨dq, osq⟩, hw''⟩ := hw'
      subst hw''
      have hB3 := below_regrown wc dq osq
      have n0 := cellB p3 hB3
      have PR3 := PR.below hB3
      have L3 := HBLW.out.below hB3
      have P3 := HBXW.out.below hB3
      have n1 := cellB q1 hB3
      have n2 := cellB q2 hB3
      have n3 := cellB q3 hB3
      have n4 := cellB q4 hB3
      have n5 := cellB q5 hB3
      have n6 := cellB q6 hB3
      have HB3 := Lib.hid (HBW.out.trans (hB3.mono HBW.out.size))
      clear g1 g2 g3 g4 g5 hB3 PR q1 q2 q3 q4 q5 q6 m0 m1 m2 m3 m4 m5 p3 wr1
      generalize grow (redrawn wc dq) osq = W3 at *
      have p1 := mul_bd (loD l f) (atD l t - atD l m) 1000 100 (by omega) (by omega) (by omega) (by omega) (by omega)
      have p2 := mul_bd (loD l t) (atD l m - atD l f) 1000 100 (by omega) (by omega) (by omega) (by omega) (by omega)
      have p4 := mul_bd (hiD l f) (atD l t - atD l m) 1000 100 (by omega) (by omega) (by omega) (by omega) (by omega)
      have p5 := mul_bd (hiD l t) (atD l m - atD l f) 1000 100 (by omega) (by omega) (by omega) (by omega) (by omega)
      have p6 := mul_bd (hiD l m) (atD l t - atD l f) 1000 100 (by omega) (by omega) (by omega) (by omega) (by omega)
      have p7 := mul_bd (loD l m) (atD l t - atD l f) 1000 100 (by omega) (by omega) (by omega) (by omega) (by omega)
      have bt : (-200000 ≤ betw l f m t (loD l f) (loD l t) ∧ betw l f m t (loD l f) (loD l t) ≤ 200000) ∧ -200000 ≤ betw l f m t (hiD l f) (hiD l t) ∧ betw l f m t (hiD l f) (hiD l t) ≤ 200000 := by unfold betw; omega
      clear p1 p2 p4 p5
      rcases hs with rfl | rfl
      · have wr3 : IntKind.i64.wrap (hiD l m * (atD l t - atD l f)) = hiD l m * (atD l t - atD l f) := IntWalk.i64_in _ (by omega)
        have wr4 : IntKind.i64.wrap (hiD l m * (atD l t - atD l f) - betw l f m t (loD l f) (loD l t)) = hiD l m * (atD l t - atD l f) - betw l f m t (loD l f) (loD l t) := IntWalk.i64_in _ (by omega)
        have hV : mkRat (hiD l m * (atD l t - atD l f) - betw l f m t (loD l f) (loD l t)) (2 * (atD l t - atD l f)).toNat = valR l ⟨f, m, t, 1⟩ := by rw [ref_one l hft]; exact (valR_one l f m t).symm
        obtain ⟨r, hr⟩ : ∃ r, valR l ⟨f, m, t, 1⟩ = r := ⟨_, rfl⟩
        rw [hr] at hV
        have HR := Lib.hid hr
        have hcY := fun (dr : Nat) (os : Array Obj) => Calls.regrown_of ((rby_any (hiD l m * (atD l t - atD l f) - betw l f m t (loD l f) (loD l t)) (2 * (atD l t - atD l f)) (grow (redrawn W3 dr) os) (by omega) (by omega) (by omega) (by omega)))
        rw [hV] at hcY
        have hcB := fun (dr : Nat) (os : Array Obj) => Calls.regrown_of (rbetween_any _ l f m t 1 (loD l f) (loD l t) (grow (redrawn W3 dr) os) ((hLog.out.below HB3.out).below (below_regrown W3 dr os)) hf h1 h2 h3 (by omega) (by omega) (by omega) (by omega) (by omega) (by omega))
        have o0 := L3.cell 0
        have o1 := L3.cell 1
        have o2 := P3.cell 0
        have o3 := P3.cell 1
        have o4 := P3.cell 2
        have o5 := P3.cell 3
        simp at o0 o1 o2 o3 o4 o5
        have g1 := fun d os => cell_regrown o0 d os
        have g2 := fun d os => cell_regrown o1 d os
        have g3 := fun d os => cell_regrown o2 d os
        have g4 := fun d os => cell_regrown o3 d os
        have g5 := fun d os => cell_regrown o4 d os
        have g6 := fun d os => cell_regrown o5 d os
        have g7 := fun d os => cell_regrown n2 d os
        have g8 := fun d os => cell_regrown n3 d os
        have g9 := fun d os => cell_regrown n5 d os
        clear o0 o1 o2 o3 o4 o5 n1 n2 n3 n4 n5 n6 d1 d2 d3 y1 y2 y3 bt hr hV hft hfm hmt m1a m2a
        unfold qv at hcY
        go_wp2_with fail
        refine wp_region_tail 15 (by kernel_rfl) (by kernel_rfl) ?_
        repeat (quiet_step (first | (go_at_call 103; exact hcB _ _) | (go_at_call 51; exact hcY _ _)))
        refine wpQuiet_nil ?_
        intro _ hw'
        obtain ⟨⟨dq2, osq2⟩, hw''⟩ := hw'
        subst hw''
        simp only [List.drop_succ_cons, List.drop_zero]
        have hB4 := below_regrown W3 dq2 osq2
        have R := PR3.below hB4
        have HB4 := Lib.hid (HB3.out.trans (hB4.mono HB3.out.size))
        clear g1 g2 g3 g4 g5 g6 g7 g8 g9 hcB hcY hB4 wr3 wr4
        generalize grow (redrawn W3 dq2) osq2 = W4 at *
        have f0 := R.frozen 0
        have f1 := R.frozen 1
        have u0 := R.cell 0
        have u1 := R.cell 1
        have ltr := R.lt
        simp at u0 u1
        have U := ((R.set (j := 0) (.int .i64 r.num)).set (j := 1) (.int .i64 (r.den : Int)))
        have v0 := U.cell 0
        have v1 := U.cell 1
        simp at v0 v1
        go_wp2
        refine bodyPost_ret (v := qv r) (by simp [results, Tryd.results74, go_sem, v0, v1, qv]) rfl ⟨by rw [HR.out], ?_⟩
        exact (HB4.out.setCell (by simp; omega) _).setCell (by simp; omega) _
      · have wr3 : IntKind.i64.wrap (loD l m * (atD l t - atD l f)) = loD l m * (atD l t - atD l f) := IntWalk.i64_in _ (by omega)
        have wr4 : IntKind.i64.wrap (betw l f m t (hiD l f) (hiD l t) - loD l m * (atD l t - atD l f)) = betw l f m t (hiD l f) (hiD l t) - loD l m * (atD l t - atD l f) := IntWalk.i64_in _ (by omega)
        have hV : mkRat (betw l f m t (hiD l f) (hiD l t) - loD l m * (atD l t - atD l f)) (2 * (atD l t - atD l f)).toNat = valR l ⟨f, m, t, 2⟩ := by rw [ref_two l hft]; exact (valR_two l f m t).symm
        obtain ⟨r, hr⟩ : ∃ r, valR l ⟨f, m, t, 2⟩ = r := ⟨_, rfl⟩
        rw [hr] at hV
        have HR := Lib.hid hr
        have hcY := fun (dr : Nat) (os : Array Obj) => Calls.regrown_of ((rby_any (betw l f m t (hiD l f) (hiD l t) - loD l m * (atD l t - atD l f)) (2 * (atD l t - atD l f)) (grow (redrawn W3 dr) os) (by omega) (by omega) (by omega) (by omega)))
        rw [hV] at hcY
        have hcB := fun (dr : Nat) (os : Array Obj) => Calls.regrown_of (rbetween_any _ l f m t 2 (hiD l f) (hiD l t) (grow (redrawn W3 dr) os) ((hLog.out.below HB3.out).below (below_regrown W3 dr os)) hf h1 h2 h3 (by omega) (by omega) (by omega) (by omega) (by omega) (by omega))
        have o0 := L3.cell 0
        have o1 := L3.cell 1
        have o2 := P3.cell 0
        have o3 := P3.cell 1
        have o4 := P3.cell 2
        have o5 := P3.cell 3
        simp at o0 o1 o2 o3 o4 o5
        have g1 := fun d os => cell_regrown o0 d os
        have g2 := fun d os => cell_regrown o1 d os
        have g3 := fun d os => cell_regrown o2 d os
        have g4 := fun d os => cell_regrown o3 d os
        have g5 := fun d os => cell_regrown o4 d os
        have g6 := fun d os => cell_regrown o5 d os
        have g7 := fun d os => cell_regrown n4 d os
        have g8 := fun d os => cell_regrown n6 d os
        have g9 := fun d os => cell_regrown n1 d os
        clear o0 o1 o2 o3 o4 o5 n1 n2 n3 n4 n5 n6 d1 d2 d3 y1 y2 y3 bt hr hV hft hfm hmt m1a m2a
        unfold qv at hcY
        go_wp2_with fail
        refine wp_region_tail 15 (by kernel_rfl) (by kernel_rfl) ?_
        repeat (quiet_step (first | (go_at_call 103; exact hcB _ _) | (go_at_call 51; exact hcY _ _)))
        refine wpQuiet_nil ?_
        intro _ hw'
        obtain ⟨⟨dq2, osq2⟩, hw''⟩ := hw'
        subst hw''
        simp only [List.drop_succ_cons, List.drop_zero]
        have hB4 := below_regrown W3 dq2 osq2
        have R := PR3.below hB4
        have HB4 := Lib.hid (HB3.out.trans (hB4.mono HB3.out.size))
        clear g1 g2 g3 g4 g5 g6 g7 g8 g9 hcB hcY hB4 wr3 wr4
        generalize grow (redrawn W3 dq2) osq2 = W4 at *
        have f0 := R.frozen 0
        have f1 := R.frozen 1
        have u0 := R.cell 0
        have u1 := R.cell 1
        have ltr := R.lt
        simp at u0 u1
        have U := ((R.set (j := 0) (.int .i64 r.num)).set (j := 1) (.int .i64 (r.den : Int)))
        have v0 := U.cell 0
        have v1 := U.cell 1
        simp at v0 v1
        go_wp2
        refine bodyPost_ret (v := qv r) (by simp [results, Tryd.results74, go_sem, v0, v1, qv]) rfl ⟨by rw [HR.out], ?_⟩
        exact (HB4.out.setCell (by simp; omega) _).setCell (by simp; omega) _
end Go.Proofs.YtlhldkiggmlegaaDoor

namespace Go.Proofs.YtlhldkiggmlegaaDoor
open Go.RowKit Go.Shelf Go.Sort

/-! ## The reference: Core and CheckProof -/
theorem logErr_fit' {l : LogD} (h : logErr l = 0) : Fit l.at_ [l.edges] := placesErr_zero h
set_option maxHeartbeats 1000000 in
theorem rCore_any (v : Value) (l : LogD) (den start step : Int) (w : World) (hv : LogAt w v l) (hs : l.small) :
    Calls Tryd.prog 21 #[v, .agg #[.int .i64 den, .int .i64 start, .int .i64 step]] w fun e w' => e = .returned (.tuple #[coreV l den start step, .int .i64 (coreE l den start step)]) ∧ Below w.heap.size w w' := by
  obtain ⟨va, ve, rfl, h1, h2⟩ := hv
  obtain ⟨a, cap, rfl⟩ := h1.slice
  obtain ⟨a', cap', rfl⟩ := h2.slice
  have HV : Hid (LogAt w (.agg #[.slice a l.at_.length cap, .slice a' l.edges.length cap']) l) := Lib.hid ⟨_, _, rfl, h1, h2⟩
  have HS := Lib.hid hs
  clear h1 h2 hs
  have bl := ((Blk.new w (.cells #[.slice a l.at_.length cap, .slice a' l.edges.length cap'] 25)).alloc (.cells #[.int .i64 den, .int .i64 start, .int .i64 step] 27)).alloc (.cells #[.int .i64 0, .int .i64 0] 31)
  have bx := (Blk.new (w.alloc (.cells #[.slice a l.at_.length cap, .slice a' l.edges.length cap'] 25)) (.cells #[.int .i64 den, .int .i64 start, .int .i64 step] 27)).alloc (.cells #[.int .i64 0, .int .i64 0] 31)
  have br := Blk.new ((w.alloc (.cells #[.slice a l.at_.length cap, .slice a' l.edges.length cap'] 25)).alloc (.cells #[.int .i64 den, .int .i64 start, .int .i64 step] 27)) (.cells #[.int .i64 0, .int .i64 0] 31)
  have hB0 := below3 w (.cells #[.slice a l.at_.length cap, .slice a' l.edges.length cap'] 25) (.cells #[.int .i64 den, .int .i64 start, .int .i64 step] 27) (.cells #[.int .i64 0, .int .i64 0] 31)
  simp only [World.size_alloc] at bx br
  have HBL := Lib.hid bl
  have HBX := Lib.hid bx
  have HBR := Lib.hid br
  have HB0 := Lib.hid hB0
  clear bl bx br hB0
  have HC := Lib.hid (fun W (h : Below w.heap.size w W) => rCheckLog_any _ l W (HV.out.below h) HS.out)
  go_enter Tryd.func21, Tryd.ntmps21
  go_wp2_with fail
  refine (HC.out _ HB0.out).mono ?_
  rintro e w1 ⟨rfl, hb1⟩
  have HB1 := Lib.hid (HB0.out.trans (hb1.mono HB0.out.size))
  have L1 := Lib.hid (HBL.out.below hb1)
  have X1 := Lib.hid (HBX.out.below hb1)
  have R1 := Lib.hid (HBR.out.below hb1)
  clear hb1
  by_cases h0 : logErr l = 0
  · have ht : (logErr l != 0) = false := by simp [h0]
    have hE : coreE l den start step = lineErr den start step := if_pos h0
    have HE := Lib.hid hE
    have HF := Lib.hid (logErr_fit' h0)
    have x0 := X1.out.cell 0
    have x1 := X1.out.cell 1
    have x2 := X1.out.cell 2
    simp at x0 x1 x2
    clear h0 hE
    go_wp2_with fail
    refine (rCheckLine_any den start step _).mono ?_
    rintro e w2 ⟨rfl, hb2⟩
    have HB2 := Lib.hid (HB1.out.trans (hb2.mono HB1.out.size))
    have L2 := Lib.hid (L1.out.below hb2)
    have X2 := Lib.hid (X1.out.below hb2)
    have R2 := Lib.hid (R1.out.below hb2)
    clear hb2 x0 x1 x2
    have x0 := X2.out.cell 0
    have x1 := X2.out.cell 1
    have x2 := X2.out.cell 2
    simp at x0 x1 x2
    by_cases g0 : lineErr den start step = 0
    · have hg : (lineErr den start step != 0) = false := by simp [g0]
      have HO := Lib.hid (lineErr_zero g0)
      have HVV := Lib.hid (show coreV l den start step = qv (coreOf l den start step) from if_pos (by rw [HE.out]; exact g0))
      have HG := Lib.hid g0
      have l0 := L2.out.cell 0
      have l1 := L2.out.cell 1
      simp at l0 l1
      clear g0
      go_wp2_with fail
      refine (rCoreOf_any _ l den start step _ (HV.out.below HB2.out) HF.out HO.out).mono ?_
      rintro e w3 ⟨rfl, hb3⟩
      obtain ⟨r, hr⟩ : ∃ r, coreOf l den start step = r := ⟨_, rfl⟩
      rw [hr]
      have HR := Lib.hid hr
      have HB3 := Lib.hid (HB2.out.trans (hb3.mono HB2.out.size))
      have R := R2.out.below hb3
      clear hb3 hr x0 x1 x2 l0 l1
      have f0 := R.frozen 0
      have f1 := R.frozen 1
      have u0 := R.cell 0
      have u1 := R.cell 1
      have ltr := R.lt
      simp at u0 u1
      have U := ((R.set (j := 0) (.int .i64 r.num)).set (j := 1) (.int .i64 (r.den : Int)))
      have v0 := U.cell 0
      have v1 := U.cell 1
      simp at v0 v1
      unfold qv
      go_wp2
      refine bodyPost_ret (v := .tuple #[qv r, .int .i64 0]) (by simp [results, Tryd.results21, go_sem, v0, v1, qv]) rfl ⟨by rw [HVV.out, HE.out, HG.out, HR.out], ?_⟩
      exact (HB3.out.setCell (by simp; omega) _).setCell (by simp; omega) _
    · have hg : (lineErr den start step != 0) = true := by simp [g0]
      have HVV := Lib.hid (show coreV l den start step = zq from if_neg (by rw [HE.out]; exact g0))
      clear g0
      go_wp2_with fail
      refine (rCheckLine_any den start step _).mono ?_
      rintro e w3 ⟨rfl, hb3⟩
      have HB3 := Lib.hid (HB2.out.trans (hb3.mono HB2.out.size))
      have R := R2.out.below hb3
      clear hb3 x0 x1 x2
      have f0 := R.frozen 0
      have f1 := R.frozen 1
      have u0 := R.cell 0
      have u1 := R.cell 1
      have ltr := R.lt
      simp at u0 u1
      have U := ((R.set (j := 0) (.int .i64 0)).set (j := 1) (.int .i64 0))
      have v0 := U.cell 0
      have v1 := U.cell 1
      simp at v0 v1
      go_wp2
      refine bodyPost_ret (v := .tuple #[zq, .int .i64 (lineErr den start step)]) (by simp [results, Tryd.results21, go_sem, v0, v1, zq]) rfl ⟨by rw [HVV.out, HE.out], ?_⟩
      exact (HB3.out.setCell (by simp; omega) _).setCell (by simp; omega) _
  · have ht : (logErr l != 0) = true := by simp [h0]
    have HE := Lib.hid (show coreE l den start step = logErr l from if_neg h0)
    have HVV := Lib.hid (show coreV l den start step = zq from if_neg (by rw [HE.out]; exact h0))
    have l0 := L1.out.cell 0
    have l1 := L1.out.cell 1
    simp at l0 l1
    clear h0
    go_wp2_with fail
    refine (HC.out _ HB1.out).mono ?_
    rintro e w3 ⟨rfl, hb3⟩
    have HB3 := Lib.hid (HB1.out.trans (hb3.mono HB1.out.size))
    have R := R1.out.below hb3
    clear hb3 l0 l1
    have f0 := R.frozen 0
    have f1 := R.frozen 1
    have u0 := R.cell 0
    have u1 := R.cell 1
    have ltr := R.lt
    simp at u0 u1
    have U := ((R.set (j := 0) (.int .i64 0)).set (j := 1) (.int .i64 0))
    have v0 := U.cell 0
    have v1 := U.cell 1
    simp at v0 v1
    go_wp2
    refine bodyPost_ret (v := .tuple #[zq, .int .i64 (logErr l)]) (by simp [results, Tryd.results21, go_sem, v0, v1, zq]) rfl ⟨by rw [HVV.out, HE.out], ?_⟩
    exact (HB3.out.setCell (by simp; omega) _).setCell (by simp; omega) _
set_option maxHeartbeats 1000000 in
theorem rCheckProof_any (v : Value) (l : LogD) (p : PK) (w : World) (hv : LogAt w v l) (hs : l.small) :
    Calls Tryd.prog 32 #[v, pkV p] w fun e w' => e = .returned (qe (valR l p) (cpE l p)) ∧ Below w.heap.size w w' := by
  obtain ⟨f, m, t, s⟩ := p
  unfold pkV
  obtain ⟨va, ve, rfl, h1, h2⟩ := hv
  obtain ⟨a, cap, rfl⟩ := h1.slice
  obtain ⟨a', cap', rfl⟩ := h2.slice
  have HV : Hid (LogAt w (.agg #[.slice a l.at_.length cap, .slice a' l.edges.length cap']) l) := Lib.hid ⟨_, _, rfl, h1, h2⟩
  have HS := Lib.hid hs
  clear h1 h2 hs
  have bl := ((Blk.new w (.cells #[.slice a l.at_.length cap, .slice a' l.edges.length cap'] 25)).alloc (.cells #[.int .i64 f, .int .i64 m, .int .i64 t, .int .i64 s] 45)).alloc (.cells #[.int .i64 0, .int .i64 0] 31)
  have bx := (Blk.new (w.alloc (.cells #[.slice a l.at_.length cap, .slice a' l.edges.length cap'] 25)) (.cells #[.int .i64 f, .int .i64 m, .int .i64 t, .int .i64 s] 45)).alloc (.cells #[.int .i64 0, .int .i64 0] 31)
  have br := Blk.new ((w.alloc (.cells #[.slice a l.at_.length cap, .slice a' l.edges.length cap'] 25)).alloc (.cells #[.int .i64 f, .int .i64 m, .int .i64 t, .int .i64 s] 45)) (.cells #[.int .i64 0, .int .i64 0] 31)
  have hB0 := below3 w (.cells #[.slice a l.at_.length cap, .slice a' l.edges.length cap'] 25) (.cells #[.int .i64 f, .int .i64 m, .int .i64 t, .int .i64 s] 45) (.cells #[.int .i64 0, .int .i64 0] 31)
  simp only [World.size_alloc] at bx br
  have HBL := Lib.hid bl
  have HBX := Lib.hid bx
  have HBR := Lib.hid br
  have HB0 := Lib.hid hB0
  clear bl bx br hB0
  have HC := Lib.hid (fun W (h : Below w.heap.size w W) => rCheckLog_any _ l W (HV.out.below h) HS.out)
  go_enter Tryd.func32, Tryd.ntmps32
  go_wp2_with fail
  refine (HC.out _ HB0.out).mono ?_
  rintro e w1 ⟨rfl, hb1⟩
  have HB1 := Lib.hid (HB0.out.trans (hb1.mono HB0.out.size))
  have L1 := Lib.hid (HBL.out.below hb1)
  have X1 := Lib.hid (HBX.out.below hb1)
  have R1 := Lib.hid (HBR.out.below hb1)
  clear hb1
  by_cases h0 : logErr l = 0
  · have ht : (logErr l != 0) = false := by simp [h0]
    have HF := Lib.hid (logErr_fit' h0)
    have H0 := Lib.hid h0
    have x0 := X1.out.cell 0
    have x1 := X1.out.cell 1
    have x2 := X1.out.cell 2
    have x3 := X1.out.cell 3
    have l0 := L1.out.cell 0
    have l1 := L1.out.cell 1
    simp at x0 x1 x2 x3 l0 l1
    clear h0
    go_wp2_with fail
    refine (rshaped_any _ l f m t s _ (HV.out.below HB1.out)).mono ?_
    rintro e w2 ⟨rfl, hb2⟩
    have HB2 := Lib.hid (HB1.out.trans (hb2.mono HB1.out.size))
    have L2 := Lib.hid (L1.out.below hb2)
    have X2 := Lib.hid (X1.out.below hb2)
    have R2 := Lib.hid (R1.out.below hb2)
    clear hb2 x0 x1 x2 x3 l0 l1
    by_cases g0 : Shaped l.at_.length f m t s
    · rw [(shB_iff _ _ _ _ _).2 g0]
      have HE := Lib.hid (show cpE l ⟨f, m, t, s⟩ = 0 from by unfold cpE; rw [if_neg (by simp [H0.out]), if_pos g0])
      have x0 := X2.out.cell 0
      have x1 := X2.out.cell 1
      have x2 := X2.out.cell 2
      have x3 := X2.out.cell 3
      have l0 := L2.out.cell 0
      have l1 := L2.out.cell 1
      simp at x0 x1 x2 x3 l0 l1
      obtain ⟨g1, g2, g3, g4, g5⟩ := g0
      obtain ⟨f', rfl⟩ := Int.eq_ofNat_of_zero_le g1
      obtain ⟨m', rfl⟩ := Int.eq_ofNat_of_zero_le (show 0 ≤ m by omega)
      obtain ⟨t', rfl⟩ := Int.eq_ofNat_of_zero_le (show 0 ≤ t by omega)
      have HP := Lib.hid (fun W (h : Below w.heap.size w W) => rProves_any _ l f' m' t' s W (HV.out.below h) HF.out (by omega) (by omega) (by omega) (by omega))
      clear g1 g2 g3 g4 g5
      go_wp2_with fail
      refine (HP.out _ HB2.out).mono ?_
      rintro e w3 ⟨rfl, hb3⟩
      obtain ⟨r, hr⟩ : ∃ r, valR l ⟨f', m', t', s⟩ = r := ⟨_, rfl⟩
      rw [hr]
      have HR := Lib.hid hr
      have HB3 := Lib.hid (HB2.out.trans (hb3.mono HB2.out.size))
      have R := R2.out.below hb3
      clear hb3 hr x0 x1 x2 x3 l0 l1
      have f0 := R.frozen 0
      have f1 := R.frozen 1
      have u0 := R.cell 0
      have u1 := R.cell 1
      have ltr := R.lt
      simp at u0 u1
      have U := ((R.set (j := 0) (.int .i64 r.num)).set (j := 1) (.int .i64 (r.den : Int)))
      have v0 := U.cell 0
      have v1 := U.cell 1
      simp at v0 v1
      unfold qv
      go_wp2
      refine bodyPost_ret (v := .tuple #[qv r, .int .i64 0]) (by simp [results, Tryd.results32, go_sem, v0, v1, qv]) rfl ⟨by rw [qe, HE.out, HR.out]; rfl, ?_⟩
      exact (HB3.out.setCell (by simp; omega) _).setCell (by simp; omega) _
    · rw [show shB l.at_.length f m t s = false by rw [← Bool.not_eq_true]; exact fun h => g0 ((shB_iff _ _ _ _ _).1 h)]
      have HE := Lib.hid (show cpE l ⟨f, m, t, s⟩ = 2 from by unfold cpE; rw [if_neg (by simp [H0.out]), if_neg g0])
      have R := R2.out
      clear g0
      have f0 := R.frozen 0
      have f1 := R.frozen 1
      have u0 := R.cell 0
      have u1 := R.cell 1
      have ltr := R.lt
      simp at u0 u1
      have U := ((R.set (j := 0) (.int .i64 0)).set (j := 1) (.int .i64 0))
      have v0 := U.cell 0
      have v1 := U.cell 1
      simp at v0 v1
      go_wp2
      refine bodyPost_ret (v := .tuple #[zq, .int .i64 2]) (by simp [results, Tryd.results32, go_sem, v0, v1, zq]) rfl ⟨by rw [qe, HE.out]; rfl, ?_⟩
      exact (HB2.out.setCell (by simp; omega) _).setCell (by simp; omega) _
  · have ht : (logErr l != 0) = true := by simp [h0]
    have HE := Lib.hid (show cpE l ⟨f, m, t, s⟩ = logErr l from if_pos h0)
    have HN := Lib.hid h0
    have l0 := L1.out.cell 0
    have l1 := L1.out.cell 1
    simp at l0 l1
    clear h0
    go_wp2_with fail
    refine (HC.out _ HB1.out).mono ?_
    rintro e w3 ⟨rfl, hb3⟩
    have HB3 := Lib.hid (HB1.out.trans (hb3.mono HB1.out.size))
    have R := R1.out.below hb3
    clear hb3 l0 l1
    have f0 := R.frozen 0
    have f1 := R.frozen 1
    have u0 := R.cell 0
    have u1 := R.cell 1
    have ltr := R.lt
    simp at u0 u1
    have U := ((R.set (j := 0) (.int .i64 0)).set (j := 1) (.int .i64 0))
    have v0 := U.cell 0
    have v1 := U.cell 1
    simp at v0 v1
    go_wp2
    refine bodyPost_ret (v := .tuple #[zq, .int .i64 (logErr l)]) (by simp [results, Tryd.results32, go_sem, v0, v1, zq]) rfl ⟨by rw [qe, HE.out, if_neg HN.out], ?_⟩
    exact (HB3.out.setCell (by simp; omega) _).setCell (by simp; omega) _
end Go.Proofs.YtlhldkiggmlegaaDoor
