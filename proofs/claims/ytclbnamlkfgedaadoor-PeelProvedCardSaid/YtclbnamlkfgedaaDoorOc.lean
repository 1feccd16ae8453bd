import Derived.Test.YtclbnamlkfgedaaDoorOb
namespace Go.Proofs.YtclbnamlkfgedaaDoor
open Go.RowKit Go.Shelf Go.Sort
attribute [local go_sem] Oper.semAt_some

/-! ## The law PeelProved, from the proof's check on -/
/-- The cells of a block, by number. -/
def CellsAt (W : World) (k : Nat) (xs : List Value) : Prop := ∀ j (h : j < xs.length), W.cell? ⟨k, j, none⟩ = some xs[j]
theorem CellsAt.cell {W : World} {k : Nat} {xs : List Value} (h : CellsAt W k xs) (j : Nat) : W.cell? ⟨k, j, none⟩ = if h : j < xs.length then some xs[j] else W.cell? ⟨k, j, none⟩ := by
  split
  · exact h j _
  · rfl
theorem CellsAt.lt {W : World} {k : Nat} {x : Value} {xs : List Value} (h : CellsAt W k (x :: xs)) : k < W.heap.size := lt_of_cell (h 0 (by simp))
theorem CellsAt.below {W W' : World} {k : Nat} {xs : List Value} (h : CellsAt W k xs) (hb : Below W.heap.size W W') : CellsAt W' k xs := fun j hj => cellB (h j hj) hb
theorem CellsAt.other {W : World} {k b j : Nat} {xs : List Value} {u : Value} (h : CellsAt W k xs) (hne : k ≠ b) : CellsAt (W.setCell ⟨b, j, none⟩ u) k xs := fun i hi => cellSO (h i hi) hne
theorem CellsAt.two {W : World} {k : Nat} {x y : Value} (h0 : W.cell? ⟨k, 0, none⟩ = some x) (h1 : W.cell? ⟨k, 1, none⟩ = some y) : CellsAt W k [x, y] := fun j hj => by
  match j, hj with
  | 0, _ => exact h0
  | 1, _ => exact h1
theorem CellsAt.four {W : World} {k : Nat} {x y z u : Value} (h0 : W.cell? ⟨k, 0, none⟩ = some x) (h1 : W.cell? ⟨k, 1, none⟩ = some y) (h2 : W.cell? ⟨k, 2, none⟩ = some z) (h3 : W.cell? ⟨k, 3, none⟩ = some u) : CellsAt W k [x, y, z, u] := fun j hj => by
  match j, hj with
  | 0, _ => exact h0
  | 1, _ => exact h1
  | 2, _ => exact h2
  | 3, _ => exact h3
theorem cell_setSame {W : World} {k j : Nat} {u v : Value} (h : W.cell? ⟨k, j, none⟩ = some u) : (W.setCell ⟨k, j, none⟩ v).cell? ⟨k, j, none⟩ = some v := by
  have hl := lt_of_cell h
  have hk : ∃ o, W.heap[k]? = some o := ⟨_, Array.getElem?_eq_getElem hl⟩
  obtain ⟨o, ho⟩ := hk
  unfold World.cell? at h ⊢
  simp only [ho] at h
  cases o <;> simp [World.setCell, Array.getElem?_modify, ho] at h ⊢
  · obtain ⟨hx, _⟩ := Array.getElem?_eq_some_iff.1 h
    simp [hx]
theorem cell_setIdx {W : World} {k j i : Nat} {u v : Value} (h : W.cell? ⟨k, i, none⟩ = some u) (hne : i ≠ j) : (W.setCell ⟨k, j, none⟩ v).cell? ⟨k, i, none⟩ = some u := by
  have hl := lt_of_cell h
  obtain ⟨o, ho⟩ : ∃ o, W.heap[k]? = some o := ⟨_, Array.getElem?_eq_getElem hl⟩
  unfold World.cell? at h ⊢
  simp only [ho] at h
  cases o <;> simp [World.setCell, Array.getElem?_modify, ho] at h ⊢
  · rw [Array.getElem?_setIfInBounds_ne (by omega)]; exact h
noncomputable def provedB : Code := dropSeq 8 ((Tryd.f8.body).getD .skip)
set_option maxRecDepth 1000000 in
set_option maxHeartbeats 40000000 in
theorem proved_b (w W0 : World) (l : LogD) (a a' : Option Addr) (cap cap' : Nat) (c : Rat) (y1 y2 y3 n d cn cd : Int) (q : PK) (B7 B15 B17 B20 : Nat)
    (hV : LogAt w (.agg #[.slice a l.at_.length cap, .slice a' l.edges.length cap']) l) (hN : NoneAt w) (hB : Below w.heap.size w W0) (h0 : logErr l = 0) (hn : (bestV l).num = n) (hd : ((bestV l).den : Int) = d)
    (hc : coreOf l y1 y2 y3 = c) (hy : 0 < y1) (hcn : c.num = cn) (hcd : (c.den : Int) = cd) (hcb : cd ≤ 100 ∧ -5000 * cd ≤ cn ∧ cn ≤ 5000 * cd)
    (hL : Blk W0 B7 (.cells #[.slice a l.at_.length cap, .slice a' l.edges.length cap'] 25)) (hP : Blk W0 B15 (.cells #[.int .i64 n, .int .i64 d] 31)) (hC : CellsAt W0 B17 [.int .i64 cn, .int .i64 cd]) (hQ : CellsAt W0 B20 [.int .i64 q.f, .int .i64 q.m, .int .i64 q.t, .int .i64 q.s])
    (u0 u1 u2 u3 u4 u5 u6 u8 u9 u10 u11 u12 u13 u19 u21 u22 u23 u24 u25 u26 u27 u28 u29 u30 u31 u32 u33 u34 u35 u36 u37 u38 u39 u40 u41 u42 u43 u44 u45 u46 u47 u48 u49 u50 u51 u52 u53 u54 u55 u56 u57 u58 u59 u60 u61 u62 u63 u64 u65 u66 u67 u68 u69 u70 u71 u72 u73 u74 u75 u76 u77 u78 u79 u80 u81 u82 u83 u84 u85 u86 u87 u88 u89 u90 u91 u92 u93 u94 u95 u96 u97 u98 u99 u100 u101 u102 u103 u104 u105 u106 u107 u108 u109 u110 u111 u112 u113 u114 u115 u116 u117 u118 u119 u120 u121 u122 u123 u124 u125 u126 u127 u128 u129 u130 u131 u132 u133 u134 : Value) :
    Code.wp Tryd.prog provedB (bodyPost Tryd.prog Tryd.f8 fun e w' => e = .returned (.bool true) ∧ Below w.heap.size w w') ⟨#[u0, u1, u2, u3, u4, u5, u6, .pointer (some ⟨B7, 0, none⟩), u8, u9, u10, u11, u12, u13, .bool false, .pointer (some ⟨B15, 0, none⟩), .bool true, .pointer (some ⟨B17, 0, none⟩), .int .i64 0, u19, .pointer (some ⟨B20, 0, none⟩), u21, u22, u23, u24, u25, u26, u27, u28, u29, u30, u31, u32, u33, u34, u35, u36, u37, u38, u39, u40, u41, u42, u43, u44, u45, u46, u47, u48, u49, u50, u51, u52, u53, u54, u55, u56, u57, u58, u59, u60, u61, u62, u63, u64, u65, u66, u67, u68, u69, u70, u71, u72, u73, u74, u75, u76, u77, u78, u79, u80, u81, u82, u83, u84, u85, u86, u87, u88, u89, u90, u91, u92, u93, u94, u95, u96, u97, u98, u99, u100, u101, u102, u103, u104, u105, u106, u107, u108, u109, u110, u111, u112, u113, u114, u115, u116, u117, u118, u119, u120, u121, u122, u123, u124, u125, u126, u127, u128, u129, u130, u131, u132, u133, u134], []⟩ W0 := by
  have hf := logErr_fit' h0
  have HS := Lib.hid (show l.small by unfold LogD.small; have := hf.eight; have := hf.lens _ (List.mem_singleton.2 rfl); omega)
  have hv := small_best hf
  have fv : Fine (bestV l) := by obtain ⟨g1, g2, g3⟩ := hv; exact ⟨by omega, by omega, by omega⟩
  have fc : Fine c := by exact ⟨by omega, by omega, by omega⟩
  have hcv : ¬ bestV l < c := by have := core_le_best hf (den := y1) (start := y2) (step := y3) hy; rw [hc] at this; grind
  have cd1 : 1 ≤ cd := by have := c.den_pos; omega
  have HL1 : Hid (∀ W, Calls Tryd.prog 45 #[.agg #[.int .i64 n, .int .i64 d], .agg #[.int .i64 cn, .int .i64 cd]] W (Gets (.bool false) W)) := Lib.hid (fun W => by have := rless_any (bestV l) c W fv fc; rw [decide_eq_false hcv, qv, qv, hn, hd, hcn, hcd] at this; exact this)
  have HV := Lib.hid hV
  have HN := Lib.hid hN
  have HB0 := Lib.hid hB
  have HL0 := Lib.hid hL
  have HP0 := Lib.hid hP
  have HC0 := Lib.hid hC
  have HQ0 := Lib.hid hQ
  have wr1 : IntKind.i64.wrap (-5000 * cd) = -5000 * cd := IntWalk.i64_in _ (by omega)
  have wr2 : IntKind.i64.wrap (5000 * cd) = 5000 * cd := IntWalk.i64_in _ (by omega)
  have k1 : decide (cd < 1) = false := decide_eq_false (by omega)
  have k2 : decide (100 < cd) = false := decide_eq_false (by omega)
  have k3 : decide (cn < -5000 * cd) = false := decide_eq_false (by omega)
  have k4 : decide (5000 * cd < cn) = false := decide_eq_false (by omega)
  clear hV hN hB hL hP hC hQ
  by_cases hs : Shaped l.at_.length q.f q.m q.t q.s
  · have hp := mem_proofs hs
    have hcp : cpE l q = 0 := by unfold cpE; rw [if_neg (by simp [h0]), if_pos hs]
    have sx := small_val hf hp
    have fx := valR_fine hf hp
    have hxv : ¬ valR l q < bestV l := by have := (isBest_of hf).2 q hp; grind
    have hxc : ¬ valR l q < c := by have := core_le_proof hf (den := y1) (start := y2) (step := y3) hy q hp; rw [hc] at this; grind
    obtain ⟨xn, hxn⟩ : ∃ xn, (valR l q).num = xn := ⟨_, rfl⟩
    obtain ⟨xd, hxd⟩ : ∃ xd, ((valR l q).den : Int) = xd := ⟨_, rfl⟩
    have HC5 : Hid (∀ W, NoneAt W → LogAt W (.agg #[.slice a l.at_.length cap, .slice a' l.edges.length cap']) l → Calls Tryd.prog 31 #[(.agg #[.slice a l.at_.length cap, .slice a' l.edges.length cap']), .agg #[.int .i64 q.f, .int .i64 q.m, .int .i64 q.t, .int .i64 q.s]] W (Gets (.tuple #[.agg #[.int .i64 xn, .int .i64 xd], .int .i64 0]) W)) := Lib.hid (fun W hN h => by have := CheckProof_any _ l q W hN h HS.out; rw [hcp, qe, if_pos rfl, qv, hxn, hxd] at this; exact this)
    have HSM : Hid (∀ W, Calls Tryd.prog 46 #[.agg #[.int .i64 xn, .int .i64 xd]] W (Gets (.bool true) W)) := Lib.hid (fun W => by have := small_yes (valR l q) W sx; rw [hxn, hxd] at this; exact this)
    have HL2 : Hid (∀ W, Calls Tryd.prog 45 #[.agg #[.int .i64 xn, .int .i64 xd], .agg #[.int .i64 n, .int .i64 d]] W (Gets (.bool false) W)) := Lib.hid (fun W => by have := rless_any (valR l q) (bestV l) W fx fv; rw [decide_eq_false hxv, qv, qv, hn, hd, hxn, hxd] at this; exact this)
    have HL3 : Hid (∀ W, Calls Tryd.prog 45 #[.agg #[.int .i64 xn, .int .i64 xd], .agg #[.int .i64 cn, .int .i64 cd]] W (Gets (.bool false) W)) := Lib.hid (fun W => by have := rless_any (valR l q) c W fx fc; rw [decide_eq_false hxc, qv, qv, hcn, hcd, hxn, hxd] at this; exact this)
    clear hf hv fv fc hcv hs hp hcp sx fx hxv hxc hxn hxd hn hd hc hcn hcd h0 hcb cd1 hy
    conv => arg 2; whnf
    have Lc0 := HL0.out.cell 0
    have Lc1 := HL0.out.cell 1
    have Qc0 := HQ0.out.cell 0
    have Qc1 := HQ0.out.cell 1
    have Qc2 := HQ0.out.cell 2
    have Qc3 := HQ0.out.cell 3
    simp at Lc0 Lc1 Qc0 Qc1 Qc2 Qc3
    have Ll := HL0.out.lt
    have Ql := HQ0.out.lt
    go_wp2_with fail
    clear Lc0 Lc1 Qc0 Qc1 Qc2 Qc3 Ll Ql
    refine (HC5.out _ (HN.out.below HB0.out) (HV.out.below HB0.out)).mono ?_
    rintro e w1x ⟨rfl, hb⟩
    have HB1 := Lib.hid (bC HB0.out hb)
    have HL1 := Lib.hid (HL0.out.below hb)
    have HP1 := Lib.hid (HP0.out.below hb)
    have HC1 := Lib.hid (HC0.out.below hb)
    have HQ1 := Lib.hid (HQ0.out.below hb)
    clear hb HB0 HL0 HP0 HC0 HQ0
    have Cc0 := HC1.out.cell 0
    have Cc1 := HC1.out.cell 1
    have Pc0 := HP1.out.cell 0
    have Pc1 := HP1.out.cell 1
    simp at Cc0 Cc1 Pc0 Pc1
    have Cl := HC1.out.lt
    have Pl := HP1.out.lt
    go_wp2_with fail
    clear Cc0 Cc1 Pc0 Pc1 Cl Pl
    have hX := Blk.new w1x (.cells #[.int .i64 xn, .int .i64 xd] 31)
    have hA := below1 w1x (.cells #[.int .i64 xn, .int .i64 xd] 31)
    generalize w1x.alloc (.cells #[.int .i64 xn, .int .i64 xd] 31) = W1x at *
    have HX2 := Lib.hid hX
    clear hX
    have HB2 := Lib.hid (bC HB1.out hA)
    have HL2 := Lib.hid (HL1.out.below hA)
    have HP2 := Lib.hid (HP1.out.below hA)
    have HC2 := Lib.hid (HC1.out.below hA)
    have HQ2 := Lib.hid (HQ1.out.below hA)
    clear hA HB1 HL1 HP1 HC1 HQ1
    refine (HL1.out _).mono ?_
    rintro e w3x ⟨rfl, hb⟩
    have HB3 := Lib.hid (bC HB2.out hb)
    have HL3 := Lib.hid (HL2.out.below hb)
    have HP3 := Lib.hid (HP2.out.below hb)
    have HC3 := Lib.hid (HC2.out.below hb)
    have HQ3 := Lib.hid (HQ2.out.below hb)
    have HX3 := Lib.hid (HX2.out.below hb)
    clear hb HB2 HL2 HP2 HC2 HQ2 HX2
    have Xc0 := HX3.out.cell 0
    have Xc1 := HX3.out.cell 1
    simp at Xc0 Xc1
    have Xl := HX3.out.lt
    go_wp2_with fail
    clear Xc0 Xc1 Xl
    refine (HSM.out _).mono ?_
    rintro e w4x ⟨rfl, hb⟩
    have HB4 := Lib.hid (bC HB3.out hb)
    have HL4 := Lib.hid (HL3.out.below hb)
    have HP4 := Lib.hid (HP3.out.below hb)
    have HC4 := Lib.hid (HC3.out.below hb)
    have HQ4 := Lib.hid (HQ3.out.below hb)
    have HX4 := Lib.hid (HX3.out.below hb)
    clear hb HB3 HL3 HP3 HC3 HQ3 HX3
    have Xc0 := HX4.out.cell 0
    have Xc1 := HX4.out.cell 1
    have Pc0 := HP4.out.cell 0
    have Pc1 := HP4.out.cell 1
    simp at Xc0 Xc1 Pc0 Pc1
    have Xl := HX4.out.lt
    have Pl := HP4.out.lt
    go_wp2_with fail
    clear Xc0 Xc1 Pc0 Pc1 Xl Pl
    refine (HL2.out _).mono ?_
    rintro e w5x ⟨rfl, hb⟩
    have HB5 := Lib.hid (bC HB4.out hb)
    have HL5 := Lib.hid (HL4.out.below hb)
    have HP5 := Lib.hid (HP4.out.below hb)
    have HC5 := Lib.hid (HC4.out.below hb)
    have HQ5 := Lib.hid (HQ4.out.below hb)
    have HX5 := Lib.hid (HX4.out.below hb)
    clear hb HB4 HL4 HP4 HC4 HQ4 HX4
    have Xc0 := HX5.out.cell 0
    have Xc1 := HX5.out.cell 1
    have Cc0 := HC5.out.cell 0
    have Cc1 := HC5.out.cell 1
    simp at Xc0 Xc1 Cc0 Cc1
    have Xl := HX5.out.lt
    have Cl := HC5.out.lt
    go_wp2_with fail
    clear Xc0 Xc1 Cc0 Cc1 Xl Cl
    refine (HL3.out _).mono ?_
    rintro e w6x ⟨rfl, hb⟩
    have HB6 := Lib.hid (bC HB5.out hb)
    have HL6 := Lib.hid (HL5.out.below hb)
    have HP6 := Lib.hid (HP5.out.below hb)
    have HC6 := Lib.hid (HC5.out.below hb)
    have HQ6 := Lib.hid (HQ5.out.below hb)
    have HX6 := Lib.hid (HX5.out.below hb)
    clear hb HB5 HL5 HP5 HC5 HQ5 HX5
    go_wp2_with fail
    refine (Works_any _ (HN.out.below HB6.out)).mono ?_
    rintro e w7x ⟨rfl, hb⟩
    have HB7 := Lib.hid (bC HB6.out hb)
    have HL7 := Lib.hid (HL6.out.below hb)
    have HP7 := Lib.hid (HP6.out.below hb)
    have HC7 := Lib.hid (HC6.out.below hb)
    have HQ7 := Lib.hid (HQ6.out.below hb)
    have HX7 := Lib.hid (HX6.out.below hb)
    clear hb HB6 HL6 HP6 HC6 HQ6 HX6
    go_wp2_with fail
    go_ret
    exact ⟨rfl, HB7.out⟩
  · obtain ⟨xn, xd, hx⟩ := qe_agg (valR l q) 2
    have hcp : cpE l q = 2 := by unfold cpE; rw [if_neg (by simp [h0]), if_neg hs]
    have HC5 : Hid (∀ W, NoneAt W → LogAt W (.agg #[.slice a l.at_.length cap, .slice a' l.edges.length cap']) l → Calls Tryd.prog 31 #[(.agg #[.slice a l.at_.length cap, .slice a' l.edges.length cap']), .agg #[.int .i64 q.f, .int .i64 q.m, .int .i64 q.t, .int .i64 q.s]] W (Gets (.tuple #[.agg #[.int .i64 xn, .int .i64 xd], .int .i64 2]) W)) := Lib.hid (fun W hN h => by have := CheckProof_any _ l q W hN h HS.out; rw [hcp, hx] at this; exact this)
    clear hf hv fv fc hcv hs hcp hx hn hd hc hcn hcd h0 hcb cd1 hy
    conv => arg 2; whnf
    have Lc0 := HL0.out.cell 0
    have Lc1 := HL0.out.cell 1
    have Qc0 := HQ0.out.cell 0
    have Qc1 := HQ0.out.cell 1
    have Qc2 := HQ0.out.cell 2
    have Qc3 := HQ0.out.cell 3
    simp at Lc0 Lc1 Qc0 Qc1 Qc2 Qc3
    have Ll := HL0.out.lt
    have Ql := HQ0.out.lt
    go_wp2_with fail
    clear Lc0 Lc1 Qc0 Qc1 Qc2 Qc3 Ll Ql
    refine (HC5.out _ (HN.out.below HB0.out) (HV.out.below HB0.out)).mono ?_
    rintro e w1x ⟨rfl, hb⟩
    have HB1 := Lib.hid (bC HB0.out hb)
    have HL1 := Lib.hid (HL0.out.below hb)
    have HP1 := Lib.hid (HP0.out.below hb)
    have HC1 := Lib.hid (HC0.out.below hb)
    have HQ1 := Lib.hid (HQ0.out.below hb)
    clear hb HB0 HL0 HP0 HC0 HQ0
    have Cc0 := HC1.out.cell 0
    have Cc1 := HC1.out.cell 1
    have Pc0 := HP1.out.cell 0
    have Pc1 := HP1.out.cell 1
    simp at Cc0 Cc1 Pc0 Pc1
    have Cl := HC1.out.lt
    have Pl := HP1.out.lt
    go_wp2_with fail
    clear Cc0 Cc1 Pc0 Pc1 Cl Pl
    have hX := Blk.new w1x (.cells #[.int .i64 xn, .int .i64 xd] 31)
    have hA := below1 w1x (.cells #[.int .i64 xn, .int .i64 xd] 31)
    generalize w1x.alloc (.cells #[.int .i64 xn, .int .i64 xd] 31) = W1x at *
    have HX2 := Lib.hid hX
    clear hX
    have HB2 := Lib.hid (bC HB1.out hA)
    have HL2 := Lib.hid (HL1.out.below hA)
    have HP2 := Lib.hid (HP1.out.below hA)
    have HC2 := Lib.hid (HC1.out.below hA)
    have HQ2 := Lib.hid (HQ1.out.below hA)
    clear hA HB1 HL1 HP1 HC1 HQ1
    refine (HL1.out _).mono ?_
    rintro e w3x ⟨rfl, hb⟩
    have HB3 := Lib.hid (bC HB2.out hb)
    have HL3 := Lib.hid (HL2.out.below hb)
    have HP3 := Lib.hid (HP2.out.below hb)
    have HC3 := Lib.hid (HC2.out.below hb)
    have HQ3 := Lib.hid (HQ2.out.below hb)
    have HX3 := Lib.hid (HX2.out.below hb)
    clear hb HB2 HL2 HP2 HC2 HQ2 HX2
    go_wp2_with fail
    refine (Works_any _ (HN.out.below HB3.out)).mono ?_
    rintro e w4x ⟨rfl, hb⟩
    have HB4 := Lib.hid (bC HB3.out hb)
    have HL4 := Lib.hid (HL3.out.below hb)
    have HP4 := Lib.hid (HP3.out.below hb)
    have HC4 := Lib.hid (HC3.out.below hb)
    have HQ4 := Lib.hid (HQ3.out.below hb)
    have HX4 := Lib.hid (HX3.out.below hb)
    clear hb HB3 HL3 HP3 HC3 HQ3 HX3
    go_wp2_with fail
    go_ret
    exact ⟨rfl, HB4.out⟩
end Go.Proofs.YtclbnamlkfgedaaDoor

namespace Go.Proofs.YtclbnamlkfgedaaDoor
open Go.RowKit Go.Shelf Go.Sort
attribute [local go_sem] Oper.semAt_some

/-! ## The law PeelProved -/
/-- What stands while the law makes its proof. -/
structure St (w : World) (l1 l2 p1 p2 c1 c2 : Value) (B7 B15 B17 : Nat) (W : World) (B20 : Nat) (f m t s : Value) : Prop where
  bel : Below w.heap.size w W
  low : w.heap.size ≤ B20
  n7 : B7 ≠ B20
  n15 : B15 ≠ B20
  n17 : B17 ≠ B20
  log : Blk W B7 (.cells #[l1, l2] 25)
  best : Blk W B15 (.cells #[p1, p2] 31)
  core : CellsAt W B17 [c1, c2]
  proof : CellsAt W B20 [f, m, t, s]
  z1 : W.frozen? ⟨B20, 1, none⟩ = false
  z3 : W.frozen? ⟨B20, 3, none⟩ = false
theorem St.side {w W : World} {l1 l2 p1 p2 c1 c2 f m t s : Value} {B7 B15 B17 B20 : Nat} (h : St w l1 l2 p1 p2 c1 c2 B7 B15 B17 W B20 f m t s) (s' : Value) :
    St w l1 l2 p1 p2 c1 c2 B7 B15 B17 (W.setCell ⟨B20, 3, none⟩ s') B20 f m t s' :=
  ⟨h.bel.setCell h.low _, h.low, h.n7, h.n15, h.n17, h.log.other h.n7 _, h.best.other h.n15 _, h.core.other h.n17,
   .four (cell_setIdx (h.proof 0 (by simp)) (by decide)) (cell_setIdx (h.proof 1 (by simp)) (by decide)) (cell_setIdx (h.proof 2 (by simp)) (by decide)) (cell_setSame (h.proof 3 (by simp))), (World.frozen?_setCell _ _ _ _).trans h.z1, (World.frozen?_setCell _ _ _ _).trans h.z3⟩
theorem St.mid {w W : World} {l1 l2 p1 p2 c1 c2 f m t s : Value} {B7 B15 B17 B20 : Nat} (h : St w l1 l2 p1 p2 c1 c2 B7 B15 B17 W B20 f m t s) (m' : Value) :
    St w l1 l2 p1 p2 c1 c2 B7 B15 B17 (W.setCell ⟨B20, 1, none⟩ m') B20 f m' t s :=
  ⟨h.bel.setCell h.low _, h.low, h.n7, h.n15, h.n17, h.log.other h.n7 _, h.best.other h.n15 _, h.core.other h.n17,
   .four (cell_setIdx (h.proof 0 (by simp)) (by decide)) (cell_setSame (h.proof 1 (by simp))) (cell_setIdx (h.proof 2 (by simp)) (by decide)) (cell_setIdx (h.proof 3 (by simp)) (by decide)), (World.frozen?_setCell _ _ _ _).trans h.z1, (World.frozen?_setCell _ _ _ _).trans h.z3⟩
theorem q4z {v : World} {c t : Nat} (hb : Blk v c (.cells #[.int .i64 0, .int .i64 0, .int .i64 0, .int .i64 0] t)) :
    (v.cell? ⟨c, 0, none⟩ = some (.int .i64 0) ∧ v.cell? ⟨c, 1, none⟩ = some (.int .i64 0) ∧ v.cell? ⟨c, 2, none⟩ = some (.int .i64 0) ∧ v.cell? ⟨c, 3, none⟩ = some (.int .i64 0)) ∧
    (v.frozen? ⟨c, 0, none⟩ = false ∧ v.frozen? ⟨c, 1, none⟩ = false ∧ v.frozen? ⟨c, 2, none⟩ = false ∧ v.frozen? ⟨c, 3, none⟩ = false) ∧ c < v.heap.size ∧ ((c = v.heap.size) = False) ∧ ((v.heap.size = c) = False) := by
  have hlt := hb.lt
  exact ⟨⟨by rw [hb.cell]; rfl, by rw [hb.cell]; rfl, by rw [hb.cell]; rfl, by rw [hb.cell]; rfl⟩, ⟨hb.frozen _, hb.frozen _, hb.frozen _, hb.frozen _⟩, hlt, by simp; omega, by simp; omega⟩
theorem bS4o {w W : World} {b : Nat} {u v z y : Value} (h : Below w.heap.size w W) (hb : w.heap.size ≤ b) : Below w.heap.size w ((((W.setCell ⟨b, 0, none⟩ u).setCell ⟨b, 1, none⟩ v).setCell ⟨b, 2, none⟩ z).setCell ⟨b, 3, none⟩ y) :=
  (((h.setCell hb _).setCell hb _).setCell hb _).setCell hb _
theorem tmN (x N : Int) (h0 : 0 ≤ x) (h : 0 < N) : 0 ≤ x.tmod N ∧ x.tmod N < N := by
  rw [Int.tmod_eq_emod_of_nonneg h0]
  exact ⟨Int.emod_nonneg _ (by omega), Int.emod_lt_of_pos _ h⟩
set_option maxRecDepth 1000000 in
set_option maxHeartbeats 40000000 in
theorem PeelProved_any (v : Value) (l : LogD) (one two f m t : Int) (ov : Bool) (w : World) (hN : NoneAt w) (hv : LogAt w v l)
    (g1 : -32768 ≤ one ∧ one ≤ 32767) (g2 : -32768 ≤ two ∧ two ≤ 32767) (g3 : 0 ≤ f ∧ f ≤ 255) (g4 : 0 ≤ m ∧ m ≤ 255) (g5 : 0 ≤ t ∧ t ≤ 255) :
    Calls Tryd.prog 8 #[v, .int .i16 one, .int .i16 two, .int .u8 f, .int .u8 m, .int .u8 t, .bool ov] w fun e w' => e = .returned (.bool true) ∧ Below w.heap.size w w' := by
  obtain ⟨va, ve, rfl, h1, h2⟩ := hv
  obtain ⟨a, cap, rfl⟩ := h1.slice
  obtain ⟨a', cap', rfl⟩ := h2.slice
  have HV : Hid (LogAt w (.agg #[.slice a l.at_.length cap, .slice a' l.edges.length cap']) l) := Lib.hid ⟨_, _, rfl, h1, h2⟩
  have HN := Lib.hid hN
  clear h1 h2 hN
  have hL := Blk.new w (.cells #[.slice a l.at_.length cap, .slice a' l.edges.length cap'] 25)
  have hB0 := below1 w (.cells #[.slice a l.at_.length cap, .slice a' l.edges.length cap'] 25)
  have HL0 := Lib.hid hL
  have HB0 := Lib.hid hB0
  clear hB0 hL
  by_cases h0 : logErr l = 0
  · have HF : Hid (∀ W, LogAt W (.agg #[.slice a l.at_.length cap, .slice a' l.edges.length cap']) l → Calls Tryd.prog 41 #[(.agg #[.slice a l.at_.length cap, .slice a' l.edges.length cap'])] W (Gets (.bool true) W)) := Lib.hid (fun W h => by have := fine_any _ l W h; rw [decide_eq_true h0] at this; exact this)
    have hf := logErr_fit' h0
    have hS : l.small := by unfold LogD.small; have := hf.eight; have := hf.lens _ (List.mem_singleton.2 rfl); omega
    have hn2 := hf.two
    obtain ⟨n, hn⟩ : ∃ n, (bestV l).num = n := ⟨_, rfl⟩
    obtain ⟨d, hd⟩ : ∃ d, ((bestV l).den : Int) = d := ⟨_, rfl⟩
    obtain ⟨t1, t2⟩ := tm_bd one
    obtain ⟨t3, t4⟩ := tm_bd two
    obtain ⟨y, hy⟩ : ∃ y, linedD l (one.tmod 2001) (two.tmod 2001) = y := ⟨_, rfl⟩
    have hle := lined_err hf t1 t2 t3 t4
    have hcb := lined_core hf t1 t2 t3 t4 rfl
    have hyp : 0 < y.1 := by have := lined_bd hf; rw [← hy]; simp only [linedD]; omega
    rw [hy] at hle hcb
    obtain ⟨c, hc⟩ : ∃ c, coreOf l y.1 y.2.1 y.2.2 = c := ⟨_, rfl⟩
    rw [hc] at hcb
    obtain ⟨cn, hcn⟩ : ∃ cn, c.num = cn := ⟨_, rfl⟩
    obtain ⟨cd, hcd⟩ : ∃ cd, (c.den : Int) = cd := ⟨_, rfl⟩
    rw [hcn, hcd] at hcb
    have hce : coreE l y.1 y.2.1 y.2.2 = 0 := by rw [coreE, if_pos h0]; exact hle
    have hcv : coreV l y.1 y.2.1 y.2.2 = .agg #[.int .i64 cn, .int .i64 cd] := by rw [coreV, if_pos hce, hc, qv, hcn, hcd]
    have HBG : Hid (∀ W, NoneAt W → LogAt W (.agg #[.slice a l.at_.length cap, .slice a' l.edges.length cap']) l → Calls Tryd.prog 42 #[(.agg #[.slice a l.at_.length cap, .slice a' l.edges.length cap'])] W (Gets (.tuple #[.agg #[.int .i64 n, .int .i64 d], .bool true]) W)) := Lib.hid (fun W hN h => by have := best_good _ l W hN h h0; rw [qv, hn, hd] at this; exact this)
    have HLI : Hid (∀ W, LogAt W (.agg #[.slice a l.at_.length cap, .slice a' l.edges.length cap']) l → Calls Tryd.prog 43 #[(.agg #[.slice a l.at_.length cap, .slice a' l.edges.length cap']), .int .i16 one, .int .i16 two] W (Gets (.agg #[.int .i64 y.1, .int .i64 y.2.1, .int .i64 y.2.2]) W)) := Lib.hid (fun W h => by have := Lined_any _ l one two W h hf g1 g2; rw [hy] at this; exact this)
    have HCO : Hid (∀ W, LogAt W (.agg #[.slice a l.at_.length cap, .slice a' l.edges.length cap']) l → Calls Tryd.prog 20 #[(.agg #[.slice a l.at_.length cap, .slice a' l.edges.length cap']), .agg #[.int .i64 y.1, .int .i64 y.2.1, .int .i64 y.2.2]] W (Gets (.tuple #[.agg #[.int .i64 cn, .int .i64 cd], .int .i64 0]) W)) := Lib.hid (fun W h => by have := Core_any _ l y.1 y.2.1 y.2.2 W h hS; rw [hcv, hce] at this; exact this)
    have G3 := Lib.hid g3
    have G4 := Lib.hid g4
    have G5 := Lib.hid g5
    have HE0 := Lib.hid h0
    have HNN := Lib.hid hn
    have HDD := Lib.hid hd
    have HC0 := Lib.hid hc
    have HYP := Lib.hid hyp
    have HCN := Lib.hid hcn
    have HCD := Lib.hid hcd
    have HCB := Lib.hid hcb
    have HN2 := Lib.hid hn2
    have H8 := Lib.hid hf.eight
    clear g1 g2 g3 g4 g5 hf hS hn2 hn hd t1 t2 t3 t4 hy hle hcb hyp hc hcn hcd hce hcv h0
    go_enter Tryd.func8, Tryd.ntmps8
    go_wp2_with fail
    refine (HF.out _ (HV.out.below HB0.out)).mono ?_
    rintro e w1x ⟨rfl, hb⟩
    have HB1 := Lib.hid (bC HB0.out hb)
    have HL1 := Lib.hid (HL0.out.below hb)
    clear hb HB0 HL0
    have Lc0 := HL1.out.cell 0
    have Lc1 := HL1.out.cell 1
    simp at Lc0 Lc1
    have Ll := HL1.out.lt
    go_wp2_with fail
    clear Lc0 Lc1 Ll
    refine (HBG.out _ (HN.out.below HB1.out) (HV.out.below HB1.out)).mono ?_
    rintro e w2x ⟨rfl, hb⟩
    have HB2 := Lib.hid (bC HB1.out hb)
    have HL2 := Lib.hid (HL1.out.below hb)
    clear hb HB1 HL1
    have Lc0 := HL2.out.cell 0
    have Lc1 := HL2.out.cell 1
    simp at Lc0 Lc1
    have Ll := HL2.out.lt
    go_wp2_with fail
    clear Lc0 Lc1 Ll
    have hP := Blk.new w2x (.cells #[.int .i64 n, .int .i64 d] 31)
    have hA := below1 w2x (.cells #[.int .i64 n, .int .i64 d] 31)
    generalize w2x.alloc (.cells #[.int .i64 n, .int .i64 d] 31) = W2x at *
    have HP3 := Lib.hid hP
    clear hP
    have HB3 := Lib.hid (bC HB2.out hA)
    have HL3 := Lib.hid (HL2.out.below hA)
    clear hA HB2 HL2
    have u0 := HL3.out.cell 0
    have u1 := HL3.out.cell 1
    simp at u0 u1
    have hl1 := HL3.out.lt
    have HVB := Lib.hid (HV.out.below HB3.out)
    have hb0 : Below W2x.heap.size W2x W2x.drew := (Below.refl _ _).drew
    have HSX : Hid (∀ W, Below W2x.heap.size W2x W → ((W.cell? ⟨w.heap.size, 0, none⟩ = some (.slice a l.at_.length cap) ∧ W.cell? ⟨w.heap.size, 1, none⟩ = some (.slice a' l.edges.length cap')) ∧ Below W2x.heap.size W2x W)) := Lib.hid (fun W h => ⟨⟨cellB u0 h, cellB u1 h⟩, h⟩)
    have hAC : ∀ (W : World) (o : Obj) (b j : Nat), b < W.heap.size → (W.alloc o).cell? ⟨b, j, none⟩ = W.cell? ⟨b, j, none⟩ := fun W o b j h => (below1 W o).cell (p := ⟨b, j, none⟩) h
    have hAF : ∀ (W : World) (o : Obj) (b j : Nat), b < W.heap.size → (W.alloc o).frozen? ⟨b, j, none⟩ = W.frozen? ⟨b, j, none⟩ := fun W o b j h => (below1 W o).frozen (p := ⟨b, j, none⟩) h
    go_cut [17, 18] (fun s3 s4 wx => ∃ c : Nat, s3 = .pointer (some ⟨c, 0, none⟩) ∧ s4 = .int .i64 0 ∧ (wx.cell? ⟨c, 0, none⟩ = some (.int .i64 cn) ∧ wx.cell? ⟨c, 1, none⟩ = some (.int .i64 cd)) ∧ Below W2x.heap.size W2x wx)
    case first =>
      go_region_held3 (fun W => (W.cell? ⟨w.heap.size, 0, none⟩ = some (.slice a l.at_.length cap) ∧ W.cell? ⟨w.heap.size, 1, none⟩ = some (.slice a' l.edges.length cap')) ∧ Below W2x.heap.size W2x W)
        (((with_reducible refine HSX.out _ ?_); (repeat' (first | (with_reducible assumption) | (with_reducible refine Below.refl _ _) | (with_reducible refine Below.drew ?_) | (with_reducible refine bA ?_) | (with_reducible refine bS2o ?_ ?_) | omega))))
        (first | (go_at_call 43; (with_reducible refine (HLI.out _ (HVB.out.below ?_)).mono ?_); (repeat' (first | (with_reducible assumption) | (with_reducible refine Below.refl _ _) | (with_reducible refine Below.drew ?_) | (with_reducible refine bA ?_) | (with_reducible refine bS2o ?_ ?_) | omega)); rintro e v2 ⟨rfl, hc2⟩; obtain ⟨hB2x, hz2x⟩ : Below W2x.heap.size W2x v2 ∧ W2x.heap.size ≤ v2.heap.size := bC2 (by (repeat' (first | (with_reducible assumption) | (with_reducible refine Below.refl _ _) | (with_reducible refine Below.drew ?_) | (with_reducible refine bA ?_) | (with_reducible refine bS2o ?_ ?_) | omega))) hc2; (try (have ka2 := n1 hc2; (try simp only [World.size_alloc] at ka2); obtain ⟨ka21, ka22, ⟨ka23, ka24⟩, ka25, ka26, ka27⟩ := q2 ka2)); (try (have kb2 := n1d hc2; (try simp only [World.size_alloc] at kb2); obtain ⟨kb21, kb22, ⟨kb23, kb24⟩, kb25, kb26, kb27⟩ := q2 kb2)); clear hc2) | (go_at_call 20; (with_reducible refine (HCO.out _ (HVB.out.below ?_)).mono ?_); (repeat' (first | (with_reducible assumption) | (with_reducible refine Below.refl _ _) | (with_reducible refine Below.drew ?_) | (with_reducible refine bA ?_) | (with_reducible refine bS2o ?_ ?_) | omega)); rintro e v3 ⟨rfl, hc3⟩; obtain ⟨hB3x, hz3x⟩ : Below W2x.heap.size W2x v3 ∧ W2x.heap.size ≤ v3.heap.size := bC2 (by (repeat' (first | (with_reducible assumption) | (with_reducible refine Below.refl _ _) | (with_reducible refine Below.drew ?_) | (with_reducible refine bA ?_) | (with_reducible refine bS2o ?_ ?_) | omega))) hc3; (try (have ka3 := n1 hc3; (try simp only [World.size_alloc] at ka3); obtain ⟨ka31, ka32, ⟨ka33, ka34⟩, ka35, ka36, ka37⟩ := q2 ka3)); (try (have kb3 := n1d hc3; (try simp only [World.size_alloc] at kb3); obtain ⟨kb31, kb32, ⟨kb33, kb34⟩, kb35, kb36, kb37⟩ := q2 kb3)); (try (have kc3 := oldB ka2 hc3; (try simp only [World.size_alloc] at kc3); obtain ⟨kc31, kc32, ⟨kc33, kc34⟩, kc35, kc36, kc37⟩ := q2 kc3)); (try (have kd3 := oldB kb2 hc3; (try simp only [World.size_alloc] at kd3); obtain ⟨kd31, kd32, ⟨kd33, kd34⟩, kd35, kd36, kd37⟩ := q2 kd3)); clear hc3))
      all_goals (go_wp2_with fail; go_meet; refine ⟨_, rfl, rfl, ?_, ?_⟩)
      all_goals (go_split_ands; first | (with_reducible assumption) | (go_simp; done) | (simp [*]; done) | omega | (simp; omega) | ((repeat' (first | (with_reducible assumption) | (with_reducible refine Below.refl _ _) | (with_reducible refine Below.drew ?_) | (with_reducible refine bA ?_) | (with_reducible refine bS2o ?_ ?_) | omega)); done))
    obtain ⟨c1, rfl, rfl, hc1, hW⟩ := hcut
    rename World => W5
    have HL5 := Lib.hid (HL3.out.below hW)
    have HP5 := Lib.hid (HP3.out.below hW)
    have HC5 := Lib.hid (CellsAt.two hc1.1 hc1.2)
    have HB5 := Lib.hid (bC HB3.out hW)
    clear hW hc1 HSX hAC hAF hb0 u0 u1 hl1 HL3 HP3 HB3 HVB
    have u0 := HL5.out.cell 0
    have u1 := HL5.out.cell 1
    simp at u0 u1
    have hl1 := HL5.out.lt
    go_wp2_with fail
    clear u0 u1 hl1
    obtain ⟨N, hN⟩ : ∃ N : Int, (l.at_.length : Int) = N := ⟨_, rfl⟩
    rw [hN]
    have hN1 : 2 ≤ N := by have := HN2.out; omega
    have hN2 : N ≤ 8 := by have := H8.out; omega
    have hz : (N == 0) = false := by simp; omega
    have hz' : ¬ N = 0 := by omega
    have G3' := G3.out
    have G4' := G4.out
    have G5' := G5.out
    have tf := tmN f N G3'.1 (by omega)
    have tm := tmN m N G4'.1 (by omega)
    have tt := tmN t N G5'.1 (by omega)
    have r1 : IntKind.i64.wrap f = f := IntWalk.i64_in _ (by omega)
    have r2 : IntKind.i64.wrap m = m := IntWalk.i64_in _ (by omega)
    have r3 : IntKind.i64.wrap t = t := IntWalk.i64_in _ (by omega)
    have r4 : IntKind.i64.wrap (f.tmod N) = f.tmod N := IntWalk.i64_in _ (by omega)
    have r5 : IntKind.i64.wrap (m.tmod N) = m.tmod N := IntWalk.i64_in _ (by omega)
    have r6 : IntKind.i64.wrap (t.tmod N) = t.tmod N := IntWalk.i64_in _ (by omega)
    have HTF := Lib.hid tf
    have HTM := Lib.hid tm
    have HTT := Lib.hid tt
    clear G3' G4' G5' tf tm tt hN1 hN2
    have HNN' := Lib.hid hN
    clear hN
    obtain ⟨F, hF⟩ : ∃ F, f.tmod N = F := ⟨_, rfl⟩
    obtain ⟨M, hM⟩ : ∃ M, m.tmod N = M := ⟨_, rfl⟩
    obtain ⟨T, hT⟩ : ∃ T, t.tmod N = T := ⟨_, rfl⟩
    rw [hF] at r4 HTF
    rw [hM] at r5 HTM
    rw [hT] at r6 HTT
    have hb0 : Below W5.heap.size W5 W5.drew := (Below.refl _ _).drew
    have hAC : ∀ (W : World) (o : Obj) (b j : Nat), b < W.heap.size → (W.alloc o).cell? ⟨b, j, none⟩ = W.cell? ⟨b, j, none⟩ := fun W o b j h => (below1 W o).cell (p := ⟨b, j, none⟩) h
    have hAF : ∀ (W : World) (o : Obj) (b j : Nat), b < W.heap.size → (W.alloc o).frozen? ⟨b, j, none⟩ = W.frozen? ⟨b, j, none⟩ := fun W o b j h => (below1 W o).frozen (p := ⟨b, j, none⟩) h
    have HSX : Hid (∀ W, Below W5.heap.size W5 W → (W5.heap.size ≤ W.heap.size ∧ Below W5.heap.size W5 W)) := Lib.hid (fun W h => ⟨h.size, h⟩)
    go_cut [20] (fun s3 wx => ∃ c : Nat, s3 = .pointer (some ⟨c, 0, none⟩) ∧ W5.heap.size ≤ c ∧ (wx.cell? ⟨c, 0, none⟩ = some (.int .i64 F) ∧ wx.cell? ⟨c, 1, none⟩ = some (.int .i64 M) ∧ wx.cell? ⟨c, 2, none⟩ = some (.int .i64 T) ∧ wx.cell? ⟨c, 3, none⟩ = some (.int .i64 1)) ∧ (wx.frozen? ⟨c, 1, none⟩ = false ∧ wx.frozen? ⟨c, 3, none⟩ = false) ∧ Below W5.heap.size W5 wx)
    case first =>
      go_region_held3 (fun W => W5.heap.size ≤ W.heap.size ∧ Below W5.heap.size W5 W)
        (((with_reducible refine HSX.out _ ?_); (repeat' (first | (with_reducible assumption) | (with_reducible refine Below.refl _ _) | (with_reducible refine Below.drew ?_) | (with_reducible refine bA ?_) | (with_reducible refine bS4o ?_ ?_) | omega))))
        (first | (go_at_call 44; (with_reducible refine (proof_any _ _ _ _ _).mono ?_); rintro e v2 ⟨rfl, hc2⟩; obtain ⟨hB2x, hz2x⟩ : Below W5.heap.size W5 v2 ∧ W5.heap.size ≤ v2.heap.size := bC2 (by (repeat' (first | (with_reducible assumption) | (with_reducible refine Below.refl _ _) | (with_reducible refine Below.drew ?_) | (with_reducible refine bA ?_) | (with_reducible refine bS4o ?_ ?_) | omega))) hc2; (try (have ka2 := n1 hc2; (try simp only [World.size_alloc] at ka2); obtain ⟨⟨ka21, ka22, ka23, ka24⟩, ⟨ka25, ka26, ka27, ka28⟩, ka29, ka30, ka31⟩ := q4z ka2)); (try (have kb2 := n1d hc2; (try simp only [World.size_alloc] at kb2); obtain ⟨⟨kb21, kb22, kb23, kb24⟩, ⟨kb25, kb26, kb27, kb28⟩, kb29, kb30, kb31⟩ := q4z kb2)); clear hc2))
      all_goals (go_wp2_with fail; go_meet; refine ⟨_, rfl, ?_, ?_, ?_, ?_⟩)
      all_goals (go_split_ands; first | (with_reducible assumption) | (go_simp; done) | (simp [*]; done) | omega | (simp; omega) | ((repeat' (first | (with_reducible assumption) | (with_reducible refine Below.refl _ _) | (with_reducible refine Below.drew ?_) | (with_reducible refine bA ?_) | (with_reducible refine bS4o ?_ ?_) | omega)); done))
    obtain ⟨B, rfl, hBW, hq, hz13, hW⟩ := hcut
    rename World => W6
    have hst : St w (.slice a l.at_.length cap) (.slice a' l.edges.length cap') (.int .i64 n) (.int .i64 d) (.int .i64 cn) (.int .i64 cd) w.heap.size (w2x.heap.size) c1 W6 B (.int .i64 F) (.int .i64 M) (.int .i64 T) (.int .i64 1) := by
      have a1 := HL5.out.lt
      have a2 := HP5.out.lt
      have a3 := HC5.out.lt
      have a4 := HB5.out.size
      exact ⟨bC HB5.out hW, by omega, by omega, by omega, by omega, HL5.out.below hW, HP5.out.below hW, HC5.out.below hW, .four hq.1 hq.2.1 hq.2.2.1 hq.2.2.2, hz13.1, hz13.2⟩
    have HST := Lib.hid hst
    clear hst hW hq hz13 hBW HSX hAC hAF hb0 hF hM hT r1 r2 r3 r4 r5 r6 hz hz' HL5 HP5 HC5 HB5
    go_upto_if 57 with (fail)
    go_cut [20] (fun s3 wx => s3 = .pointer (some ⟨B, 0, none⟩) ∧ St w (.slice a l.at_.length cap) (.slice a' l.edges.length cap') (.int .i64 n) (.int .i64 d) (.int .i64 cn) (.int .i64 cd) w.heap.size (w2x.heap.size) c1 wx B (.int .i64 F) (.int .i64 M) (.int .i64 T) (.int .i64 (if ov then 2 else 1)))
    case first =>
      cases ov
      · go_wp2_with fail
        go_meet
        exact ⟨rfl, HST.out⟩
      · have p3 := HST.out.proof 3 (by simp)
        have z3 := HST.out.z3
        simp at p3
        go_wp2_with fail
        go_meet
        exact ⟨rfl, HST.out.side _⟩
    obtain ⟨rfl, hst⟩ := hcut
    rename World => W7
    have HST7 := Lib.hid hst
    have p0 := hst.proof 0 (by simp)
    have p2 := hst.proof 2 (by simp)
    have pl := hst.proof.lt
    simp at p0 p2
    clear hst HST
    go_upto_if 63 with (fail)
    clear p0 p2 pl
    go_cut [20] (fun s3 wx => s3 = .pointer (some ⟨B, 0, none⟩) ∧ St w (.slice a l.at_.length cap) (.slice a' l.edges.length cap') (.int .i64 n) (.int .i64 d) (.int .i64 cn) (.int .i64 cd) w.heap.size (w2x.heap.size) c1 wx B (.int .i64 F) (.int .i64 (if F = T then F else M)) (.int .i64 T) (.int .i64 (if F = T then 0 else if ov then 2 else 1)))
    case first =>
      by_cases hFT : F = T
      · have e : (F == T) = true := by simp [hFT]
        have p0 := HST7.out.proof 0 (by simp)
        have p1 := HST7.out.proof 1 (by simp)
        have p3 := HST7.out.proof 3 (by simp)
        have z1 := HST7.out.z1
        have z3 := HST7.out.z3
        simp at p0 p1 p3
        have hR := Lib.hid hFT
        clear hFT
        go_wp2_with fail
        go_meet
        have hFT := hR.out
        refine ⟨rfl, ?_⟩
        rw [if_pos hFT, if_pos hFT]
        exact (HST7.out.mid _).side _
      · have e : (F == T) = false := by simp [hFT]
        have hR := Lib.hid hFT
        clear hFT
        go_wp2_with fail
        go_meet
        have hFT := hR.out
        refine ⟨rfl, ?_⟩
        rw [if_neg hFT, if_neg hFT]
        exact HST7.out
    obtain ⟨rfl, hst⟩ := hcut
    rename World => W8
    rename_i hk
    exact hk _ _ (proved_b w _ l a a' cap cap' c y.1 y.2.1 y.2.2 n d cn cd ⟨F, if F = T then F else M, T, if F = T then 0 else if ov then 2 else 1⟩ _ _ _ _ HV.out HN.out hst.bel HE0.out HNN.out HDD.out HC0.out HYP.out HCN.out HCD.out HCB.out hst.log hst.best hst.core hst.proof _ _ _ _ _ _ _ _ _ _ _ _ _ _ _ _ _ _ _ _ _ _ _ _ _ _ _ _ _ _ _ _ _ _ _ _ _ _ _ _ _ _ _ _ _ _ _ _ _ _ _ _ _ _ _ _ _ _ _ _ _ _ _ _ _ _ _ _ _ _ _ _ _ _ _ _ _ _ _ _ _ _ _ _ _ _ _ _ _ _ _ _ _ _ _ _ _ _ _ _ _ _ _ _ _ _ _ _ _ _ _ _ _ _ _ _ _ _ _ _ _ _ _ _ _ _ _ _)
  · have HF : Hid (∀ W, LogAt W (.agg #[.slice a l.at_.length cap, .slice a' l.edges.length cap']) l → Calls Tryd.prog 41 #[(.agg #[.slice a l.at_.length cap, .slice a' l.edges.length cap'])] W (Gets (.bool false) W)) := Lib.hid (fun W h => by have := fine_any _ l W h; rw [decide_eq_false h0] at this; exact this)
    clear h0 g1 g2 g3 g4 g5
    go_enter Tryd.func8, Tryd.ntmps8
    go_wp2_with fail
    refine (HF.out _ (HV.out.below HB0.out)).mono ?_
    rintro e w1x ⟨rfl, hb⟩
    have HB1 := Lib.hid (bC HB0.out hb)
    have HL1 := Lib.hid (HL0.out.below hb)
    clear hb HB0 HL0
    go_wp2_with fail
    refine (Works_any _ (HN.out.below HB1.out)).mono ?_
    rintro e w2x ⟨rfl, hb⟩
    have HB2 := Lib.hid (bC HB1.out hb)
    have HL2 := Lib.hid (HL1.out.below hb)
    clear hb HB1 HL1
    go_wp2_with fail
    go_ret
    exact ⟨rfl, HB2.out⟩
end Go.Proofs.YtclbnamlkfgedaaDoor
