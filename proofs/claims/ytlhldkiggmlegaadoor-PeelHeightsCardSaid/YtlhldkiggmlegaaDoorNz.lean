import Derived.Test.YtlhldkiggmlegaaDoorNx
import Derived.Test.YtlhldkiggmlegaaDoorRows
import Derived.Test.YtlhldkiggmlegaaDoorCards
import Derived.Test.YtlhldkiggmlegaaDoorTie
import Derived.ProofKit
import Derived.LaidMore
import Derived.OpenShut
import Derived.Stop.Joined
import Derived.Carry
import Derived.Lib.SmallJoins
import Derived.Deep.Slices
import Derived.Deep.Fields
import Derived.ChangeSame
import Derived.SevenTiedAt
namespace Go.Proofs.YtlhldkiggmlegaaDoor
open Go.RowKit Go.Shelf Go.Sort
attribute [local go_sem] Oper.semAt_some

/-! ## The law PeelLogs -/
theorem great_yes (v : Value) (l : LogD) (w : World) (hv : LogAt w v l) (h : 12 < l.at_.length ∨ 12 < l.edges.length) :
    Calls Tryd.prog 18 #[v] w fun e w' => e = .returned (.bool true) ∧ Below w.heap.size w w' := by
  obtain ⟨va, ve, rfl, hA, hE⟩ := hv
  obtain ⟨a, cap, rfl⟩ := hA.slice
  obtain ⟨a', cap', rfl⟩ := hE.slice
  clear hA hE
  by_cases h1 : 12 < l.at_.length
  · have hd : decide ((12 : Int) < (l.at_.length : Int)) = true := by simp; omega
    go_enter Tryd.func18, Tryd.ntmps18
    go_wp2
    go_ret
    exact ⟨rfl, below1 _ _⟩
  · have h2 : 12 < l.edges.length := by omega
    have hd : decide ((12 : Int) < (l.at_.length : Int)) = false := by simp; omega
    have hd2 : decide ((12 : Int) < (l.edges.length : Int)) = true := by simp; omega
    clear h
    go_enter Tryd.func18, Tryd.ntmps18
    go_wp2
    go_ret
    exact ⟨rfl, below1 _ _⟩
theorem great_no (v : Value) (l : LogD) (w : World) (hv : LogAt w v l) (h1 : l.at_.length ≤ 12) (h2 : l.edges.length ≤ 12) :
    Calls Tryd.prog 18 #[v] w fun e w' => e = .returned (.bool false) ∧ Below w.heap.size w w' := by
  obtain ⟨va, ve, rfl, hA, hE⟩ := hv
  obtain ⟨a, cap, rfl⟩ := hA.slice
  obtain ⟨a', cap', rfl⟩ := hE.slice
  clear hA hE
  have hd : decide ((12 : Int) < (l.at_.length : Int)) = false := by simp; omega
  have hd2 : decide ((12 : Int) < (l.edges.length : Int)) = false := by simp; omega
  go_enter Tryd.func18, Tryd.ntmps18
  go_wp2
  go_ret
  exact ⟨rfl, below1 _ _⟩
theorem coreV_agg (l : LogD) (den start step : Int) : ∃ n d : Int, coreV l den start step = .agg #[.int .i64 n, .int .i64 d] := by
  unfold coreV
  split
  · exact ⟨_, _, rfl⟩
  · exact ⟨_, _, rfl⟩
set_option maxRecDepth 100000 in
set_option maxHeartbeats 4000000 in
theorem PeelLogs_any (v : Value) (l : LogD) (den start step : Int) (w : World) (hN : NoneAt w) (hv : LogAt w v l) :
    Calls Tryd.prog 3 #[v, .agg #[.int .i64 den, .int .i64 start, .int .i64 step]] w fun e w' => e = .returned (.bool true) ∧ Below w.heap.size w w' := by
  obtain ⟨va, ve, rfl, h1, h2⟩ := hv
  obtain ⟨a, cap, rfl⟩ := h1.slice
  obtain ⟨a', cap', rfl⟩ := h2.slice
  have HV : Hid (LogAt w (.agg #[.slice a l.at_.length cap, .slice a' l.edges.length cap']) l) := Lib.hid ⟨_, _, rfl, h1, h2⟩
  have HN := Lib.hid hN
  have bl := (Blk.new w (.cells #[.slice a l.at_.length cap, .slice a' l.edges.length cap'] 25)).alloc (.cells #[.int .i64 den, .int .i64 start, .int .i64 step] 27)
  have bx := Blk.new (w.alloc (.cells #[.slice a l.at_.length cap, .slice a' l.edges.length cap'] 25)) (.cells #[.int .i64 den, .int .i64 start, .int .i64 step] 27)
  have hB0 := below2 w (.cells #[.slice a l.at_.length cap, .slice a' l.edges.length cap'] 25) (.cells #[.int .i64 den, .int .i64 start, .int .i64 step] 27)
  simp only [World.size_alloc] at bx
  have HBL := Lib.hid bl
  have HBX := Lib.hid bx
  have HB0 := Lib.hid hB0
  clear bl bx hB0 h1 h2 hN
  by_cases hg : 12 < l.at_.length ∨ 12 < l.edges.length
  · have HG := Lib.hid hg
    clear hg
    go_enter Tryd.func3, Tryd.ntmps3
    go_wp2_with fail
    refine (great_yes _ l _ (HV.out.below HB0.out) HG.out).mono ?_
    rintro e w1 ⟨rfl, hb1⟩
    have HB1 := Lib.hid (bC HB0.out hb1)
    clear hb1
    go_wp2_with fail
    refine (Works_any _ (HN.out.below HB1.out)).mono ?_
    rintro e w2 ⟨rfl, hb2⟩
    have HB2 := Lib.hid (bC HB1.out hb2)
    clear hb2
    go_wp2
    go_ret
    exact ⟨rfl, HB2.out⟩
  · have hs : l.small := by unfold LogD.small; omega
    have HS := Lib.hid hs
    have HG1 := Lib.hid (show l.at_.length ≤ 12 by omega)
    have HG2 := Lib.hid (show l.edges.length ≤ 12 by omega)
    clear hg hs
    obtain ⟨n, d, hnd⟩ := coreV_agg l den start step
    have HND := Lib.hid hnd
    clear hnd
    have HC1 := Lib.hid (fun W (h : LogAt W (.agg #[.slice a l.at_.length cap, .slice a' l.edges.length cap']) l) => HND.out ▸ Core_any _ l den start step W h HS.out)
    have HC2 := Lib.hid (fun W (h : LogAt W (.agg #[.slice a l.at_.length cap, .slice a' l.edges.length cap']) l) => HND.out ▸ rCore_any _ l den start step W h HS.out)
    go_enter Tryd.func3, Tryd.ntmps3
    go_wp2_with fail
    refine (great_no _ l _ (HV.out.below HB0.out) HG1.out HG2.out).mono ?_
    rintro e w1 ⟨rfl, hb1⟩
    have HB1 := Lib.hid (bC HB0.out hb1)
    have L1 := Lib.hid (HBL.out.below hb1)
    have X1 := Lib.hid (HBX.out.below hb1)
    clear hb1
    have l0 := L1.out.cell 0
    have l1 := L1.out.cell 1
    have x0 := X1.out.cell 0
    have x1 := X1.out.cell 1
    have x2 := X1.out.cell 2
    have xl := X1.out.lt
    have ll := L1.out.lt
    simp at l0 l1 x0 x1 x2
    go_wp2_with fail
    refine (HC1.out _ (HV.out.below HB1.out)).mono ?_
    rintro e w2 ⟨rfl, hb2⟩
    have HB2 := Lib.hid (bC HB1.out hb2)
    have L2 := Lib.hid (L1.out.below hb2)
    have X2 := Lib.hid (X1.out.below hb2)
    clear hb2 l0 l1 x0 x1 x2 xl ll
    have l0 := L2.out.cell 0
    have l1 := L2.out.cell 1
    have x0 := X2.out.cell 0
    have x1 := X2.out.cell 1
    have x2 := X2.out.cell 2
    have xl := X2.out.lt
    have ll := L2.out.lt
    simp at l0 l1 x0 x1 x2
    go_wp2_with fail
    have n5 := Lib.hid (Blk.new w2 (.cells #[.int .i64 n, .int .i64 d] 31))
    have hb3 := below1 w2 (.cells #[.int .i64 n, .int .i64 d] 31)
    generalize w2.alloc (.cells #[.int .i64 n, .int .i64 d] 31) = w3 at *
    have HB3 := Lib.hid (bC HB2.out hb3)
    have L3 := Lib.hid (L2.out.below hb3)
    have X3 := Lib.hid (X2.out.below hb3)
    clear hb3 l0 l1 x0 x1 x2 xl ll
    refine (HC2.out _ (HV.out.below HB3.out)).mono ?_
    rintro e w4 ⟨rfl, hb4⟩
    have HB4 := Lib.hid (bC HB3.out hb4)
    have L4 := Lib.hid (L3.out.below hb4)
    have X4 := Lib.hid (X3.out.below hb4)
    have N4 := Lib.hid (n5.out.below hb4)
    clear hb4 n5
    go_wp2_with fail
    have n7 := Lib.hid (Blk.new w4 (.cells #[.int .i64 n, .int .i64 d] 31))
    have hb5 := below1 w4 (.cells #[.int .i64 n, .int .i64 d] 31)
    generalize w4.alloc (.cells #[.int .i64 n, .int .i64 d] 31) = w5 at *
    have HB5 := Lib.hid (bC HB4.out hb5)
    have L5 := Lib.hid (L4.out.below hb5)
    have X5 := Lib.hid (X4.out.below hb5)
    have N5 := Lib.hid (N4.out.below hb5)
    clear hb5
    have l0 := L5.out.cell 0
    have l1 := L5.out.cell 1
    have x0 := X5.out.cell 0
    have x1 := X5.out.cell 1
    have x2 := X5.out.cell 2
    have y0 := N5.out.cell 0
    have y1 := N5.out.cell 1
    have z0 := n7.out.cell 0
    have z1 := n7.out.cell 1
    simp at l0 l1 x0 x1 x2 y0 y1 z0 z1
    have g1 := fun d os => cell_regrown l0 d os
    have g2 := fun d os => cell_regrown l1 d os
    have g3 := fun d os => cell_regrown x0 d os
    have g4 := fun d os => cell_regrown x1 d os
    have g5 := fun d os => cell_regrown x2 d os
    have g6 := fun d os => cell_regrown y0 d os
    have g7 := fun d os => cell_regrown y1 d os
    have g8 := fun d os => cell_regrown z0 d os
    have g9 := fun d os => cell_regrown z1 d os
    have hk1 := fun (dr : Nat) (os : Array Obj) => Calls.regrown_of (CheckLog_any _ l (grow (redrawn w5 dr) os) ((HV.out.below HB5.out).below (below_regrown w5 dr os)) HS.out)
    have hk2 := fun (dr : Nat) (os : Array Obj) => Calls.regrown_of (rCheckLog_any _ l (grow (redrawn w5 dr) os) ((HV.out.below HB5.out).below (below_regrown w5 dr os)) HS.out)
    have hk3 := fun (dr : Nat) (os : Array Obj) => Calls.regrown_of (CheckLine_any den start step (grow (redrawn w5 dr) os))
    have hk4 := fun (dr : Nat) (os : Array Obj) => Calls.regrown_of (rCheckLine_any den start step (grow (redrawn w5 dr) os))
    have hk5 := fun (dr : Nat) (os : Array Obj) => Calls.regrown_of (Works_any (grow (redrawn w5 dr) os) ((HN.out.below HB5.out).below (below_regrown w5 dr os)))
    have heq := fun w => pair_eq n d w
    refine wp_region_quiet_below (by kernel_rfl) (by kernel_rfl) ?_
    repeat (quiet_step (first | (go_at_call 22; exact hk1 _ _) | (go_at_call 23; exact hk2 _ _) | (go_at_call 24; exact hk3 _ _) | (go_at_call 25; exact hk4 _ _) | (go_at_call 19; exact hk5 _ _)))
    refine wpQuiet_nil ?_
    intro _ hw'
    obtain ⟨⟨dq, osq⟩, hw''⟩ := hw'
    subst hw''
    have HBF := Lib.hid (bC HB5.out (below_regrown w5 dq osq))
    clear g1 g2 g3 g4 g5 g6 g7 g8 g9 hk1 hk2 hk3 hk4 hk5 heq
    generalize grow (redrawn w5 dq) osq = w6 at *
    go_wp2
    go_ret
    exact ⟨rfl, HBF.out⟩
end Go.Proofs.YtlhldkiggmlegaaDoor

namespace Go.Proofs.YtlhldkiggmlegaaDoor
open Go.ChangeShapes Go.WideShapes Go.ChangeAt Go.WideMaps Go.WideElems Go.RowKit Go.Deep Go.Joins

/-! ## What the rows share -/
theorem own : ownKnob Tryd.prog.godebug = none := by kernel_rfl
theorem gNone : Tryd.prog.globalNamed "crossband/peel.none" = some 0 := by kernel_rfl
theorem tNone : (Tryd.prog.globals[0]?).map (·.type) = some 102 := by kernel_rfl
theorem uArr : Tryd.prog.underlying 102 = some (.array 3 3) := by kernel_rfl
theorem uInt : Tryd.prog.underlying 3 = some (.int .i64) := by kernel_rfl
theorem uI64 : Tryd.prog.underlying 2 = some (.int .i64) := by kernel_rfl
abbrev laidN : List (String × DataW Unit) := [("crossband/peel.none", Rows.laid_crossband_peel_none)]
theorem door_met (os : Os) (args : Array Value) : laidMetH Tryd.prog laidN ((World.doorLaid Tryd.prog 14 os).forCall (fun _ _ => 0) ⟨#[], args, []⟩).memory :=
  laidMetH_of_parts3 (fuel := 8) (laidMet_of_run' 8 (by kernel_rfl) (by kernel_rfl)) (by kernel_rfl) (by kernel_rfl)
theorem three_of {α : Type} {l : List α} (h : l.length = 3) : ∃ a b c, l = [a, b, c] := by
  match l, h with
  | [a, b, c], _ => exact ⟨a, b, c, rfl⟩
set_option maxRecDepth 100000 in
theorem none_of_laid {W : World} (h : laidMetH Tryd.prog laidN W) : NoneAt W := by
  rw [MakeChecks.laidMetH_plain _ _ _ (by kernel_rfl)] at h
  obtain ⟨ps, ⟨g0, t0, cs0, f0, p0, q0, hg0, ht0, hv0, hd0, _, _⟩, _, _⟩ := h
  obtain rfl := Option.some.inj (gNone.symm.trans hg0)
  obtain rfl := Option.some.inj (tNone.symm.trans ht0)
  obtain ⟨xs, m1, rfl, hx1, hlen, hn3, hel⟩ := DataW.trod_array uArr hd0
  have c3 : Tryd.prog.cellsOf 3 = 1 := by kernel_rfl
  have c24 : Tryd.prog.cellsOf 102 = 3 := by kernel_rfl
  have h0 := hel 0 (by decide)
  have h1 := hel 1 (by decide)
  have h2 := hel 2 (by decide)
  simp only [Prod.mk.injEq] at hx1
  have var := fun j => World.var?_cell hg0 hv0 j
  obtain ⟨l0⟩ := cs0
  rw [c24] at hlen
  obtain ⟨x0, x1, x2, rfl⟩ := three_of hn3
  obtain ⟨k0, k1, k2, rfl⟩ := three_of (show l0.length = 3 from hlen)
  simp only [Rows.laid_crossband_peel_none, List.map_cons, List.map_nil, DataW.agg.injEq, List.cons.injEq] at hx1
  rw [c3] at h0 h1 h2
  obtain ⟨n0, e0, f0, _⟩ := DataW.trod_int uInt (show DataW.trod _ Tryd.prog W 0 _ false m1 3 _ = some x0 from h0)
  obtain ⟨n1, e1, f1, _⟩ := DataW.trod_int uInt (show DataW.trod _ Tryd.prog W 0 _ false m1 3 _ = some x1 from h1)
  obtain ⟨n2, e2, f2, _⟩ := DataW.trod_int uInt (show DataW.trod _ Tryd.prog W 0 _ false m1 3 _ = some x2 from h2)
  have k0' : n0 = -1 := by have := hx1.1.1; rw [f0] at this; simpa using this.symm
  have k1' : n1 = -1 := by have := hx1.1.2.1; rw [f1] at this; simpa using this.symm
  have k2' : n2 = -1 := by have := hx1.1.2.2.1; rw [f2] at this; simpa using this.symm
  subst k0' k1' k2'
  have v0 := var 0
  have v1 := var 1
  have v2 := var 2
  simp at e0 e1 e2 v0 v1 v2
  subst e0 e1 e2
  exact ⟨v0, v1, v2⟩

/-! ## Arguments that are opened -/
section
variable {H : Type} {enc : TypeId × Value → H}
theorem list_of {α : Type} {P : Nat → α → Prop} : ∀ (n : Nat), (∀ i, i < n → ∃ x, P i x) → ∃ l : List α, l.length = n ∧ ∀ i (h : i < l.length), P i l[i]
  | 0, _ => ⟨[], rfl, fun i h => absurd h (Nat.not_lt_zero _)⟩
  | n + 1, h => by
    obtain ⟨l, hl, hp⟩ := list_of n (fun i hi => h i (by omega))
    obtain ⟨x, hx⟩ := h n (by omega)
    refine ⟨l ++ [x], by simp [hl], fun i hi => ?_⟩
    by_cases e : i < l.length
    · rw [List.getElem_append_left e]; exact hp i e
    · have : i = n := by simp at hi; omega
      subst this
      rw [List.getElem_append_right (by omega)]
      simp only [hl, Nat.sub_self, List.getElem_cons_zero]
      exact hx
theorem add_cell {W : World} {a : Addr} {v : Value} {i : Nat} (hs : a.spot = none) (h : W.cell? (a.add i) = some v) : W.cell? ⟨a.block, a.off + i, none⟩ = some v := by
  obtain ⟨b, o, s⟩ := a
  simp only at hs
  subst hs
  by_cases h0 : i = 0
  · subst h0; simpa [Addr.add] using h
  · simpa [Addr.add, h0] using h
theorem ints_of_trod {W : World} {held : Bool} {n : Nat} {v : Value} {y : DataW H × List MemPlace} (h : DataW.trod enc Tryd.prog W 0 (fun _ => true) held n 22 [v] = some y) : ∃ l : List Int, IntsAt W v l := by
  rcases open_ints (show Tryd.prog.underlying 22 = some (.slice 2) by kernel_rfl) uI64 (by kernel_rfl) h with ⟨h1, _⟩ | ⟨a, len, cap, zs, h1, _, h3, _, h5, _, h7, _⟩
  · obtain rfl : v = .slice none 0 0 := by simpa using h1
    exact ⟨[], none, 0, rfl, fun h => absurd rfl h⟩
  · obtain rfl : v = .slice (some a) len cap := by simpa using h1
    simp only [if_true] at h5
    refine ⟨zs.take len, some a, cap, by simp; omega, fun hne => ?_⟩
    have hl : 0 < len := by
      rcases Nat.eq_zero_or_pos len with h | h
      · subst h; exact absurd (List.take_zero) hne
      · exact h
    have hsp : a.spot = none := by
      have := h7 0 (by omega)
      simpa [Addr.add] using World.cell?_spot this
    refine ⟨a.block, a.off, by cases a; simp_all, fun i hi => ?_⟩
    simp only [List.length_take] at hi
    have := add_cell hsp (h7 i (by omega))
    rw [this]
    simp [List.getD_eq_getElem?_getD, List.getElem?_eq_getElem (show i < zs.length by omega)]
theorem uRange : ∃ f0 f1 : Field, Tryd.prog.underlying 69 = some (.struct #[f0, f1]) ∧ f0.type = 2 ∧ f1.type = 2 ∧ oneCellFields Tryd.prog #[f0, f1] = true := ⟨_, _, Tryd.underlying69, rfl, rfl, by kernel_rfl⟩
theorem uLog : ∃ f0 f1 : Field, Tryd.prog.underlying 25 = some (.struct #[f0, f1]) ∧ f0.type = 22 ∧ f1.type = 23 ∧ oneCellFields Tryd.prog #[f0, f1] = true := ⟨_, _, Tryd.underlying25, rfl, rfl, by kernel_rfl⟩
theorem uLine : ∃ f0 f1 f2 : Field, Tryd.prog.underlying 27 = some (.struct #[f0, f1, f2]) ∧ f0.type = 2 ∧ f1.type = 2 ∧ f2.type = 2 ∧ oneCellFields Tryd.prog #[f0, f1, f2] = true := ⟨_, _, _, Tryd.underlying27, rfl, rfl, rfl, by kernel_rfl⟩
set_option maxRecDepth 100000 in
theorem pairs_of_trod {W : World} {held : Bool} {n : Nat} {v : Value} {y : DataW H × List MemPlace} (h : DataW.trod enc Tryd.prog W 0 (fun _ => true) held n 23 [v] = some y) : ∃ l : List (Int × Int), PairsAt W v l := by
  obtain ⟨f0, f1, hu, t0, t1, hone⟩ := uRange
  have hC : Tryd.prog.cellsOf 69 = 2 := by kernel_rfl
  rcases open_slice (show Tryd.prog.underlying 23 = some (.slice 69) by kernel_rfl) h with ⟨h1, _⟩ | ⟨a, len, cap, m, n', D, Pl, h1, _, h3, _, h5, _, h7⟩
  · obtain rfl : v = .slice none 0 0 := by simpa using h1
    exact ⟨[], none, 0, rfl, fun h => absurd rfl h⟩
  · obtain rfl : v = .slice (some a) len cap := by simpa using h1
    simp only [if_true] at h5
    rw [hC] at h7
    have hel : ∀ i, i < len → ∃ p : Int × Int, W.cell? (a.add (i * 2)) = some (.int .i64 p.1) ∧ W.cell? ((a.add (i * 2)).add 1) = some (.int .i64 p.2) := by
      intro i hi
      obtain ⟨cs', hc, ht⟩ := h7 i (by omega)
      obtain ⟨ys, n'', _, _, hlen, hyl, hf⟩ := DataW.trod_struct hu ht
      obtain ⟨_, hcl, hat⟩ := World.cells?_some hc
      obtain ⟨k0, k1, rfl⟩ : ∃ k0 k1, cs' = [k0, k1] := by
        match cs', hcl with
        | [x, y], _ => exact ⟨x, y, rfl⟩
      obtain ⟨o0, q0⟩ := hone_of hone 0 f0 rfl
      obtain ⟨o1, q1⟩ := hone_of hone 1 f1 rfl
      have g0 := hf 0 f0 rfl
      have g1 := hf 1 f1 rfl
      rw [o0, q0, t0] at g0
      rw [o1, q1, t1] at g1
      have hy0 : ys[0]? = some (ys[0]'(by simp at hyl; omega)) := List.getElem?_eq_getElem _
      have hy1 : ys[1]? = some (ys[1]'(by simp at hyl; omega)) := List.getElem?_eq_getElem _
      obtain ⟨z0, e0, _, _⟩ := DataW.trod_int uI64 (show DataW.trod _ Tryd.prog W 0 _ held n'' 2 _ = some _ from g0.trans hy0)
      obtain ⟨z1, e1, _, _⟩ := DataW.trod_int uI64 (show DataW.trod _ Tryd.prog W 0 _ held n'' 2 _ = some _ from g1.trans hy1)
      have c0 := hat 0 (by omega)
      have c1 := hat 1 (by omega)
      simp at e0 e1
      subst e0 e1
      exact ⟨(z0, z1), by simpa [Addr.add] using c0, by simpa using c1⟩
    obtain ⟨l, hl, hp⟩ := list_of len hel
    refine ⟨l, some a, cap, by rw [hl], fun hne => ?_⟩
    have h0 : 0 < len := by
      rcases Nat.eq_zero_or_pos len with h | h
      · exact absurd (List.length_eq_zero_iff.1 (hl.trans h)) hne
      · exact h
    have hsp : a.spot = none := by
      have := (hp 0 (by omega)).1
      simpa [Addr.add] using World.cell?_spot this
    refine ⟨a.block, a.off, by cases a; simp_all, fun i hi => ?_⟩
    obtain ⟨c0, c1⟩ := hp i hi
    have d0 := add_cell hsp c0
    refine ⟨d0, ?_⟩
    have s2 : (a.add (i * 2)).spot = none := by unfold Addr.add; split <;> simp [hsp]
    have d1 := add_cell s2 c1
    have hb : (a.add (i * 2)).block = a.block := by unfold Addr.add; split <;> rfl
    have ho : (a.add (i * 2)).off = a.off + i * 2 := by
      unfold Addr.add
      split
      · rename_i h; rw [h]; rfl
      · rfl
    rw [hb, ho] at d1
    exact d1
set_option maxRecDepth 100000 in
theorem log_of_trod {W : World} {base : Nat} {held : Bool} {v : Value} {d : DataW H} {p : List MemPlace} (hv : Value.okWide Tryd.prog W .any base 25 v) (h : DataW.Trod enc Tryd.prog W 0 (fun _ => true) held 25 v d p) : ∃ l : LogD, LogAt W v l := by
  obtain ⟨f0, f1, hu, t0, t1, hone⟩ := uLog
  obtain ⟨v0, v1, y0, y1, n, rfl, _, _, g0, g1⟩ := open_agg2 hu hone (by kernel_rfl) hv h
  rw [t0] at g0
  rw [t1] at g1
  obtain ⟨l0, hl0⟩ := ints_of_trod g0
  obtain ⟨l1, hl1⟩ := pairs_of_trod g1
  exact ⟨⟨l0, l1⟩, _, _, rfl, hl0, hl1⟩
set_option maxRecDepth 100000 in
theorem line_of_trod {W : World} {base : Nat} {held : Bool} {v : Value} {d : DataW H} {p : List MemPlace} (hv : Value.okWide Tryd.prog W .any base 27 v) (h : DataW.Trod enc Tryd.prog W 0 (fun _ => true) held 27 v d p) : ∃ a b c : Int, v = .agg #[.int .i64 a, .int .i64 b, .int .i64 c] := by
  obtain ⟨f0, f1, f2, hu, t0, t1, t2, hone⟩ := uLine
  obtain ⟨v0, v1, v2, y0, y1, y2, n, rfl, _, _, g0, g1, g2⟩ := open_agg3 hu hone (by kernel_rfl) hv h
  rw [t0] at g0
  rw [t1] at g1
  rw [t2] at g2
  obtain ⟨z0, e0, _, _⟩ := DataW.trod_int uI64 g0
  obtain ⟨z1, e1, _, _⟩ := DataW.trod_int uI64 g1
  obtain ⟨z2, e2, _, _⟩ := DataW.trod_int uI64 g2
  simp at e0 e1 e2
  subst e0 e1 e2
  exact ⟨_, _, _, rfl⟩
end

/-! ## The last step of each row -/
section
variable {H : Type} {enc : TypeId × Value → H} {P : Program}
theorem trodAll_stay (hl : laidOutB P = true) {W W' : World} {sp : Nat → Bool} (hb : Below W.heap.size W W') : ∀ {ts : List TypeId} {vs : List Value} {ds : List (DataW H)} {ps : List MemPlace}, (∀ t ∈ ts, P.readableRec t = true ∧ t < P.types.size) →
    DataW.TrodAll enc P W 0 (fun _ => true) true ts vs ds ps → (∀ x ∈ ps, x.block < W.heap.size) → (∀ x ∈ ps, sp x.block = true) → DataW.TrodAll enc P W' 0 sp true ts vs ds ps
  | [], vs, ds, ps, _, h, _, _ => by
    obtain ⟨rfl, rfl, rfl⟩ := trodAll_nil h
    exact trodAll_mk0
  | t :: ts, vs, ds, ps, ht, h, hlt, hsp => by
    obtain ⟨v, vs', d, ds', p, q, rfl, rfl, rfl, h1, h2⟩ := trodAll_cons h
    refine trodAll_cons_mk ?_ (trodAll_stay hl hb (fun t' h' => ht t' (List.mem_cons_of_mem _ h')) h2 (fun x hx => hlt x (List.mem_append_right _ hx)) (fun x hx => hsp x (List.mem_append_right _ hx)))
    exact Trod_stays hl (ht t List.mem_cons_self).1 (ht t List.mem_cons_self).2 h1 (fun x hx => hb.same (hlt x (List.mem_append_left _ hx))) (fun x hx => hsp x (List.mem_append_left _ hx))
theorem post_true {f : Func} {s : ChangeSpec} {W W' : World} {args : Array Value} {ds : List (DataW H)} {before : List MemPlace} (hl : laidOutB P = true) (hts : ∀ t ∈ f.params.toList, P.readableRec t = true ∧ t < P.types.size)
    {tb : TypeId} (hrt : f.resultTypes = #[tb]) (hub : P.underlying tb = some .bool) (hsv : s.vars = []) (hfn : s.fn H (ds ++ []) = { results := [.lit (.bool true)], args := ds })
    (hW : DataW.Whole enc P f.params.toList s.vars false W args.toList ds [] before) (hA : DataW.TrodAll enc P W 0 (fun _ => true) true f.params.toList args.toList ds before) (hb : Below W.heap.size W W') :
    s.post enc P f false true false false W args (.bool true) W' := by
  have hlt : ∀ p ∈ before, p.block < W.heap.size := fun p hp => hW.lt p hp
  refine ⟨ds, [], before, [], before, [], hW, ?_, ?_, ?_, World.keptBut_mono (fun p hp => ⟨hp, ?_⟩) (hb.frame (· ∈ before)), fun h => by cases h⟩
  · rw [hrt, hfn]
    exact trodAll_mk1 (shut_bool hub true)
  · rw [hfn]
    exact trodAll_stay hl hb hts hA hlt (fun x hx => by simpa using hlt x hx)
  · rw [hsv, hfn]
    exact rfl
  · simpa using hp
end
end Go.Proofs.YtlhldkiggmlegaaDoor
