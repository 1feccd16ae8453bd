import Derived.Test.YtlhldkiggmlegaaDoorNc
import Derived.Laws.CopyOwn
import Derived.Laws.MakeOwn
namespace Go.Proofs.YtlhldkiggmlegaaDoor
open Go.RowKit

/-! ## The line through two points -/
abbrev Pt := Int × Rat
/-- The closure's three variables: both points, and how much higher the second one is. -/
def HAt (w : World) (b1 b2 b3 : Nat) (a b : Pt) : Prop :=
  Blk w b1 (.cells #[.int .i64 a.1, .int .i64 a.2.num, .int .i64 a.2.den] 142) ∧ Blk w b2 (.cells #[.int .i64 (b.2 - a.2).num, .int .i64 (b.2 - a.2).den] 31) ∧
  Blk w b3 (.cells #[.int .i64 b.1, .int .i64 b.2.num, .int .i64 b.2.den] 142)
theorem HAt.below {w w' : World} {b1 b2 b3 : Nat} {a b : Pt} (h : HAt w b1 b2 b3 a b) (hb : Below w.heap.size w w') : HAt w' b1 b2 b3 a b := ⟨h.1.below hb, h.2.1.below hb, h.2.2.below hb⟩
theorem HAt.keeps {B : Nat} {w w' : World} {b1 b2 b3 : Nat} {a b : Pt} (h : HAt w b1 b2 b3 a b) (hb : KeepsB B w w') : HAt w' b1 b2 b3 a b := ⟨h.1.keepsC hb, h.2.1.keepsC hb, h.2.2.keepsC hb⟩
/-- How high the straight line through two points is. -/
def lineAt (a b : Pt) (x : Int) : Rat := a.2 + (b.2 - a.2) * ((x - a.1 : Int) : Rat) / ((b.1 - a.1 : Int) : Rat)

def Bet (w : World) (a b : Pt) (e : Ending) (w' : World) : Prop := ∃ b1 b2 b3, e = .returned (hv b1 b2 b3) ∧ HAt w' b1 b2 b3 a b ∧ Below w.heap.size w w'

set_option maxHeartbeats 1000000 in
theorem between_any (a b : Pt) (w : World) (ha : Fine a.2) (hb : Fine b.2) :
    Calls Tryd.prog 101 #[pv a.1 a.2, pv b.1 b.2] w (Bet w a b) := by
  have hM := Lib.hid (fun w => minus_any b.2 a.2 w hb ha)
  clear ha hb
  unfold pv
  go_enter Tryd.func101, Tryd.ntmps101
  have hmf : ∀ (fn : Fn) (first cap : Array Value) (w : World), (Instr.makeFunc fn first cap).run Tryd.prog w = .ok (.func fn first cap) w := fun _ _ _ _ => rfl
  go_wp2_with fail
  refine (hM.out _).mono ?_
  rintro e w1 ⟨rfl, hb1⟩
  unfold qv
  have hz := hb1.size
  simp at hz
  go_wp2
  go_ret
  have hB := after2 hb1
  refine ⟨_, _, _, rfl, ⟨?_, Blk.new _ _, ?_⟩, hB.alloc hB.size _⟩
  · exact (((Blk.new w _).alloc _).below hb1).alloc _
  · have := (Blk.new (w.alloc (.cells #[.int .i64 a.1, .int .i64 a.2.num, .int .i64 a.2.den] 142)) (.cells #[.int .i64 b.1, .int .i64 b.2.num, .int .i64 b.2.den] 142)).below hb1
    rw [World.size_alloc] at this
    exact this.alloc _

/-- What the region of the closure reads. -/
def SBet (s b1 b2 b3 : Nat) (a b : Pt) (W : World) : Prop :=
  W.cell? ⟨b1, 0, none⟩ = some (.int .i64 a.1) ∧ W.cell? ⟨b1, 1, none⟩ = some (.int .i64 a.2.num) ∧ W.cell? ⟨b1, 2, none⟩ = some (.int .i64 a.2.den) ∧
  W.cell? ⟨b2, 0, none⟩ = some (.int .i64 (b.2 - a.2).num) ∧ W.cell? ⟨b2, 1, none⟩ = some (.int .i64 (b.2 - a.2).den) ∧ W.cell? ⟨b3, 0, none⟩ = some (.int .i64 b.1) ∧
  W.cell? ⟨s, 0, none⟩ = some (theCell W ⟨s, 0, none⟩) ∧ W.cell? ⟨s, 1, none⟩ = some (theCell W ⟨s, 1, none⟩) ∧ W.frozen? ⟨s, 0, none⟩ = false ∧ W.frozen? ⟨s, 1, none⟩ = false
theorem keepBet {s b1 b2 b3 : Nat} {a b : Pt} {w W W' : World} (h : SBet s b1 b2 b3 a b W ∧ Below w.heap.size w W) (hb : Below W.heap.size W W') : SBet s b1 b2 b3 a b W' ∧ Below w.heap.size w W' := by
  obtain ⟨⟨s1, s2, s3, s4, s5, s6, s7, s8, f1, f2⟩, hB⟩ := h
  have hl := lt_of_cell s7
  exact ⟨⟨cellB s1 hb, cellB s2 hb, cellB s3 hb, cellB s4 hb, cellB s5 hb, cellB s6 hb, theCell_of (cellB s7 hb), theCell_of (cellB s8 hb), (hb.frozen (p := ⟨s, 0, none⟩) hl).trans f1, (hb.frozen (p := ⟨s, 1, none⟩) hl).trans f2⟩, hB.trans (hb.mono hB.size)⟩
theorem keepBet2 {b1 b2 b3 : Nat} {a b : Pt} {w W : World} (h1 : b1 < w.heap.size) (h2 : b2 < w.heap.size) (h3 : b3 < w.heap.size) (u v : Value) (h : SBet w.heap.size b1 b2 b3 a b W ∧ Below w.heap.size w W) :
    SBet w.heap.size b1 b2 b3 a b ((W.setCell ⟨w.heap.size, 0, none⟩ u).setCell ⟨w.heap.size, 1, none⟩ v) ∧ Below w.heap.size w ((W.setCell ⟨w.heap.size, 0, none⟩ u).setCell ⟨w.heap.size, 1, none⟩ v) := by
  obtain ⟨⟨s1, s2, s3, s4, s5, s6, s7, s8, f1, f2⟩, hB⟩ := h
  refine ⟨⟨cell_other (cell_other s1 (by omega)) (by omega), cell_other (cell_other s2 (by omega)) (by omega), cell_other (cell_other s3 (by omega)) (by omega), cell_other (cell_other s4 (by omega)) (by omega), cell_other (cell_other s5 (by omega)) (by omega), cell_other (cell_other s6 (by omega)) (by omega), ?_, ?_, by simpa only [World.frozen?_setCell] using f1, by simpa only [World.frozen?_setCell] using f2⟩, (hB.setCell (by simp) _).setCell (by simp) _⟩
  · obtain ⟨_, t⟩ := cell_some (p := ⟨w.heap.size, 0, none⟩) (u := u) s7
    obtain ⟨_, t⟩ := cell_some (p := ⟨w.heap.size, 1, none⟩) (u := v) t
    exact theCell_of t
  · obtain ⟨_, t⟩ := cell_some (p := ⟨w.heap.size, 0, none⟩) (u := u) s8
    obtain ⟨_, t⟩ := cell_some (p := ⟨w.heap.size, 1, none⟩) (u := v) t
    exact theCell_of t
theorem some_set2 {W : World} {p q a : Addr} {u v x : Value} (h : ((W.setCell p u).setCell q v).cell? a = some x) : (W.cell? a).isSome = true :=
  some_set (some_set (by rw [h]; rfl))

set_option maxRecDepth 100000 in
set_option maxHeartbeats 400000 in
theorem height_any (a b : Pt) (b1 b2 b3 : Nat) (x : Int) (w : World) (hH : HAt w b1 b2 b3 a b) (ha : Fine a.2) (hr : Fine (b.2 - a.2)) (hp : Fine ((b.2 - a.2) * ((x - a.1 : Int) : Rat) / ((b.1 - a.1 : Int) : Rat)))
    (hx : 0 ≤ x) (hx' : x ≤ 100) (h1 : 0 ≤ a.1) (h2 : a.1 < b.1) (h3 : b.1 ≤ 100) :
    Calls Tryd.prog 110 #[.int .i64 x, .pointer (some ⟨b1, 0, none⟩), .pointer (some ⟨b2, 0, none⟩), .pointer (some ⟨b3, 0, none⟩)] w fun e w' => e = .returned (qv (lineAt a b x)) ∧ Below w.heap.size w w' := by
  obtain ⟨k1, k2, k3⟩ := hH
  have l1 := k1.lt
  have l2 := k2.lt
  have l3 := k3.lt
  have e1 := k1.cell 0
  have e2 := k1.cell 1
  have e3 := k1.cell 2
  have e4 := k2.cell 0
  have e5 := k2.cell 1
  have e6 := k3.cell 0
  simp at e1 e2 e3 e4 e5 e6
  have hP := (fun w => part_any (b.2 - a.2) (x - a.1) (b.1 - a.1) w hr (by omega) (by omega) (by omega) (by omega))
  have hQ := (fun w => plus_any a.2 _ w ha hp)
  have hL : lineAt a b x = a.2 + (b.2 - a.2) * ((x - a.1 : Int) : Rat) / ((b.1 - a.1 : Int) : Rat) := rfl
  generalize (b.2 - a.2) * ((x - a.1 : Int) : Rat) / ((b.1 - a.1 : Int) : Rat) = p at *
  generalize lineAt a b x = q at *
  subst hL
  have hP := Lib.hid hP
  have hQ := Lib.hid hQ
  clear k1 k2 k3 ha hr hp
  go_enter Tryd.func110, Tryd.ntmps110
  go_wp2
  obtain ⟨W0, hW0⟩ : ∃ W0, w.alloc (.cells #[.int .i64 0, .int .i64 0] 31) = W0 := ⟨_, rfl⟩
  have hB0 : Below w.heap.size w W0 := by rw [← hW0]; exact below1 _ _
  have hbb : Blk W0 w.heap.size (.cells #[.int .i64 0, .int .i64 0] 31) := by rw [← hW0]; exact Blk.new _ _
  have hS0 : SBet w.heap.size b1 b2 b3 a b W0 := by
    refine ⟨(hB0.cell (p := ⟨b1, 0, none⟩) l1).trans e1, (hB0.cell (p := ⟨b1, 1, none⟩) l1).trans e2, (hB0.cell (p := ⟨b1, 2, none⟩) l1).trans e3, (hB0.cell (p := ⟨b2, 0, none⟩) l2).trans e4, (hB0.cell (p := ⟨b2, 1, none⟩) l2).trans e5, (hB0.cell (p := ⟨b3, 0, none⟩) l3).trans e6, theCell_of (hbb.cell 0), theCell_of (hbb.cell 1), hbb.frozen 0, hbb.frozen 1⟩
  have hz0 : W0.heap.size = w.heap.size + 1 := by rw [← hW0]; simp
  rw [hW0]
  clear hW0 hbb
  have hH0 := Lib.hid (keepBet ⟨hS0, hB0⟩ (Below.refl _ _).drew)
  clear hS0 hB0
  have wr1 : IntKind.i64.wrap (x - a.1) = x - a.1 := IntWalk.i64_in _ (by omega)
  have wr2 : IntKind.i64.wrap (b.1 - a.1) = b.1 - a.1 := IntWalk.i64_in _ (by omega)
  go_region_held3 (fun W => (W.cell? ⟨b1, 0, none⟩ = some (.int .i64 a.1) ∧ W.cell? ⟨b1, 1, none⟩ = some (.int .i64 a.2.num) ∧ W.cell? ⟨b1, 2, none⟩ = some (.int .i64 a.2.den) ∧
    W.cell? ⟨b2, 0, none⟩ = some (.int .i64 (b.2 - a.2).num) ∧ W.cell? ⟨b2, 1, none⟩ = some (.int .i64 (b.2 - a.2).den) ∧ W.cell? ⟨b3, 0, none⟩ = some (.int .i64 b.1) ∧
    W.cell? ⟨w.heap.size, 0, none⟩ = some (theCell W ⟨w.heap.size, 0, none⟩) ∧ W.cell? ⟨w.heap.size, 1, none⟩ = some (theCell W ⟨w.heap.size, 1, none⟩) ∧ W.frozen? ⟨w.heap.size, 0, none⟩ = false ∧ W.frozen? ⟨w.heap.size, 1, none⟩ = false) ∧ Below w.heap.size w W)
    (first | exact hH0.out | (exact keepBet (by assumption) (by assumption)) | (exact keepBet2 l1 l2 l3 _ _ (by assumption)))
    (first | (go_at_call 102; refine (hP.out _).mono ?_; rintro e w' ⟨rfl, hb⟩; unfold qv) | (go_at_call 100; refine (hQ.out _).mono ?_; rintro e w' ⟨rfl, hb⟩; unfold qv))
  go_wp2
  rename_i hfin
  obtain ⟨⟨_, _, _, _, _, _, s7, s8, _, _⟩, hB⟩ := hfin
  have t7 := some_set2 s7
  have t8 := some_set2 s8
  clear s7 s8
  refine bodyPost_ret (v := qv (a.2 + p)) (by simp [results, Tryd.results110, go_sem, qv, t7, t8]) rfl ⟨rfl, hB⟩
end Go.Proofs.YtlhldkiggmlegaaDoor

namespace Go.Proofs.YtlhldkiggmlegaaDoor
open Go.RowKit Go.Shelf

/-! ## The core of a line -/
/-- How high a line is. -/
def strAt (den start step x : Int) : Rat := mkRat (start + x * step) den.toNat

set_option maxHeartbeats 1000000 in
theorem straight_any (den start step x : Int) (w : World) (h1 : 1 ≤ den) (h2 : den ≤ 100000) (h3 : -68719476736 ≤ start) (h4 : start ≤ 68719476736) (h5 : -68719476736 ≤ step) (h6 : step ≤ 68719476736) (h7 : 0 ≤ x) (h8 : x ≤ 100) :
    Calls Tryd.prog 61 #[.agg #[.int .i64 den, .int .i64 start, .int .i64 step], .int .i64 x] w fun e w' => e = .returned (qv (strAt den start step x)) ∧ Below w.heap.size w w' := by
  have hm : -6871947673600 ≤ x * step ∧ x * step ≤ 6871947673600 := by
    rw [Int.mul_comm]
    have := mul_bd step x 68719476736 100 h5 h6 h7 h8 (by omega)
    omega
  obtain ⟨m1, m2⟩ := hm
  go_enter Tryd.func61, Tryd.ntmps61
  go_wp2_with fail
  refine (ratio_any _ _ _ (by omega) (by omega) (by omega) (by omega)).mono ?_
  rintro e w1 ⟨rfl, hb⟩
  unfold qv
  obtain ⟨hc, hf⟩ := bcell hb
  have hz := hb.size
  simp at hz
  go_wp2
  refine bodyPost_ret (v := qv (strAt den start step x)) (by simp [results, Tryd.results61, go_sem, hc, qv, strAt]) rfl ⟨rfl, ?_⟩
  exact ((after2 hb).setCell (by simp) _).setCell (by simp) _

theorem okInts_get {lo hi : Int} {l : List Int} (h : okInts lo hi l = true) (k : Nat) (hk : k < l.length) : lo ≤ l[k] ∧ l[k] ≤ hi := by
  unfold okInts at h
  rw [List.all_eq_true] at h
  simpa using h _ (List.getElem_mem hk)
theorem okEdges_get {l : List (Int × Int)} (h : okEdges l = true) (k : Nat) (hk : k < l.length) : -1000 ≤ l[k].1 ∧ l[k].1 ≤ l[k].2 ∧ l[k].2 ≤ 1000 := by
  unfold okEdges at h
  rw [List.all_eq_true] at h
  exact (okEdge_iff _ _).1 (h _ (List.getElem_mem hk))

/-- What a line's heights are like. -/
structure LineOk (den start step : Int) : Prop where
  d1 : 1 ≤ den
  d2 : den ≤ 100000
  s1 : -68719476736 ≤ start
  s2 : start ≤ 68719476736
  t1 : -68719476736 ≤ step
  t2 : step ≤ 68719476736

theorem lineErr_zero {den start step : Int} (h : lineErr den start step = 0) : LineOk den start step := by
  unfold lineErr at h
  split at h
  · omega
  · rename_i h'
    exact ⟨by omega, by omega, by omega, by omega, by omega, by omega⟩

theorem strAt_sub (den start step x n : Int) (hd : 0 < den) : strAt den start step x - (n : Rat) = mkRat (start + x * step - n * den) den.toNat := by
  obtain ⟨d, rfl⟩ := Int.eq_ofNat_of_zero_le (Int.le_of_lt hd)
  unfold strAt
  rw [Int.toNat_natCast, Rat.mkRat_eq_div, Rat.mkRat_eq_div, Rat.intCast_sub, Rat.intCast_mul, Rat.intCast_natCast]
  have : ((d : Nat) : Rat) ≠ 0 := by simp; omega
  grind
theorem fine_mk (k den : Int) (h1 : 1 ≤ den) (h2 : den ≤ 100000) (h3 : -17592186044416 ≤ k) (h4 : k ≤ 17592186044416) : Fine (mkRat k den.toNat) := by
  obtain ⟨b1, b2, b3⟩ := mkRat_bd k den.toNat (by omega)
  exact ⟨by omega, by omega, by omega⟩
theorem mul_line {step x : Int} (h5 : -68719476736 ≤ step) (h6 : step ≤ 68719476736) (h7 : 0 ≤ x) (h8 : x ≤ 100) : -6871947673600 ≤ x * step ∧ x * step ≤ 6871947673600 := by
  rw [Int.mul_comm]
  have := mul_bd step x 68719476736 100 h5 h6 h7 h8 (by omega)
  omega
theorem fine_str {den start step x : Int} (h : LineOk den start step) (h7 : 0 ≤ x) (h8 : x ≤ 100) : Fine (strAt den start step x) := by
  have hm := mul_line h.t1 h.t2 h7 h8
  exact fine_mk _ _ h.d1 h.d2 (by have := h.s1; omega) (by have := h.s2; omega)
theorem fine_str_sub {den start step x n : Int} (h : LineOk den start step) (h7 : 0 ≤ x) (h8 : x ≤ 100) (h1 : -1000 ≤ n) (h2 : n ≤ 1000) : Fine (strAt den start step x - (n : Rat)) := by
  have hm := mul_line h.t1 h.t2 h7 h8
  have hd := h.d1
  have hn := mul_bd n den 1000 100000 h1 h2 (by omega) h.d2 (by omega)
  rw [strAt_sub _ _ _ _ _ (by omega)]
  exact fine_mk _ _ h.d1 h.d2 (by have := h.s1; omega) (by have := h.s2; omega)
theorem fine_sub_str {den start step x n : Int} (h : LineOk den start step) (h7 : 0 ≤ x) (h8 : x ≤ 100) (h1 : -1000 ≤ n) (h2 : n ≤ 1000) : Fine ((n : Rat) - strAt den start step x) := by
  have e : (n : Rat) - strAt den start step x = -(strAt den start step x - (n : Rat)) := by grind
  rw [e]
  exact (fine_str_sub h h7 h8 h1 h2).neg

/-- What is kept below and above a line, place by place. -/
def coreList (l : LogD) (h : Int → Rat) : List Rat := (l.at_.zip l.edges).flatMap fun p => [h p.1 - (p.2.1 : Rat), (p.2.2 : Rat) - h p.1]
def ratCells (xs : List Rat) : List Value := xs.flatMap fun r => [.int .i64 r.num, .int .i64 r.den]
theorem ratCells_snoc (xs : List Rat) (r : Rat) : ratCells (xs ++ [r]) = ratCells xs ++ [.int .i64 r.num, .int .i64 r.den] := by simp [ratCells]
theorem ratCells_length (xs : List Rat) : (ratCells xs).length = xs.length * 2 := by
  induction xs with
  | nil => rfl
  | cons x xs ih => unfold ratCells at ih ⊢; simp [ih]; omega
theorem coreList_take (l : LogD) (h : Int → Rat) (k : Nat) (h1 : k < l.at_.length) (h2 : k < l.edges.length) :
    coreList ⟨l.at_.take (k + 1), l.edges.take (k + 1)⟩ h = coreList ⟨l.at_.take k, l.edges.take k⟩ h ++ [h l.at_[k] - (l.edges[k].1 : Rat)] ++ [(l.edges[k].2 : Rat) - h l.at_[k]] := by
  unfold coreList
  simp only
  rw [List.take_succ_eq_append_getElem h1, List.take_succ_eq_append_getElem h2, List.zip_append (by simp; omega)]
  simp
theorem coreList_length (l : LogD) (h : Int → Rat) : (coreList l h).length = (min l.at_.length l.edges.length) * 2 := by
  unfold coreList
  rw [← List.length_zip]
  generalize l.at_.zip l.edges = z
  induction z with
  | nil => rfl
  | cons x z ih => simp only [List.flatMap_cons, List.length_append, ih, List.length_cons, List.length_nil]; omega

theorem rowOf {P B : Prop} {W : World} {v : Value} {n size : Nat} {xs : List Value} (h : P ∧ Row W v n size xs ∧ B) : Row W v n size xs := h.2.1

theorem lift_fine {xs : List Rat} (h : ∀ r ∈ xs, Fine r) : ∃ ys : List FR, ys.map Subtype.val = xs := by
  induction xs with
  | nil => exact ⟨[], rfl⟩
  | cons x xs ih =>
    obtain ⟨ys, hy⟩ := ih (fun r hr => h r (List.mem_cons_of_mem _ hr))
    exact ⟨⟨x, h x List.mem_cons_self⟩ :: ys, by simp [hy]⟩
theorem Row.slice {w : World} {v : Value} {n size : Nat} {xs : List Value} (h : Row w v n size xs) : ∃ a n c, v = .slice a n c := by
  obtain ⟨a, cap, e, _⟩ := h.cells
  exact ⟨a, n, cap, e⟩
theorem Blk.cell0 {W : World} {k : Nat} {v : Value} {T : TypeId} {z : Nat × Nat} (h : Blk W k (.cells #[v] T z)) : W.cell? ⟨k, 0, none⟩ = some v := by
  rw [h.cell]; rfl
theorem ratCells_get (xs : List Rat) (j : Nat) (hj : j < xs.length) : (ratCells xs)[j * 2]? = some (.int .i64 xs[j].num) ∧ (ratCells xs)[j * 2 + 1]? = some (.int .i64 xs[j].den) := by
  induction xs generalizing j with
  | nil => simp at hj
  | cons x xs ih =>
    have e : ratCells (x :: xs) = .int .i64 x.num :: .int .i64 x.den :: ratCells xs := by simp [ratCells]
    rw [e]
    cases j with
    | zero => simp
    | succ j =>
      have := ih j (by simpa using hj)
      have e2 : (j + 1) * 2 = j * 2 + 1 + 1 := by omega
      rw [e2]
      simpa using this
/-- A row of fractions, as the iterator reads it. -/
theorem Row.ratios {w : World} {v : Value} {n : Nat} (ys : List FR) (h : Row w v n 2 (ratCells (ys.map Subtype.val))) (hn : n = ys.length) (h0 : 0 < n) :
    ∃ b off cap, v = .slice (some ⟨b, off, none⟩) ys.length cap ∧ b < w.heap.size ∧ ∀ j (h : j < ys.length), w.cell? ⟨b, off + j * 2, none⟩ = some (.int .i64 (ys[j].1).num) ∧ w.cell? ⟨b, off + j * 2 + 1, none⟩ = some (.int .i64 (ys[j].1).den) := by
  obtain ⟨h1, ⟨e1, e2⟩ | ⟨g, cap, cur, e, e1, e3, e4, e5, e6, e7⟩⟩ := h
  · omega
  · refine ⟨g, 0, cap, by rw [e1, hn], e3.lt, fun j hj => ?_⟩
    obtain ⟨r1, r2⟩ := ratCells_get (ys.map Subtype.val) j (by simpa using hj)
    rw [← e7, List.getElem?_take] at r1 r2
    have hx : j * 2 + 1 < n * 2 := by omega
    rw [if_pos (by omega)] at r1
    rw [if_pos hx] at r2
    constructor
    · rw [e3.cell]; simpa using r1
    · rw [e3.cell]; simpa using r2

/-- What the two regions read. -/
def SCore (L b2 o2 n2 c2 k2 B8 : Nat) (y : Int) (h : Rat) (W : World) : Prop :=
  W.cell? ⟨L, 1, none⟩ = some (.slice (some ⟨b2, o2, none⟩) n2 c2) ∧ W.cell? ⟨b2, k2, none⟩ = some (.int .i64 y) ∧ W.cell? ⟨B8, 0, none⟩ = some (.int .i64 h.num) ∧ W.cell? ⟨B8, 1, none⟩ = some (.int .i64 h.den)
theorem keepCore {L b2 o2 n2 c2 k2 B8 n : Nat} {y : Int} {h : Rat} {v : Value} {xs : List Value} {w W W' : World} (hh : SCore L b2 o2 n2 c2 k2 B8 y h W ∧ Row W v n 2 xs ∧ Below w.heap.size w W) (hb : Below W.heap.size W W') :
    SCore L b2 o2 n2 c2 k2 B8 y h W' ∧ Row W' v n 2 xs ∧ Below w.heap.size w W' := by
  obtain ⟨⟨s1, s2, s3, s4⟩, hr, hB⟩ := hh
  exact ⟨⟨cellB s1 hb, cellB s2 hb, cellB s3 hb, cellB s4 hb⟩, hr.below hb, hB.trans (hb.mono hB.size)⟩

set_option maxRecDepth 100000 in
set_option maxHeartbeats 2000000 in
theorem core_any (L M : Nat) (l : LogD) (den start step : Int) (w : World) (hl : LatheAt w L M l) (hf : Fit l.at_ [l.edges]) (ho : LineOk den start step) :
    Calls Tryd.prog 60 #[.pointer (some ⟨L, 0, none⟩), .func (.func 61) #[.agg #[.int .i64 den, .int .i64 start, .int .i64 step]] #[]] w fun e w' =>
      (∃ r, leastR (coreList l (strAt den start step)) = some r ∧ e = .returned (qv r)) ∧ Below w.heap.size w w' := by
  obtain ⟨va, ve, bL, hA, hE⟩ := hl
  have hlen : l.edges.length = l.at_.length := hf.lens _ (by simp)
  have h2 := hf.two
  have h8 := hf.eight
  obtain ⟨a1, c1, rfl⟩ := hA.slice
  obtain ⟨a2, c2, rfl⟩ := hE.slice
  have HA := Lib.hid hA
  have HE := Lib.hid hE
  have HF := Lib.hid hf
  have HO := Lib.hid ho
  have HL := Lib.hid hlen
  have e0 := bL.cell 0
  have e1 := bL.cell 1
  have l0 := bL.lt
  simp at e0 e1
  clear hA hE hf ho hlen bL
  go_enter Tryd.func60, Tryd.ntmps60
  go_wp2
  obtain ⟨W0, hW0⟩ : ∃ W0, w.alloc (.cells #[.int .i64 0, .int .i64 0] 31) = W0 := ⟨_, rfl⟩
  have hB0 : Below w.heap.size w W0 := by rw [← hW0]; exact below1 _ _
  have hbb : Blk W0 w.heap.size (.cells #[.int .i64 0, .int .i64 0] 31) := by rw [← hW0]; exact Blk.new _ _
  have hz0 : W0.heap.size = w.heap.size + 1 := by rw [← hW0]; simp
  rw [hW0]
  clear hW0
  go_loopw [5, 15] (fun v i wr => ∃ k : Nat, k ≤ l.at_.length ∧ i = .int .i64 k ∧ Row wr v (k * 2) 2 (ratCells (coreList ⟨l.at_.take k, l.edges.take k⟩ (strAt den start step))) ∧ Below W0.heap.size W0 wr) (fun _ i _ => l.at_.length - (intOf i).toNat)
  case atStart => exact ⟨0, Nat.zero_le _, rfl, Row.nil _ _, Below.refl _ _⟩
  case round =>
    obtain ⟨k, hk, rfl, hR, hB⟩ := hrel
    have HR := Lib.hid hR
    clear hR
    have hzz := hB.size
    by_cases hlt : k < l.at_.length
    · have hlt2 : k < l.edges.length := by have := HL.out; omega
      have hBw : Below w.heap.size w wr := hB0.trans (hB.mono (by omega))
      obtain ⟨b1, o1, cc1, ea1, g1⟩ := HA.out.get k hlt
      obtain ⟨rfl, rfl⟩ : a1 = some ⟨b1, o1, none⟩ ∧ c1 = cc1 := by simpa using ea1
      obtain ⟨b2, o2, cc2, ea2, g2, g2'⟩ := HE.out.get k hlt2
      obtain ⟨rfl, rfl⟩ : a2 = some ⟨b2, o2, none⟩ ∧ c2 = cc2 := by simpa using ea2
      have l1 := lt_of_cell g1
      have l2 := lt_of_cell g2
      have G2 := Lib.hid ((hB0.cell (p := ⟨b2, _, none⟩) l2).trans g2')
      rw [← hBw.cell (p := ⟨b1, _, none⟩) l1] at g1
      rw [← hBw.cell (p := ⟨b2, _, none⟩) l2] at g2 g2'
      have e1' : wr.cell? ⟨L, 1, none⟩ = some (.slice (some ⟨b2, o2, none⟩) l.edges.length c2) := (hBw.cell (p := ⟨L, 1, none⟩) l0).trans e1
      clear e0 e1
      obtain ⟨x1, x2⟩ := okInts_get HF.out.ats k hlt
      obtain ⟨y1, y2, y3⟩ := okEdges_get (HF.out.edges _ (List.mem_singleton.2 rfl)) k hlt2
      have hH := Lib.hid (fun w => straight_any den start step l.at_[k] w HO.out.d1 HO.out.d2 HO.out.s1 HO.out.s2 HO.out.t1 HO.out.t2 x1 x2)
      have f0 := Lib.hid (fine_str (x := l.at_[k]) HO.out x1 x2)
      have f1 := Lib.hid (fine_str_sub (x := l.at_[k]) (n := l.edges[k].1) HO.out x1 x2 (by omega) (by omega))
      have f2 := Lib.hid (fine_sub_str (x := l.at_[k]) (n := l.edges[k].2) HO.out x1 x2 (by omega) (by omega))
      have hCT := Lib.hid (coreList_take l (strAt den start step) k hlt hlt2)
      generalize hhv : strAt den start step l.at_[k] = hgt at hH f0 f1 f2
      have Hh := Lib.hid hhv
      clear hhv
      go_wp2_with fail
      refine (hH.out _).mono ?_
      rintro e w1 ⟨rfl, hb1⟩
      unfold qv
      have hz1 := hb1.size
      have t1 := cellB e1' hb1
      have t2 := cellB g2 hb1
      have t2' := cellB g2' hb1
      clear e1' g2 g2' g1
      go_wp2_with fail
      obtain ⟨W2, hW2⟩ : ∃ W2, w1.alloc (.cells #[.int .i64 hgt.num, .int .i64 hgt.den] 31) = W2 := ⟨_, rfl⟩
      have hB2 : Below w1.heap.size w1 W2 := by rw [← hW2]; exact below1 _ _
      have hb8 : Blk W2 w1.heap.size (.cells #[.int .i64 hgt.num, .int .i64 hgt.den] 31) := by rw [← hW2]; exact Blk.new _ _
      rw [hW2]
      clear hW2
      have q0 : W2.cell? ⟨w1.heap.size, 0, none⟩ = some (.int .i64 hgt.num) := by rw [hb8.cell]; simp
      have q1 : W2.cell? ⟨w1.heap.size, 1, none⟩ = some (.int .i64 hgt.den) := by rw [hb8.cell]; simp
      have HS1 := Lib.hid (keepCore (y := l.edges[k].1) (n := k * 2) ⟨⟨cellB t1 hB2, cellB t2 hB2, q0, q1⟩, (HR.out.below hb1).below hB2, (hB.trans (hb1.mono hB.size)).trans (hB2.mono (by omega))⟩ (Below.refl _ _).drew)
      clear t1 t2 t2' q0 q1 hb8 hb1 hB2 hB
      go_region_held3 (fun W => (W.cell? ⟨L, 1, none⟩ = some (.slice (some ⟨b2, o2, none⟩) l.edges.length c2) ∧ W.cell? ⟨b2, o2 + k * 2, none⟩ = some (.int .i64 l.edges[k].1) ∧ W.cell? ⟨w1.heap.size, 0, none⟩ = some (.int .i64 hgt.num) ∧ W.cell? ⟨w1.heap.size, 1, none⟩ = some (.int .i64 hgt.den)) ∧ Row W u5 (k * 2) 2 (ratCells (coreList ⟨l.at_.take k, l.edges.take k⟩ (strAt den start step))) ∧ Below W0.heap.size W0 W)
        (first | exact HS1.out | (exact keepCore (by assumption) (by assumption)))
        (first | (go_at_call 70; refine (whole_any _ _).mono ?_; rintro e w' ⟨rfl, hb⟩; unfold qv) | (go_at_call 69; refine (minus_any _ _ _ f0.out (fine_int (n := l.edges[k].1) (by omega) (by omega))).mono ?_; rintro e w' ⟨rfl, hb⟩; unfold qv) | (go_at_call 77; refine (grownR_any _ (k * 2) (ratCells (coreList ⟨l.at_.take k, l.edges.take k⟩ (strAt den start step))) _ _ ?_ ?_).mono ?_; (exact rowOf (by assumption)); omega; rintro e w' ⟨v1, rfl, hr1, hb⟩))
      rename_i hS
      obtain ⟨⟨q1, q2, q3, q4⟩, _, hB3⟩ := hS
      have HS2 := Lib.hid (keepCore (y := l.edges[k].2) (n := k * 2 + 1) ⟨⟨q1, (hB3.cell (p := ⟨b2, _, none⟩) (show b2 < W0.heap.size by omega)).trans G2.out, q3, q4⟩, hr1, hB3⟩ (Below.refl _ _).drew)
      clear q1 q2 q3 q4 hr1 hB3
      go_wp2_with fail
      go_region_held3 (fun W => (W.cell? ⟨L, 1, none⟩ = some (.slice (some ⟨b2, o2, none⟩) l.edges.length c2) ∧ W.cell? ⟨b2, o2 + k * 2 + 1, none⟩ = some (.int .i64 l.edges[k].2) ∧ W.cell? ⟨w1.heap.size, 0, none⟩ = some (.int .i64 hgt.num) ∧ W.cell? ⟨w1.heap.size, 1, none⟩ = some (.int .i64 hgt.den)) ∧ Row W v1 (k * 2 + 1) 2 (ratCells (coreList ⟨l.at_.take k, l.edges.take k⟩ (strAt den start step)) ++ [.int .i64 (hgt - (l.edges[k].1 : Rat)).num, .int .i64 (hgt - (l.edges[k].1 : Rat)).den]) ∧ Below W0.heap.size W0 W)
        (first | exact HS2.out | (exact keepCore (by assumption) (by assumption)))
        (first | (go_at_call 70; refine (whole_any _ _).mono ?_; rintro e w' ⟨rfl, hb⟩; unfold qv) | (go_at_call 69; refine (minus_any _ _ _ (fine_int (n := l.edges[k].2) (by omega) (by omega)) f0.out).mono ?_; rintro e w' ⟨rfl, hb⟩; unfold qv) | (go_at_call 77; refine (grownR_any _ (k * 2 + 1) (ratCells (coreList ⟨l.at_.take k, l.edges.take k⟩ (strAt den start step)) ++ [.int .i64 (hgt - (l.edges[k].1 : Rat)).num, .int .i64 (hgt - (l.edges[k].1 : Rat)).den]) _ _ ?_ ?_).mono ?_; (exact rowOf (by assumption)); omega; rintro e w' ⟨v2, rfl, hr2, hb⟩))
      rename_i hS
      obtain ⟨_, _, hB4⟩ := hS
      go_wp2
      go_roundw
      case rel =>
        refine ⟨k + 1, by omega, by go_num, ?_, hB4⟩
        rw [hCT.out, ratCells_snoc, ratCells_snoc, Hh.out, show (k + 1) * 2 = k * 2 + 1 + 1 by omega]
        exact hr2
      case measure => simp [intOf]; omega
    · obtain rfl : k = l.at_.length := by omega
      have hBw : Below w.heap.size w wr := hB0.trans (hB.mono (by omega))
      have hR := HR.out
      rw [List.take_length, List.take_of_length_le (by have := HL.out; omega)] at hR
      obtain ⟨ys, hys⟩ : ∃ ys : List FR, ys.map Subtype.val = coreList l (strAt den start step) := lift_fine (fun r hr => by
        obtain ⟨p, hp, hr⟩ := List.mem_flatMap.1 hr
        obtain ⟨q, hq, e⟩ := List.mem_iff_getElem.1 hp
        have hq1 : q < l.at_.length := by simp at hq; omega
        have hq2 : q < l.edges.length := by simp at hq; omega
        rw [List.getElem_zip] at e
        subst e
        obtain ⟨x1, x2⟩ := okInts_get HF.out.ats q hq1
        obtain ⟨y1, y2, y3⟩ := okEdges_get (HF.out.edges _ (List.mem_singleton.2 rfl)) q hq2
        simp only [List.mem_cons, List.not_mem_nil, or_false] at hr
        rcases hr with rfl | rfl
        · exact fine_str_sub HO.out x1 x2 (by omega) (by omega)
        · exact fine_sub_str HO.out x1 x2 (by omega) (by omega))
      have hylen : ys.length = l.at_.length * 2 := by
        have := congrArg List.length hys
        rw [List.length_map, coreList_length] at this
        have := HL.out
        omega
      rw [← hys] at hR
      have HY := Lib.hid hys
      clear hys
      have hbr := hbb.below hB
      go_wp2_with fail
      refine (Values_any _ _ hR.slice).mono ?_
      rintro e w2 ⟨rfl, rfl⟩
      go_wp2_with fail
      have hR2 := hR.below (below1 wr (.cells #[u5] 114))
      refine ((callsIn_wide (n := 5)).1 (pick_less 5 (by omega) 105 #[.pointer (some ⟨wr.heap.size, 0, none⟩)] ys (by intro h; rw [h] at hylen; simp at hylen; omega) _ (enters_of Tryd.func105 (by kernel_rfl) rfl)
        (fun n hn => values_stops (fun x : FR => x.1) n hn wr.heap.size _ u5 ys (by omega) _ (by simp) (Nat.le_refl _) (Blk.new wr _).cell0 (hR2.ratios ys (by omega) (by omega))))).mono ?_
      rintro e w3 ⟨⟨r, hr, rfl⟩, hb3⟩
      have hz3 := hb3.size
      simp at hz3
      have c0 := ((hbr.alloc (.cells #[u5] 114)).below hb3).cell 0
      have c1 := ((hbr.alloc (.cells #[u5] 114)).below hb3).cell 1
      have g0 := ((hbr.alloc (.cells #[u5] 114)).below hb3).frozen 0
      have g1 := ((hbr.alloc (.cells #[u5] 114)).below hb3).frozen 1
      simp at c0 c1
      unfold qv
      have HR3 := Lib.hid hr
      clear hr
      go_wp2
      refine bodyPost_ret (v := qv r) (by simp [results, Tryd.results60, go_sem, qv, c0, c1]) rfl ⟨⟨r, ?_, rfl⟩, ?_⟩
      · rw [← HY.out]; exact HR3.out
      · exact ((hBw.trans ((after1 hb3).mono hBw.size)).setCell (by simp) _).setCell (by simp) _
end Go.Proofs.YtlhldkiggmlegaaDoor

namespace Go.Proofs.YtlhldkiggmlegaaDoor
open Go.RowKit

/-! ## Lists that are taken over -/
theorem run_copy_cells {P : Program} (w : World) (dT sT ty elem : TypeId) (g dLen dCap : Nat) (a : Addr) (sLen sCap size : Nat) (cur : Array Value) (t : TypeId) (cs : List Value)
    (hu : P.underlying dT = some (.slice elem)) (hs : (P.info? elem).map (·.size) = some size)
    (hg : w.heap[g]? = some (.cells cur t (0, 0))) (hn : cs.length = Nat.min sLen dLen * size)
    (hsrc : ∀ j v, cs[j]? = some v → w.cell? (a.add j) = some v) (hfit : cs.length ≤ cur.size) (h1 : ∀ v ∈ cs, v.oneCell' = true) :
    (Builtin.copy_ #[dT, sT] ty #[.slice (some ⟨g, 0, none⟩) dLen dCap, .slice (some a) sLen sCap]).run P w =
      .ok (goInt (Nat.min sLen dLen)) (w.setRow g (cs ++ cur.toList.drop cs.length).toArray) := by
  have hl := run_loadCells_list (P := P) w a cs hsrc
  have hst := run_storeCells_at P g 0 t cs 0 cur w hg (by simpa using hfit) h1
  simp only [Nat.zero_add, List.take_zero, List.nil_append] at hst
  cases hq : P.info? elem with
  | none => simp [hq] at hs
  | some i =>
    have hi : i.size = size := by simpa [hq] using hs
    simp [Builtin.copy_, run_underlying hu, Builtin.lenOf, Builtin.firstCells, sizeOf, typeInfo, hq, hi, ← hn, hl, hst]

theorem wpList_copy_cells {P : Program} {w : World} {ops : Array Oper} {rest : List Oper} {o : Oper} {a : Act} {Q : Exit → Act → World → Prop} (hgd : o.guard = none) (d s : Operand) (dT sT : TypeId)
    (ho : o.op = .call { callee := .builtin .copy, args := #[d, s], argTypes := #[dT, sT] }) (elem : TypeId) (size : Nat) (hu : P.underlying dT = some (.slice elem)) (hsz : (P.info? elem).map (·.size) = some size)
    (g dLen dCap : Nat) (ad : Addr) (sLen sCap : Nat) (hd : a.eval d = .slice (some ⟨g, 0, none⟩) dLen dCap) (hs : a.eval s = .slice (some ad) sLen sCap)
    (cur : Array Value) (t : TypeId) (hg : w.heap[g]? = some (.cells cur t (0, 0))) (cs : List Value) (hn : cs.length = Nat.min sLen dLen * size)
    (hsrc : ∀ j v, cs[j]? = some v → w.cell? (ad.add j) = some v) (hfit : cs.length ≤ cur.size) (h1 : ∀ v ∈ cs, v.oneCell' = true)
    (h : wpList P ops Q rest (a.put o.dst (goInt (Nat.min sLen dLen))) (w.setRow g (cs ++ cur.toList.drop cs.length).toArray)) : wpList P ops Q (o :: rest) a w := by
  refine wpList_plain hgd fun K hK => ?_
  have hrun := run_copy_cells (P := P) w dT sT o.type elem g dLen dCap ad sLen sCap size cur t cs hu hsz hg hn hsrc hfit h1
  unfold Oper.wp
  simp [execOp, ho, resolve, invoke, builtin, hd, hs, hrun, Result.andThen]
  exact hK _ _ h

theorem Tryd.infoInt : (Tryd.prog.info? 2).map (fun i => (i.zero, i.size, i.bytes)) = some (some (.int .i64 0), 1, 8) := by kernel_rfl

def intCells (l : List Int) : List Value := l.map (.int .i64 ·)
theorem intCells_length (l : List Int) : (intCells l).length = l.length := by simp [intCells]
theorem intCells_one {l : List Int} {u : Value} (h : u ∈ intCells l) : u.oneCell' = true := by
  obtain ⟨x, _, rfl⟩ := List.mem_map.1 h; rfl
def pairCells (l : List (Int × Int)) : List Value := l.flatMap fun p => [.int .i64 p.1, .int .i64 p.2]
theorem pairCells_length (l : List (Int × Int)) : (pairCells l).length = l.length * 2 := by
  induction l with
  | nil => rfl
  | cons x l ih => simp only [pairCells, List.flatMap_cons, List.length_append, List.length_cons, List.length_nil] at ih ⊢; omega
theorem pairCells_one {l : List (Int × Int)} {u : Value} (h : u ∈ pairCells l) : u.oneCell' = true := by
  obtain ⟨x, _, h⟩ := List.mem_flatMap.1 h
  simp at h
  rcases h with rfl | rfl <;> rfl
theorem addr_add (b off j : Nat) : (⟨b, off, none⟩ : Addr).add j = ⟨b, off + j, none⟩ := by unfold Addr.add; split <;> simp_all
theorem intCells_src {w : World} {b off : Nat} {l : List Int} (hc : ∀ i (h : i < l.length), w.cell? ⟨b, off + i, none⟩ = some (.int .i64 l[i])) {j : Nat} {u : Value} (hu : (intCells l)[j]? = some u) : (⟨b, off, none⟩ : Addr).add j = ⟨b, off + j, none⟩ ∧ w.cell? ⟨b, off + j, none⟩ = some u := by
  refine ⟨addr_add _ _ _, ?_⟩
  unfold intCells at hu
  obtain ⟨hj, e⟩ := List.getElem?_eq_some_iff.1 hu
  simp at hj e
  rw [hc j hj, e]
theorem pairCells_get (l : List (Int × Int)) (j : Nat) (hj : j < l.length) : (pairCells l)[j * 2]? = some (.int .i64 l[j].1) ∧ (pairCells l)[j * 2 + 1]? = some (.int .i64 l[j].2) := by
  induction l generalizing j with
  | nil => simp at hj
  | cons x l ih =>
    have e : pairCells (x :: l) = .int .i64 x.1 :: .int .i64 x.2 :: pairCells l := by simp [pairCells]
    rw [e]
    cases j with
    | zero => simp
    | succ j =>
      have := ih j (by simpa using hj)
      have e2 : (j + 1) * 2 = j * 2 + 1 + 1 := by omega
      rw [e2]
      simpa using this
theorem pairCells_src {w : World} {b off : Nat} {l : List (Int × Int)} (hc : ∀ i (h : i < l.length), w.cell? ⟨b, off + i * 2, none⟩ = some (.int .i64 l[i].1) ∧ w.cell? ⟨b, off + i * 2 + 1, none⟩ = some (.int .i64 l[i].2)) {j : Nat} {u : Value} (hu : (pairCells l)[j]? = some u) : (⟨b, off, none⟩ : Addr).add j = ⟨b, off + j, none⟩ ∧ w.cell? ⟨b, off + j, none⟩ = some u := by
  refine ⟨addr_add _ _ _, ?_⟩
  have hj := (List.getElem?_eq_some_iff.1 hu).1
  rw [pairCells_length] at hj
  obtain ⟨g1, g2⟩ := pairCells_get l (j / 2) (by omega)
  obtain ⟨c1, c2⟩ := hc (j / 2) (by omega)
  rcases (show j = j / 2 * 2 ∨ j = j / 2 * 2 + 1 by omega) with e | e
  · rw [← e] at g1 c1
    rw [g1] at hu; cases hu; exact c1
  · rw [← e] at g2
    rw [Nat.add_assoc, ← e] at c2
    rw [g2] at hu; cases hu; exact c2

def TookI (w : World) (l : List Int) (e : Ending) (w' : World) : Prop := ∃ g cap, e = .returned (.slice (some ⟨g, 0, none⟩) l.length cap) ∧ w.heap.size ≤ g ∧ Blk w' g (.cells (intCells l).toArray 2) ∧ Below w.heap.size w w'
def TookP (w : World) (l : List (Int × Int)) (e : Ending) (w' : World) : Prop := ∃ g cap, e = .returned (.slice (some ⟨g, 0, none⟩) l.length cap) ∧ w.heap.size ≤ g ∧ Blk w' g (.cells (pairCells l).toArray 69) ∧ Below w.heap.size w w'

set_option maxRecDepth 100000 in
set_option maxHeartbeats 1000000 in
theorem takenI_any (v : Value) (l : List Int) (w : World) (hv : IntsAt w v l) (h0 : l ≠ []) (hn : l.length ≤ 1000) :
    Calls Tryd.prog 106 #[v] w (TookI w l) := by
  obtain ⟨a, cap, rfl, hc⟩ := hv
  obtain ⟨b, off, rfl, hcs⟩ := hc h0
  clear hc
  obtain ⟨i0, hi, hz0', hz1, hz2⟩ := info_parts Tryd.infoInt
  have hmk := run_make (P := Tryd.prog) w 22 2 i0 (.int .i64 0) Tryd.underlying22 hi hz0' .i64 .i64 l.length l.length (by omega) (by omega) (by rw [hz2]; omega) (by omega)
  rw [hz1, Int.toNat_natCast] at hmk
  have hsz : (Tryd.prog.info? 2).map (·.size) = some 1 := by rw [hi]; simp [hz1]
  obtain ⟨mc, hmc⟩ : ∃ mc, madeCells (.int .i64 0 : Value).cells (l.length * 1) = mc := ⟨_, rfl⟩
  have hms : mc.size = l.length * 1 := by rw [← hmc, size_madeCells]
  rw [hmc] at hmk
  have hB : Below w.heap.size w (w.alloc (.cells mc 2)) := below1 _ _
  have hcl : (intCells l).length = l.length * 1 := by simp [intCells_length]
  have hcp := run_copy_cells (P := Tryd.prog) (w.alloc (.cells mc 2)) 22 22 3 2 w.heap.size l.length l.length ⟨b, off, none⟩ l.length cap 1 mc 2 (intCells l) Tryd.underlying22 hsz (Blk.new _ _)
    (by rw [hcl]; congr 1; simp) (fun j u hu => by
      obtain ⟨hx1, hx2⟩ := intCells_src hcs hu
      exact (hB.cell (p := (⟨b, off, none⟩ : Addr).add j) (by have := lt_of_cell hx2; rw [hx1]; exact this)).trans (by rw [hx1]; exact hx2)) (by omega) (by
      intro u hu
      exact intCells_one hu)
  have hfin : (intCells l ++ mc.toList.drop (intCells l).length).toArray = (intCells l).toArray := by
    rw [List.drop_of_length_le (by simp; omega), List.append_nil]
  rw [hfin] at hcp
  have HC := Lib.hid hcl
  clear hms hmc hsz hz1 hz2 hz0' hi hfin hcl
  go_enter Tryd.func106, Tryd.ntmps106
  go_wp2
  go_ret
  exact ⟨_, _, rfl, Nat.le_refl _, setRow_heap _ _ _ _ _ _ (Blk.new _ _), below_setRow hB (Nat.le_refl _) _⟩

set_option maxRecDepth 100000 in
set_option maxHeartbeats 1000000 in
theorem takenP_any (v : Value) (l : List (Int × Int)) (w : World) (hv : PairsAt w v l) (h0 : l ≠ []) (hn : l.length ≤ 1000) :
    Calls Tryd.prog 107 #[v] w (TookP w l) := by
  obtain ⟨a, cap, rfl, hc⟩ := hv
  obtain ⟨b, off, rfl, hcs⟩ := hc h0
  clear hc
  obtain ⟨i0, hi, hz0', hz1, hz2⟩ := info_parts Tryd.infoE
  have hmk := run_make (P := Tryd.prog) w 23 69 i0 (.agg #[.int .i64 0, .int .i64 0]) Tryd.underlying23 hi hz0' .i64 .i64 l.length l.length (by omega) (by omega) (by rw [hz2]; omega) (by omega)
  rw [hz1, Int.toNat_natCast] at hmk
  have hsz : (Tryd.prog.info? 69).map (·.size) = some 2 := by rw [hi]; simp [hz1]
  obtain ⟨mc, hmc⟩ : ∃ mc, madeCells (.agg #[.int .i64 0, .int .i64 0] : Value).cells (l.length * 2) = mc := ⟨_, rfl⟩
  have hms : mc.size = l.length * 2 := by rw [← hmc, size_madeCells]
  rw [hmc] at hmk
  have hB : Below w.heap.size w (w.alloc (.cells mc 69)) := below1 _ _
  have hcl : (pairCells l).length = l.length * 2 := by simp [pairCells_length]
  have hcp := run_copy_cells (P := Tryd.prog) (w.alloc (.cells mc 69)) 23 23 3 69 w.heap.size l.length l.length ⟨b, off, none⟩ l.length cap 2 mc 69 (pairCells l) Tryd.underlying23 hsz (Blk.new _ _)
    (by rw [hcl]; congr 1; simp) (fun j u hu => by
      obtain ⟨hx1, hx2⟩ := pairCells_src hcs hu
      exact (hB.cell (p := (⟨b, off, none⟩ : Addr).add j) (by have := lt_of_cell hx2; rw [hx1]; exact this)).trans (by rw [hx1]; exact hx2)) (by omega) (by
      intro u hu
      exact pairCells_one hu)
  have hfin : (pairCells l ++ mc.toList.drop (pairCells l).length).toArray = (pairCells l).toArray := by
    rw [List.drop_of_length_le (by simp; omega), List.append_nil]
  rw [hfin] at hcp
  have HC := Lib.hid hcl
  clear hms hmc hsz hz1 hz2 hz0' hi hfin hcl
  go_enter Tryd.func107, Tryd.ntmps107
  go_wp2
  go_ret
  exact ⟨_, _, rfl, Nat.le_refl _, setRow_heap _ _ _ _ _ _ (Blk.new _ _), below_setRow hB (Nat.le_refl _) _⟩

theorem IntsAt.of_blk {w : World} {g cap : Nat} {l : List Int} {T : TypeId} (h : Blk w g (.cells (intCells l).toArray T)) : IntsAt w (.slice (some ⟨g, 0, none⟩) l.length cap) l := by
  refine ⟨_, _, rfl, fun _ => ⟨_, _, rfl, fun i hi => ?_⟩⟩
  rw [h.cell]
  simp [intCells, hi]
theorem PairsAt.of_blk {w : World} {g cap : Nat} {l : List (Int × Int)} {T : TypeId} (h : Blk w g (.cells (pairCells l).toArray T)) : PairsAt w (.slice (some ⟨g, 0, none⟩) l.length cap) l := by
  refine ⟨_, _, rfl, fun _ => ⟨_, _, rfl, fun i hi => ?_⟩⟩
  obtain ⟨g1, g2⟩ := pairCells_get l i hi
  constructor
  · rw [h.cell]; simpa using g1
  · rw [h.cell]; simpa using g2

set_option maxHeartbeats 400000 in
theorem newLathe_any (w : World) :
    Calls Tryd.prog 84 #[] w fun e w' => e = .returned (.pointer (some ⟨w.heap.size + 1, 0, none⟩)) ∧ (w.alloc (.map #[] 0)).alloc (.cells #[.slice none 0 0, .slice none 0 0, .map (some w.heap.size)] 112) = w' := by
  have hmm := @run_makeMap Tryd.prog
  go_enter Tryd.func84, Tryd.ntmps84
  go_wp2
  go_ret
  exact ⟨rfl, rfl⟩
end Go.Proofs.YtlhldkiggmlegaaDoor

namespace Go.Proofs.YtlhldkiggmlegaaDoor
open Go.RowKit

/-! ## A log is put between the centres -/
/-- W is w but for block L, and for what is new. -/
structure FrL (w : World) (L : Nat) (W : World) : Prop where
  size : w.heap.size ≤ W.heap.size
  same : ∀ k, k < w.heap.size → k ≠ L → W.heap[k]? = w.heap[k]?
  os : W.os = w.os
  tape : W.tape = w.tape
  output : W.output = w.output
theorem FrL.below {w W W' : World} {L : Nat} (h : FrL w L W) (hb : Below W.heap.size W W') : FrL w L W' :=
  ⟨Nat.le_trans h.size hb.size, fun k hk hne => (hb.block k (Nat.lt_of_lt_of_le hk h.size)).trans (h.same k hk hne), hb.os.trans h.os, hb.tape.trans h.tape, hb.output.trans h.output⟩
theorem FrL.of_below {w W : World} {L : Nat} (h : Below w.heap.size w W) : FrL w L W := ⟨h.size, fun k hk _ => h.block k hk, h.os, h.tape, h.output⟩
theorem FrL.set {w W : World} {L : Nat} (h : FrL w L W) (j : Nat) (v : Value) : FrL w L (W.setCell ⟨L, j, none⟩ v) :=
  ⟨by simpa [World.setCell] using h.size, fun k hk hne => (Below.heap_setCell _ _ _ _ (by simp; omega)).trans (h.same k hk hne), h.os, h.tape, h.output⟩

/-- W is w but for blocks L and M, and for what is new. -/
structure FrLM (w : World) (L M : Nat) (W : World) : Prop where
  size : w.heap.size ≤ W.heap.size
  same : ∀ k, k < w.heap.size → k ≠ L → k ≠ M → W.heap[k]? = w.heap[k]?
  os : W.os = w.os
  tape : W.tape = w.tape
  output : W.output = w.output
theorem FrL.put {w W : World} {L : Nat} (h : FrL w L W) (M : Nat) (o : Obj) : FrLM w L M (W.putObj M o) :=
  ⟨by simpa using h.size, fun k hk h1 h2 => (World.putObj_heap_other h2).trans (h.same k hk h1), h.os, h.tape, h.output⟩

def SPut (L s : Nat) (v1 v2 : Value) (W : World) : Prop :=
  W.cell? ⟨s, 0, none⟩ = some v1 ∧ W.cell? ⟨s, 1, none⟩ = some v2 ∧
  W.cell? ⟨L, 0, none⟩ = some (theCell W ⟨L, 0, none⟩) ∧ W.cell? ⟨L, 1, none⟩ = some (theCell W ⟨L, 1, none⟩) ∧ W.frozen? ⟨L, 0, none⟩ = false ∧ W.frozen? ⟨L, 1, none⟩ = false
theorem keepPut {L s : Nat} {v1 v2 : Value} {w W W' : World} (h : SPut L s v1 v2 W ∧ FrL w L W) (hb : Below W.heap.size W W') : SPut L s v1 v2 W' ∧ FrL w L W' := by
  obtain ⟨⟨s1, s2, s3, s4, f1, f2⟩, hF⟩ := h
  have hl := lt_of_cell s3
  exact ⟨⟨cellB s1 hb, cellB s2 hb, theCell_of (cellB s3 hb), theCell_of (cellB s4 hb), (hb.frozen (p := ⟨L, 0, none⟩) hl).trans f1, (hb.frozen (p := ⟨L, 1, none⟩) hl).trans f2⟩, hF.below hb⟩
theorem keepPutS {L s : Nat} {v1 v2 : Value} {w W : World} (hne : s ≠ L) (j : Nat) (v : Value) (h : SPut L s v1 v2 W ∧ FrL w L W) : SPut L s v1 v2 (W.setCell ⟨L, j, none⟩ v) ∧ FrL w L (W.setCell ⟨L, j, none⟩ v) := by
  obtain ⟨⟨s1, s2, s3, s4, f1, f2⟩, hF⟩ := h
  obtain ⟨_, t3⟩ := cell_some (p := ⟨L, j, none⟩) (u := v) s3
  obtain ⟨_, t4⟩ := cell_some (p := ⟨L, j, none⟩) (u := v) s4
  exact ⟨⟨cell_other s1 hne, cell_other s2 hne, theCell_of t3, theCell_of t4, by rw [World.frozen?_setCell]; exact f1, by rw [World.frozen?_setCell]; exact f2⟩, hF.set j v⟩
theorem frOf {P : Prop} {w W : World} {L : Nat} (h : P ∧ FrL w L W) : FrL w L W := h.2
/-- A list of numbers in a block other than L is there still. -/
theorem IntsAt.fr {w W : World} {L : Nat} {v : Value} {l : List Int} (h : IntsAt w v l) (hF : FrL w L W) (hne : ∀ b off n c, v = .slice (some ⟨b, off, none⟩) n c → b ≠ L) : IntsAt W v l := by
  obtain ⟨a, cap, e, hc⟩ := h
  refine ⟨a, cap, e, fun hn => ?_⟩
  obtain ⟨b, off, ea, hc⟩ := hc hn
  refine ⟨b, off, ea, fun i hi => ?_⟩
  have hx := hc i hi
  rw [← hx]
  exact World.cell?_of_block (hF.same b (lt_of_cell hx) (hne b off _ cap (by rw [e, ea])))
theorem PairsAt.fr {w W : World} {L : Nat} {v : Value} {l : List (Int × Int)} (h : PairsAt w v l) (hF : FrL w L W) (hne : ∀ b off n c, v = .slice (some ⟨b, off, none⟩) n c → b ≠ L) : PairsAt W v l := by
  obtain ⟨a, cap, e, hc⟩ := h
  refine ⟨a, cap, e, fun hn => ?_⟩
  obtain ⟨b, off, ea, hc⟩ := hc hn
  refine ⟨b, off, ea, fun i hi => ?_⟩
  have hne' := hne b off _ cap (by rw [e, ea])
  obtain ⟨hx, hy⟩ := hc i hi
  rw [← hx, ← hy]
  exact ⟨World.cell?_of_block (hF.same b (lt_of_cell hx) hne'), World.cell?_of_block (hF.same b (lt_of_cell hx) hne')⟩
theorem ints_ne {w : World} {v : Value} {l : List Int} {L : Nat} {c0 c1 c2 : Value} {T : TypeId} (h : IntsAt w v l) (h0 : l ≠ []) (hL : Blk w L (.cells #[c0, c1, c2] T)) (hs0 : ∀ n, c0 ≠ .int .i64 n) (hs1 : ∀ n, c1 ≠ .int .i64 n) (hs2 : ∀ n, c2 ≠ .int .i64 n) : ∀ b off n c, v = .slice (some ⟨b, off, none⟩) n c → b ≠ L := by
  rintro b off n c rfl rfl
  obtain ⟨a, cap, e, hc⟩ := h
  obtain ⟨b', off', ea, hc⟩ := hc h0
  cases e; cases ea
  have h1 := hc 0 (by cases l with | nil => exact absurd rfl h0 | cons _ _ => simp)
  rw [hL.cell] at h1
  rcases off with _ | _ | _ | k
  · simp at h1; exact hs0 _ h1
  · simp at h1; exact hs1 _ h1
  · simp at h1; exact hs2 _ h1
  · simp at h1

theorem run_clear_map {P : Program} {t ty k e : TypeId} {M : Nat} {es : Array MapEntry} {clock : Nat} {W : World} (ht : P.underlying t = some (.map k e)) (hM : Blk W M (.map es clock)) :
    (Builtin.clear_ #[t] ty #[.map (some M)]).run P W = .ok (.tuple #[]) (W.putObj M (.map #[] clock)) := by
  unfold Blk at hM
  simp [Builtin.clear_, run_underlying ht, getObj, setObj, Sem.run, hM, World.putObj, go_sem]

set_option maxRecDepth 100000 in
set_option maxHeartbeats 2000000 in
theorem put_any (L M : Nat) (x y : Value) (es : Array MapEntry) (clock : Nat) (v : Value) (l : LogD) (w : World) (hv : LogAt w v l) (h0 : l.at_ ≠ []) (h0' : l.edges ≠ []) (hn : l.at_.length ≤ 1000) (hn' : l.edges.length ≤ 1000)
    (hL : Blk w L (.cells #[x, y, .map (some M)] 112)) (hM : Blk w M (.map es clock)) (hne1 : ∀ va, (∃ ve, v = .agg #[va, ve]) → ∀ b off n c, va = .slice (some ⟨b, off, none⟩) n c → b ≠ L) (hne2 : ∀ ve, (∃ va, v = .agg #[va, ve]) → ∀ b off n c, ve = .slice (some ⟨b, off, none⟩) n c → b ≠ L) :
    Calls Tryd.prog 85 #[.pointer (some ⟨L, 0, none⟩), v] w fun e w' => e = .returned (.tuple #[]) ∧ LatheAt w' L M l ∧ Blk w' M (.map #[] clock) ∧ FrLM w L M w' := by
  obtain ⟨va, ve, rfl, h1, h2⟩ := hv
  have hx1 := hne1 va ⟨_, rfl⟩
  have hx2 := hne2 ve ⟨_, rfl⟩
  obtain ⟨a, cap, rfl⟩ := h1.slice
  obtain ⟨a', cap', rfl⟩ := h2.slice
  have H1 := Lib.hid h1
  have H2 := Lib.hid h2
  have HX1 := Lib.hid hx1
  have HX2 := Lib.hid hx2
  have lL := hL.lt
  have lM := hM.lt
  have hLM : L ≠ M := by intro e; subst e; unfold Blk at hL hM; rw [hL] at hM; cases hM
  clear h1 h2 hx1 hx2 hne1 hne2
  go_enter Tryd.func85, Tryd.ntmps85
  go_wp2
  obtain ⟨W0, hW0⟩ : ∃ W0, w.alloc (.cells #[.slice a l.at_.length cap, .slice a' l.edges.length cap'] 25) = W0 := ⟨_, rfl⟩
  have hB0 : Below w.heap.size w W0 := by rw [← hW0]; exact below1 _ _
  have hbb : Blk W0 w.heap.size (.cells #[.slice a l.at_.length cap, .slice a' l.edges.length cap'] 25) := by rw [← hW0]; exact Blk.new _ _
  have q0 : W0.cell? ⟨w.heap.size, 0, none⟩ = some (.slice a l.at_.length cap) := by rw [hbb.cell]; rfl
  have q1 : W0.cell? ⟨w.heap.size, 1, none⟩ = some (.slice a' l.edges.length cap') := by rw [hbb.cell]; rfl
  have hL0 := hL.below hB0
  have HM := Lib.hid (hM)
  have HLb := Lib.hid hL
  have HS := Lib.hid (keepPut ⟨⟨q0, q1, theCell_of (hL0.cell 0), theCell_of (hL0.cell 1), hL0.frozen 0, hL0.frozen 1⟩, FrL.of_below (L := L) hB0⟩ (Below.refl _ _).drew)
  have hz0 : W0.heap.size = w.heap.size + 1 := by rw [← hW0]; simp
  have HB0 := Lib.hid hB0
  rw [hW0]
  clear hW0 q0 q1 hbb hL0 hB0 hM hL
  have hsL : w.heap.size ≠ L := by omega
  go_region_held3 (fun W => (W.cell? ⟨w.heap.size, 0, none⟩ = some (.slice a l.at_.length cap) ∧ W.cell? ⟨w.heap.size, 1, none⟩ = some (.slice a' l.edges.length cap') ∧
    W.cell? ⟨L, 0, none⟩ = some (theCell W ⟨L, 0, none⟩) ∧ W.cell? ⟨L, 1, none⟩ = some (theCell W ⟨L, 1, none⟩) ∧ W.frozen? ⟨L, 0, none⟩ = false ∧ W.frozen? ⟨L, 1, none⟩ = false) ∧ FrL w L W)
    (first | exact HS.out | (exact keepPut (by assumption) (by assumption)) | (exact keepPutS hsL _ _ (by assumption)))
    (first | (go_at_call 106; refine (takenI_any _ l.at_ _ ?_ h0 hn).mono ?_; (exact H1.out.fr (frOf (by assumption)) HX1.out); rintro e w1 ⟨g1, c1, rfl, hg1, k1, hb1⟩) | (go_at_call 107; refine (takenP_any _ l.edges _ ?_ h0' hn').mono ?_; (exact H2.out.fr (frOf (by assumption)) HX2.out); rintro e w2 ⟨g2, c2, rfl, hg2, k2, hb2⟩))
  have hz1 := hb1.size
  have hz2 := hb2.size
  have hW0d : W0.drew.heap.size = W0.heap.size := rfl
  have hB1 : Below w.heap.size w w1 := HB0.out.drew.trans (hb1.mono (by omega))
  have hB2 : Below w.heap.size w w2 := hB1.trans (hb2.mono (by omega))
  have gL := ((HLb.out.below' hB2 lL).set (j := 0) (.slice (some ⟨g1, 0, none⟩) l.at_.length c1)).set (j := 1) (.slice (some ⟨g2, 0, none⟩) l.edges.length c2)
  have gM := ((HM.out.below' hB2 lM).other (b := L) (j := 0) (Ne.symm hLM) (.slice (some ⟨g1, 0, none⟩) l.at_.length c1)).other (b := L) (j := 1) (Ne.symm hLM) (.slice (some ⟨g2, 0, none⟩) l.edges.length c2)
  have gK1 := ((k1.below hb2).other (b := L) (j := 0) (by omega) (.slice (some ⟨g1, 0, none⟩) l.at_.length c1)).other (b := L) (j := 1) (by omega) (.slice (some ⟨g2, 0, none⟩) l.edges.length c2)
  have gK2 := (k2.other (b := L) (j := 0) (by omega) (.slice (some ⟨g1, 0, none⟩) l.at_.length c1)).other (b := L) (j := 1) (by omega) (.slice (some ⟨g2, 0, none⟩) l.edges.length c2)
  have gz : w.heap.size ≤ ((w2.setCell ⟨L, 0, none⟩ (.slice (some ⟨g1, 0, none⟩) l.at_.length c1)).setCell ⟨L, 1, none⟩ (.slice (some ⟨g2, 0, none⟩) l.edges.length c2)).heap.size := by simp [World.setCell]; omega
  rename_i hheld
  have gF := hheld.2
  clear hheld
  generalize (w2.setCell ⟨L, 0, none⟩ (.slice (some ⟨g1, 0, none⟩) l.at_.length c1)).setCell ⟨L, 1, none⟩ (.slice (some ⟨g2, 0, none⟩) l.edges.length c2) = W3 at *
  simp at gL
  have e2 : W3.cell? ⟨L, 2, none⟩ = some (.map (some M)) := by rw [gL.cell]; rfl
  have hcl := fun ty => run_clear_map (ty := ty) (P := Tryd.prog) (t := 110) Tryd.underlying110 gM
  have HH := Lib.hid (And.intro gL (And.intro gM (And.intro gK1 (And.intro gK2 (And.intro gz gF)))))
  clear gF gL gM gK1 gK2 gz k1 k2 hb1 hb2 hB1 hB2
  go_wp2
  go_end0
  obtain ⟨gL, gM, gK1, gK2, gz, gF⟩ := HH.out
  refine ⟨rfl, ⟨_, _, gL.put hLM _, IntsAt.of_blk (gK1.put (by omega) _), PairsAt.of_blk (gK2.put (by omega) _)⟩, World.putObj_heap_same gM.lt, gF.put M _⟩
end Go.Proofs.YtlhldkiggmlegaaDoor

namespace Go.Proofs.YtlhldkiggmlegaaDoor
open Go.RowKit

theorem LogAt.ne {w : World} {l : LogD} {va ve : Value} (h1 : IntsAt w va l.at_) (h2 : PairsAt w ve l.edges) (h0 : l.at_ ≠ []) (h0' : l.edges ≠ []) {L : Nat} (hL : w.heap.size ≤ L) :
    (∀ b off n c, va = .slice (some ⟨b, off, none⟩) n c → b ≠ L) ∧ (∀ b off n c, ve = .slice (some ⟨b, off, none⟩) n c → b ≠ L) := by
  constructor
  · rintro b off n c rfl rfl
    obtain ⟨a, cap, e, hc⟩ := h1
    obtain ⟨b', off', ea, hc⟩ := hc h0
    cases e; cases ea
    have := lt_of_cell (hc 0 (by cases hl : l.at_ with | nil => exact absurd hl h0 | cons _ _ => simp))
    omega
  · rintro b off n c rfl rfl
    obtain ⟨a, cap, e, hc⟩ := h2
    obtain ⟨b', off', ea, hc⟩ := hc h0'
    cases e; cases ea
    have := lt_of_cell (hc 0 (by cases hl : l.edges with | nil => exact absurd hl h0' | cons _ _ => simp)).1
    omega

theorem Fit.ne {l : List Int} {e : List (Int × Int)} (h : Fit l [e]) : l ≠ [] ∧ e ≠ [] := by
  have h2 := h.two
  have hl := h.lens e (by simp)
  constructor
  · rintro rfl; simp at h2
  · rintro rfl; simp at hl; omega

/-- A lathe with the log, all of it new; its map is empty. -/
def Laid (w : World) (l : LogD) (e : Ending) (w' : World) : Prop :=
  ∃ L M clock, e = .returned (.tuple #[.pointer (some ⟨L, 0, none⟩), .int .i64 0]) ∧ LatheAt w' L M l ∧ Blk w' M (.map #[] clock) ∧ w.heap.size ≤ L ∧ w.heap.size ≤ M ∧ Below w.heap.size w w'

set_option maxHeartbeats 1000000 in
theorem lay_ok (v : Value) (l : LogD) (w : World) (hv : LogAt w v l) (hs : l.small) (h0 : logErr l = 0) :
    Calls Tryd.prog 59 #[v] w (Laid w l) := by
  obtain ⟨va, ve, rfl, h1, h2⟩ := hv
  obtain ⟨a, cap, rfl⟩ := h1.slice
  obtain ⟨a', cap', rfl⟩ := h2.slice
  have hf : Fit l.at_ [l.edges] := placesErr_zero h0
  obtain ⟨n1, n2⟩ := hf.ne
  have hle := hf.eight
  have H1 := Lib.hid h1
  have H2 := Lib.hid h2
  have HS := Lib.hid hs
  have H0 := Lib.hid h0
  have hN := Lib.hid (And.intro n1 n2)
  have hle2 := Lib.hid (hf.lens l.edges (by simp))
  clear h1 h2 hs h0 hf n1 n2
  go_enter Tryd.func59, Tryd.ntmps59
  go_wp2_with fail
  refine (CheckLog_any _ l _ (LogAt.below ⟨_, _, rfl, H1.out, H2.out⟩ (below1 _ _)) HS.out).mono ?_
  rintro e w1 ⟨rfl, hb1⟩
  rw [H0.out]
  have hB1 := after1 hb1
  have hz1 := hb1.size
  simp at hz1
  obtain ⟨hc, hf⟩ := bcell hb1
  have e0 : w1.cell? ⟨w.heap.size, 0, none⟩ = some (.slice a l.at_.length cap) := by rw [hc _ _ (by simp)]; go_simp
  have e1 : w1.cell? ⟨w.heap.size, 1, none⟩ = some (.slice a' l.edges.length cap') := by rw [hc _ _ (by simp)]; go_simp
  clear hc hf
  go_wp2_with fail
  refine (newLathe_any _).mono ?_
  rintro e w2 ⟨rfl, rfl⟩
  have hb2 := below2 w1 (.map #[] 0) (.cells #[.slice none 0 0, .slice none 0 0, .map (some w1.heap.size)] 112)
  have e0' := (hb2.cell (p := ⟨w.heap.size, 0, none⟩) (show w.heap.size < _ by omega)).trans e0
  have e1' := (hb2.cell (p := ⟨w.heap.size, 1, none⟩) (show w.heap.size < _ by omega)).trans e1
  have bL := Blk.new (w1.alloc (.map #[] 0)) (.cells #[.slice none 0 0, .slice none 0 0, .map (some w1.heap.size)] 112)
  have bM := (Blk.new w1 (.map #[] 0)).alloc (.cells #[.slice none 0 0, .slice none 0 0, .map (some w1.heap.size)] 112)
  rw [World.size_alloc] at bL
  have H1' := H1.out.below (hB1.trans (hb2.mono hB1.size))
  have H2' := H2.out.below (hB1.trans (hb2.mono hB1.size))
  obtain ⟨x1, x2⟩ := LogAt.ne (l := l) (L := w1.heap.size + 1) (H1.out.below hB1) (H2.out.below hB1) hN.out.1 hN.out.2 (by omega)
  have hP := Lib.hid (put_any (w1.heap.size + 1) w1.heap.size _ _ #[] 0 (.agg #[.slice a l.at_.length cap, .slice a' l.edges.length cap']) l _ ⟨_, _, rfl, H1', H2'⟩ hN.out.1 hN.out.2 (by omega) (by have := hle2.out; omega) bL bM
    (fun va h => by obtain ⟨_, h⟩ := h; cases h; exact x1) (fun ve h => by obtain ⟨_, h⟩ := h; cases h; exact x2))
  have hB2 := Lib.hid (hB1.trans (hb2.mono hB1.size))
  clear bL bM H1' H2' x1 x2 hb1 hb2 hB1
  go_wp2_with fail
  refine hP.out.mono ?_
  rintro e w3 ⟨rfl, hL, hM, hF⟩
  have hz3 := hF.size
  simp at hz3
  have HL := Lib.hid (And.intro hL (And.intro hM hF))
  clear hL hM hF
  go_wp2
  go_ret2
  obtain ⟨hL, hM, hF⟩ := HL.out
  refine ⟨_, _, _, rfl, hL, hM, by omega, by omega, ?_⟩
  have hB := hB2.out
  exact ⟨hF.os.trans hB.os, hF.tape.trans hB.tape, hF.output.trans hB.output, by omega, fun k hk => (hF.same k (by simp; omega) (by omega) (by omega)).trans (hB.block k hk)⟩

set_option maxHeartbeats 1000000 in
theorem lay_err (v : Value) (l : LogD) (w : World) (hv : LogAt w v l) (hs : l.small) (h0 : ¬ logErr l = 0) :
    Calls Tryd.prog 59 #[v] w fun e w' => e = .returned (.tuple #[.pointer none, .int .i64 (logErr l)]) ∧ Below w.heap.size w w' := by
  obtain ⟨va, ve, rfl, h1, h2⟩ := hv
  obtain ⟨a, cap, rfl⟩ := h1.slice
  obtain ⟨a', cap', rfl⟩ := h2.slice
  have H1 := Lib.hid h1
  have H2 := Lib.hid h2
  have HS := Lib.hid hs
  have H0 : (logErr l != 0) = true := by simp [h0]
  clear h1 h2 hs h0
  go_enter Tryd.func59, Tryd.ntmps59
  go_wp2_with fail
  refine (CheckLog_any _ l _ (LogAt.below ⟨_, _, rfl, H1.out, H2.out⟩ (below1 _ _)) HS.out).mono ?_
  rintro e w1 ⟨rfl, hb1⟩
  go_wp2
  go_ret2
  exact ⟨rfl, after1 hb1⟩
end Go.Proofs.YtlhldkiggmlegaaDoor

namespace Go.Proofs.YtlhldkiggmlegaaDoor
open Go.RowKit

/-! ## The function Core -/
/-- No fraction: what comes with an error. -/
abbrev zq : Value := .agg #[.int .i64 0, .int .i64 0]
def coreOf (l : LogD) (den start step : Int) : Rat := (leastR (coreList l (strAt den start step))).getD 0
def coreE (l : LogD) (den start step : Int) : Int := if logErr l = 0 then lineErr den start step else logErr l
def coreV (l : LogD) (den start step : Int) : Value := if coreE l den start step = 0 then qv (coreOf l den start step) else zq

set_option maxHeartbeats 1000000 in
theorem Core_any (v : Value) (l : LogD) (den start step : Int) (w : World) (hv : LogAt w v l) (hs : l.small) :
    Calls Tryd.prog 20 #[v, .agg #[.int .i64 den, .int .i64 start, .int .i64 step]] w fun e w' => e = .returned (.tuple #[coreV l den start step, .int .i64 (coreE l den start step)]) ∧ Below w.heap.size w w' := by
  obtain ⟨va, ve, rfl, h1, h2⟩ := hv
  obtain ⟨a, cap, rfl⟩ := h1.slice
  obtain ⟨a', cap', rfl⟩ := h2.slice
  have HV : Hid (LogAt w (.agg #[.slice a l.at_.length cap, .slice a' l.edges.length cap']) l) := Lib.hid ⟨_, _, rfl, h1, h2⟩
  have HS := Lib.hid hs
  clear h1 h2 hs
  by_cases h0 : logErr l = 0
  · have H0 := Lib.hid h0
    have hE : coreE l den start step = lineErr den start step := if_pos h0
    have HE := Lib.hid hE
    clear h0 hE
    go_enter Tryd.func20, Tryd.ntmps20
    have hmf : ∀ (fn : Fn) (first cap : Array Value) (w : World), (Instr.makeFunc fn first cap).run Tryd.prog w = .ok (.func fn first cap) w := fun _ _ _ _ => rfl
    go_wp2_with fail
    refine (lay_ok _ l _ (HV.out.below (below3 _ _ _ _)) HS.out H0.out).mono ?_
    rintro e w1 ⟨L, M, clock, rfl, hL, hM, l1, l2, hb1⟩
    have hz1 := hb1.size
    simp at hz1 l1 l2
    have hB1 := after3 hb1
    obtain ⟨hc, hf⟩ := bcell hb1
    have d0 : w1.cell? ⟨w.heap.size + 1, 0, none⟩ = some (.int .i64 den) := by rw [hc _ _ (by simp)]; go_simp
    have d1 : w1.cell? ⟨w.heap.size + 1, 1, none⟩ = some (.int .i64 start) := by rw [hc _ _ (by simp)]; go_simp
    have d2 : w1.cell? ⟨w.heap.size + 1, 2, none⟩ = some (.int .i64 step) := by rw [hc _ _ (by simp)]; go_simp
    have r0 : w1.cell? ⟨w.heap.size + 1 + 1, 0, none⟩ = some (.int .i64 0) := by rw [hc _ _ (by simp)]; go_simp
    have r1 : w1.cell? ⟨w.heap.size + 1 + 1, 1, none⟩ = some (.int .i64 0) := by rw [hc _ _ (by simp)]; go_simp
    have f0 : w1.frozen? ⟨w.heap.size + 1 + 1, 0, none⟩ = false := by rw [hf _ _ (by simp)]; go_simp
    have f1 : w1.frozen? ⟨w.heap.size + 1 + 1, 1, none⟩ = false := by rw [hf _ _ (by simp)]; go_simp
    have HL := Lib.hid hL
    clear hc hf hL hM hb1
    go_wp2_with fail
    refine (CheckLine_any den start step _).mono ?_
    rintro e w2 ⟨rfl, hb2⟩
    have hB2 : Below w.heap.size w w2 := hB1.trans (hb2.mono hB1.size)
    have hz2 := hb2.size
    replace d0 := cellB d0 hb2
    replace d1 := cellB d1 hb2
    replace d2 := cellB d2 hb2
    replace r0 := cellB r0 hb2
    replace r1 := cellB r1 hb2
    replace f0 := (hb2.frozen (p := ⟨w.heap.size + 1 + 1, 0, none⟩) (show w.heap.size + 1 + 1 < _ by omega)).trans f0
    replace f1 := (hb2.frozen (p := ⟨w.heap.size + 1 + 1, 1, none⟩) (show w.heap.size + 1 + 1 < _ by omega)).trans f1
    by_cases g0 : lineErr den start step = 0
    · have hV : coreV l den start step = qv (coreOf l den start step) := if_pos (by rw [HE.out, g0])
      have HV2 := Lib.hid hV
      have G0 := Lib.hid g0
      rw [g0]
      clear g0 hV
      go_wp2_with fail
      refine (core_any L M l den start step _ (HL.out.below hb2) (placesErr_zero H0.out) (lineErr_zero G0.out)).mono ?_
      rintro e w3 ⟨⟨r, hr, rfl⟩, hb3⟩
      have hco : coreOf l den start step = r := by unfold coreOf; rw [hr]; rfl
      have HC := Lib.hid hco
      clear hr hco
      replace r0 := cellB r0 hb3
      replace r1 := cellB r1 hb3
      replace f0 := (hb3.frozen (p := ⟨w.heap.size + 1 + 1, 0, none⟩) (show w.heap.size + 1 + 1 < _ by omega)).trans f0
      replace f1 := (hb3.frozen (p := ⟨w.heap.size + 1 + 1, 1, none⟩) (show w.heap.size + 1 + 1 < _ by omega)).trans f1
      have hz3 := hb3.size
      unfold qv
      clear d0 d1 d2
      go_wp2
      refine bodyPost_ret (v := .tuple #[qv r, .int .i64 0]) (by simp [results, Tryd.results20, go_sem, qv, r0, r1]) rfl ⟨by rw [HV2.out, HE.out, G0.out, HC.out], ?_⟩
      exact ((hB2.trans (hb3.mono hB2.size)).setCell (by simp; omega) _).setCell (by simp; omega) _
    · have g0' : (lineErr den start step != 0) = true := by simp [g0]
      have hV : coreV l den start step = zq := if_neg (by rw [HE.out]; exact g0)
      have HV2 := Lib.hid hV
      clear g0 hV
      go_wp2
      refine bodyPost_ret (v := .tuple #[zq, .int .i64 (lineErr den start step)]) (by simp [results, Tryd.results20, go_sem, r0, r1]) rfl ⟨by rw [HV2.out, HE.out], ?_⟩
      exact (hB2.setCell (by simp; omega) _).setCell (by simp; omega) _
  · have h0' : (logErr l != 0) = true := by simp [h0]
    have hE : coreE l den start step = logErr l := if_neg h0
    have hV : coreV l den start step = zq := if_neg (by rw [hE]; exact h0)
    have HE := Lib.hid hE
    have HV2 := Lib.hid hV
    have H0 := Lib.hid h0
    clear h0 hE hV
    go_enter Tryd.func20, Tryd.ntmps20
    go_wp2_with fail
    refine (lay_err _ l _ (HV.out.below (below3 _ _ _ _)) HS.out H0.out).mono ?_
    rintro e w1 ⟨rfl, hb1⟩
    have hz1 := hb1.size
    simp at hz1
    have hB1 := after3 hb1
    obtain ⟨hc, hf⟩ := bcell hb1
    have r0 : w1.cell? ⟨w.heap.size + 1 + 1, 0, none⟩ = some (.int .i64 0) := by rw [hc _ _ (by simp)]; go_simp
    have r1 : w1.cell? ⟨w.heap.size + 1 + 1, 1, none⟩ = some (.int .i64 0) := by rw [hc _ _ (by simp)]; go_simp
    have f0 : w1.frozen? ⟨w.heap.size + 1 + 1, 0, none⟩ = false := by rw [hf _ _ (by simp)]; go_simp
    have f1 : w1.frozen? ⟨w.heap.size + 1 + 1, 1, none⟩ = false := by rw [hf _ _ (by simp)]; go_simp
    clear hc hf
    go_wp2
    refine bodyPost_ret (v := .tuple #[zq, .int .i64 (logErr l)]) (by simp [results, Tryd.results20, go_sem, r0, r1]) rfl ⟨by rw [HV2.out, HE.out], ?_⟩
    exact (hB1.setCell (by simp; omega) _).setCell (by simp; omega) _
end Go.Proofs.YtlhldkiggmlegaaDoor
