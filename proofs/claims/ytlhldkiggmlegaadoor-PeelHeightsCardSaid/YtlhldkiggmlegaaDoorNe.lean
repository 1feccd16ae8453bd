import Derived.Test.YtlhldkiggmlegaaDoorNd
import Derived.Test.YtlhldkiggmlegaaDoorNc
namespace Go.Proofs.YtlhldkiggmlegaaDoor
open Go.RowKit

/-! ## What a proof proves -/
theorem fr_int {n : Int} (h1 : -1000 ≤ n) (h2 : n ≤ 1000) (d : Nat) (hd : 0 < d) : Fr (1 * d) 1000 (n : Rat) := (Fr.int (D := 1) h1 h2 (by omega)).wide d hd
theorem line_fr {a b x : Int} {y z : Int} (h1 : -1000 ≤ y) (h2 : y ≤ 1000) (h3 : -1000 ≤ z) (h4 : z ≤ 1000) (h5 : -100 ≤ x - a) (h6 : x - a ≤ 100) (h7 : 0 < b - a) :
    Fr (1 * (b - a).toNat) (2000 * 100) (((z : Rat) - (y : Rat)) * ((x - a : Int) : Rat) / ((b - a : Int) : Rat)) ∧ Fr (1 * (b - a).toNat) (201000) (lineAt (a, (y : Rat)) (b, (z : Rat)) x) := by
  have e1 := Fr.sub (Fr.int (D := 1) (M := 1000) h3 h4 (by omega)) (Fr.int (D := 1) (M := 1000) h1 h2 (by omega))
  have e2 := e1.part h5 h6 h7 (by omega)
  exact ⟨e2, (fr_int h1 h2 (b - a).toNat (by omega)).add e2⟩
theorem line_fine {a b x : Int} {y z n : Int} (h1 : -1000 ≤ y) (h2 : y ≤ 1000) (h3 : -1000 ≤ z) (h4 : z ≤ 1000) (h5 : -100 ≤ x - a) (h6 : x - a ≤ 100) (h7 : 0 < b - a) (h8 : b - a ≤ 100) (g1 : -1000 ≤ n) (g2 : n ≤ 1000) :
    Fine (((z : Rat) - (y : Rat)) * ((x - a : Int) : Rat) / ((b - a : Int) : Rat)) ∧ Fine (lineAt (a, (y : Rat)) (b, (z : Rat)) x) ∧ Fine ((n : Rat) - lineAt (a, (y : Rat)) (b, (z : Rat)) x) ∧ Fine (lineAt (a, (y : Rat)) (b, (z : Rat)) x - (n : Rat)) := by
  obtain ⟨e1, e2⟩ := line_fr (b := b) h1 h2 h3 h4 h5 h6 h7
  have e3 := fr_int g1 g2 (b - a).toNat (by omega)
  have hd : 1 * (b - a).toNat ≤ 100 := by omega
  have hp : 0 < 1 * (b - a).toNat := by omega
  have hm : ∀ M : Int, 0 ≤ M → M ≤ 300000 → M * ((1 * (b - a).toNat : Nat) : Int) ≤ 17592186044416 := by
    intro M hM hM'
    have := mul_bd M ((1 * (b - a).toNat : Nat) : Int) 300000 100 (by omega) hM' (by omega) (by omega) (by omega)
    omega
  exact ⟨e1.fine hp (by omega) (hm _ (by omega) (by omega)), e2.fine hp (by omega) (hm _ (by omega) (by omega)), (e3.sub e2).fine hp (by omega) (hm _ (by omega) (by omega)), (e2.sub e3).fine hp (by omega) (hm _ (by omega) (by omega))⟩
def atD (l : LogD) (k : Nat) : Int := l.at_.getD k 0
def loD (l : LogD) (k : Nat) : Int := (l.edges.getD k (0, 0)).1
def hiD (l : LogD) (k : Nat) : Int := (l.edges.getD k (0, 0)).2
theorem atD_eq {l : LogD} {k : Nat} (h : k < l.at_.length) : l.at_[k] = atD l k := by simp [atD, h]
theorem loD_eq {l : LogD} {k : Nat} (h : k < l.edges.length) : l.edges[k].1 = loD l k := by simp [loD, h]
theorem hiD_eq {l : LogD} {k : Nat} (h : k < l.edges.length) : l.edges[k].2 = hiD l k := by simp [hiD, h]
def half (r : Rat) : Rat := r * ((1 : Int) : Rat) / ((2 : Int) : Rat)
def loP (l : LogD) (k : Nat) : Pt := (atD l k, (loD l k : Rat))
def hiP (l : LogD) (k : Nat) : Pt := (atD l k, (hiD l k : Rat))
/-- What a proof proves: the place in the middle, the outer ones, and the side. -/
def provesV (l : LogD) (m f t : Nat) (s : Int) : Rat :=
  if s = 1 then half ((hiD l m : Rat) - lineAt (loP l f) (loP l t) (atD l m)) else
  if s = 2 then half (lineAt (hiP l f) (hiP l t) (atD l m) - (loD l m : Rat)) else half ((hiD l m : Rat) - (loD l m : Rat))
theorem lower0_any (L M k : Nat) (l : LogD) (w : World) (hl : LatheAt w L M l) (hf : Fit l.at_ [l.edges]) (hk : k < l.at_.length) (hk' : k < l.edges.length) :
    Calls Tryd.prog 97 #[.pointer (some ⟨L, 0, none⟩), .int .i64 k, .agg #[.int .i64 0, .int .i64 1]] w fun e w' => e = .returned (.agg #[.int .i64 (atD l k), .int .i64 (loD l k), .int .i64 1]) ∧ Below w.heap.size w w' := by
  obtain ⟨y1, y2, y3⟩ := okEdges_get (hf.edges _ (List.mem_singleton.2 rfl)) k hk'
  have hlen := hf.lens _ (List.mem_singleton.2 rfl)
  have := lower_any L M k l 0 w hl hk hk' (by have := hf.eight; omega) (by have := hf.eight; omega) (fine_int (n := 0) (by omega) (by omega)) (by omega) (by omega)
  rw [Rat.add_zero] at this
  rw [← atD_eq hk, ← loD_eq hk']
  exact this
theorem upper0_any (L M k : Nat) (l : LogD) (w : World) (hl : LatheAt w L M l) (hf : Fit l.at_ [l.edges]) (hk : k < l.at_.length) (hk' : k < l.edges.length) :
    Calls Tryd.prog 98 #[.pointer (some ⟨L, 0, none⟩), .int .i64 k, .agg #[.int .i64 0, .int .i64 1]] w fun e w' => e = .returned (.agg #[.int .i64 (atD l k), .int .i64 (hiD l k), .int .i64 1]) ∧ Below w.heap.size w w' := by
  obtain ⟨y1, y2, y3⟩ := okEdges_get (hf.edges _ (List.mem_singleton.2 rfl)) k hk'
  have hlen := hf.lens _ (List.mem_singleton.2 rfl)
  have := upper_any L M k l 0 w hl hk hk' (by have := hf.eight; omega) (by have := hf.eight; omega) (fine_int (n := 0) (by omega) (by omega)) (by omega) (by omega)
  rw [Rat.sub_eq_add_neg, Rat.neg_zero, Rat.add_zero] at this
  rw [← atD_eq hk, ← hiD_eq hk']
  exact this
theorem whole0_any (w : World) : Calls Tryd.prog 70 #[.int .i64 0] w fun e w' => e = .returned (.agg #[.int .i64 0, .int .i64 1]) ∧ Below w.heap.size w w' := whole_any 0 w

theorem bA {w W : World} {o : Obj} (h : Below w.heap.size w W) : Below w.heap.size w (W.alloc o) := h.alloc h.size o
theorem bA2 {w W : World} {o o' : Obj} (h : Below w.heap.size w W) : Below w.heap.size w ((W.alloc o).alloc o') := bA (bA h)
theorem bC {w W W' : World} (h : Below w.heap.size w W) (hb : Below W.heap.size W W') : Below w.heap.size w W' := h.trans (hb.mono h.size)
theorem bC2 {w W W' : World} (h : Below w.heap.size w W) (hb : Below W.heap.size W W') : Below w.heap.size w W' ∧ w.heap.size ≤ W'.heap.size := ⟨bC h hb, (bC h hb).size⟩
theorem bS3 {w W : World} {b : Nat} {u v z : Value} (h : Below w.heap.size w W) (hb : w.heap.size ≤ b) : Below w.heap.size w (((W.setCell ⟨b, 0, none⟩ u).setCell ⟨b, 1, none⟩ v).setCell ⟨b, 2, none⟩ z) :=
  ((h.setCell hb _).setCell hb _).setCell hb _
theorem bSA3 {w W : World} {b : Nat} {o : Obj} {u v z : Value} (h : Below w.heap.size w W) (hb : w.heap.size ≤ b) : Below w.heap.size w ((((W.setCell ⟨b, 0, none⟩ u).setCell ⟨b, 1, none⟩ v).setCell ⟨b, 2, none⟩ z).alloc o) := bA (bS3 h hb)
theorem latheFrom {w W0 W : World} {L M : Nat} {l : LogD} (hl : LatheAt w L M l) (h0 : Below w.heap.size w W0) (h : Below W0.heap.size W0 W) : LatheAt W L M l := hl.below (h0.trans (h.mono h0.size))

theorem fine_isub {m n : Int} (h1 : -17592186044416 ≤ m - n) (h2 : m - n ≤ 17592186044416) : Fine ((m : Rat) - (n : Rat)) := by
  rw [← Rat.intCast_sub]
  exact fine_int h1 h2
theorem q3 {v : World} {c t : Nat} (hb : Blk v c (.cells #[.int .i64 0, .int .i64 0, .int .i64 0] t)) : v.cell? ⟨c, 0, none⟩ = some (.int .i64 0) ∧ v.cell? ⟨c, 1, none⟩ = some (.int .i64 0) ∧ v.cell? ⟨c, 2, none⟩ = some (.int .i64 0) ∧ (v.frozen? ⟨c, 0, none⟩ = false ∧ v.frozen? ⟨c, 1, none⟩ = false ∧ v.frozen? ⟨c, 2, none⟩ = false) ∧ c < v.heap.size ∧ ((c = v.heap.size) = False) ∧ ((v.heap.size = c) = False) := by
  have hlt := hb.lt
  refine ⟨by rw [hb.cell]; rfl, by rw [hb.cell]; rfl, by rw [hb.cell]; rfl, ⟨hb.frozen _, hb.frozen _, hb.frozen _⟩, hlt, by simp; omega, by simp; omega⟩
theorem n1 {U v : World} {o : Obj} (h : Below (U.alloc o).heap.size (U.alloc o) v) : Blk v U.heap.size o := (Blk.new U o).below h
theorem n1d {U v : World} {o : Obj} (h : Below (U.alloc o).drew.heap.size (U.alloc o).drew v) : Blk v U.heap.size o := (Blk.new U o).drew.below h
theorem n2 {U v : World} {o o' : Obj} (h : Below ((U.alloc o).alloc o').heap.size ((U.alloc o).alloc o') v) : Blk v U.heap.size o := ((Blk.new U o).alloc o').below h
theorem n2d {U v : World} {o o' : Obj} (h : Below ((U.alloc o).alloc o').drew.heap.size ((U.alloc o).alloc o').drew v) : Blk v U.heap.size o := ((Blk.new U o).alloc o').drew.below h
theorem oldB {U v : World} {c : Nat} {o : Obj} (k : Blk U c o) (h : Below U.heap.size U v) : Blk v c o := k.below h
theorem oldA {U v : World} {c : Nat} {o o' : Obj} (k : Blk U c o) (h : Below (U.alloc o').heap.size (U.alloc o') v) : Blk v c o := (k.alloc o').below h

/-- What the last region reads and writes. -/
def S6 (r b : Nat) (x y : Int) (w W : World) : Prop :=
  (W.cell? ⟨b, 0, none⟩ = some (.int .i64 x) ∧ W.cell? ⟨b, 1, none⟩ = some (.int .i64 y) ∧ W.cell? ⟨b, 2, none⟩ = some (.int .i64 1) ∧
  W.cell? ⟨r, 0, none⟩ = some (theCell W ⟨r, 0, none⟩) ∧ W.cell? ⟨r, 1, none⟩ = some (theCell W ⟨r, 1, none⟩) ∧ W.frozen? ⟨r, 0, none⟩ = false ∧ W.frozen? ⟨r, 1, none⟩ = false) ∧ Below w.heap.size w W
theorem S6.keep {r b : Nat} {x y : Int} {w W W' : World} (h : S6 r b x y w W) (hb : Below W.heap.size W W') : S6 r b x y w W' := by
  obtain ⟨⟨s1, s2, s3, s7, s8, f1, f2⟩, hB⟩ := h
  have hl := lt_of_cell s7
  exact ⟨⟨cellB s1 hb, cellB s2 hb, cellB s3 hb, theCell_of (cellB s7 hb), theCell_of (cellB s8 hb), (hb.frozen (p := ⟨r, 0, none⟩) hl).trans f1, (hb.frozen (p := ⟨r, 1, none⟩) hl).trans f2⟩, hB.trans (hb.mono hB.size)⟩
theorem S6.store {r b : Nat} {x y : Int} {w W : World} (hr : r ≠ b) (hw : w.heap.size ≤ r) (u v : Value) (h : S6 r b x y w W) : S6 r b x y w ((W.setCell ⟨r, 0, none⟩ u).setCell ⟨r, 1, none⟩ v) := by
  obtain ⟨⟨s1, s2, s3, s7, s8, f1, f2⟩, hB⟩ := h
  refine ⟨⟨cell_other (cell_other s1 (by omega)) (by omega), cell_other (cell_other s2 (by omega)) (by omega), cell_other (cell_other s3 (by omega)) (by omega), ?_, ?_, by simpa only [World.frozen?_setCell] using f1, by simpa only [World.frozen?_setCell] using f2⟩, (hB.setCell hw _).setCell hw _⟩
  · obtain ⟨_, t⟩ := cell_some (p := ⟨r, 0, none⟩) (u := u) s7
    obtain ⟨_, t⟩ := cell_some (p := ⟨r, 1, none⟩) (u := v) t
    exact theCell_of t
  · obtain ⟨_, t⟩ := cell_some (p := ⟨r, 0, none⟩) (u := u) s8
    obtain ⟨_, t⟩ := cell_some (p := ⟨r, 1, none⟩) (u := v) t
    exact theCell_of t

set_option maxRecDepth 100000 in
set_option maxHeartbeats 1000000 in
theorem proves_any (L M m f t : Nat) (s : Int) (l : LogD) (w : World) (hl : LatheAt w L M l) (hf : Fit l.at_ [l.edges]) (hm : m < l.at_.length) (hm' : m < l.edges.length) (hf1 : f < l.at_.length) (hf2 : f < l.edges.length) (ht1 : t < l.at_.length) (ht2 : t < l.edges.length) (hs : s = 1 ∨ s = 2 → atD l f < atD l t) :
    Calls Tryd.prog 72 #[.pointer (some ⟨L, 0, none⟩), .agg #[.int .i64 f, .int .i64 m, .int .i64 t, .int .i64 s]] w fun e w' => e = .returned (qv (provesV l m f t s)) ∧ Below w.heap.size w w' := by
  have hedge : ∀ k, k < l.edges.length → -1000 ≤ loD l k ∧ loD l k ≤ 1000 ∧ -1000 ≤ hiD l k ∧ hiD l k ≤ 1000 := by
    intro k hk
    obtain ⟨y1, y2, y3⟩ := okEdges_get (hf.edges _ (List.mem_singleton.2 rfl)) k hk
    rw [loD_eq hk, hiD_eq hk] at *
    omega
  have hats : ∀ k, k < l.at_.length → 0 ≤ atD l k ∧ atD l k ≤ 100 := by
    intro k hk
    obtain ⟨x1, x2⟩ := okInts_get hf.ats k hk
    rw [atD_eq hk] at *
    omega
  have E1 := Lib.hid (hedge m hm')
  have E2 := Lib.hid (hedge f hf2)
  have E3 := Lib.hid (hedge t ht2)
  have A1 := Lib.hid (hats m hm)
  have A2 := Lib.hid (hats f hf1)
  have A3 := Lib.hid (hats t ht1)
  have HL := Lib.hid hl
  have HF := Lib.hid hf
  have HS := Lib.hid hs
  clear hl hf hs hedge hats
  go_enter Tryd.func72, Tryd.ntmps72
  go_wp2_with fail
  refine (whole0_any _).mono ?_
  rintro e w1 ⟨rfl, hb1⟩
  have hz1 := hb1.size
  simp at hz1
  have hB1 := after2 hb1
  obtain ⟨hc, hf⟩ := bcell hb1
  have p0 : w1.cell? ⟨w.heap.size, 0, none⟩ = some (.int .i64 f) := by rw [hc _ _ (by simp; omega)]; go_simp
  have p1 : w1.cell? ⟨w.heap.size, 1, none⟩ = some (.int .i64 m) := by rw [hc _ _ (by simp; omega)]; go_simp
  have p2 : w1.cell? ⟨w.heap.size, 2, none⟩ = some (.int .i64 t) := by rw [hc _ _ (by simp; omega)]; go_simp
  have p3 : w1.cell? ⟨w.heap.size, 3, none⟩ = some (.int .i64 s) := by rw [hc _ _ (by simp; omega)]; go_simp
  have bR : Blk w1 (w.heap.size + 1) (.cells #[.int .i64 0, .int .i64 0] 31) := by
    have := (Blk.new (w.alloc (.cells #[.int .i64 f, .int .i64 m, .int .i64 t, .int .i64 s] 45)) (.cells #[.int .i64 0, .int .i64 0] 31)).below hb1
    rwa [World.size_alloc] at this
  clear hc hf
  go_upto_region 2 with (fail)
  obtain ⟨W1, hW1⟩ : ∃ W1, w1.alloc (.cells #[.int .i64 0, .int .i64 1] 31) = W1 := ⟨_, rfl⟩
  have hbz : Below w1.heap.size w1 W1 := by rw [← hW1]; exact below1 _ _
  have bz : Blk W1 w1.heap.size (.cells #[.int .i64 0, .int .i64 1] 31) := by rw [← hW1]; exact Blk.new _ _
  have z0 : W1.cell? ⟨w1.heap.size, 0, none⟩ = some (.int .i64 0) := by rw [bz.cell]; rfl
  have z1 : W1.cell? ⟨w1.heap.size, 1, none⟩ = some (.int .i64 1) := by rw [bz.cell]; rfl
  have hBW : Below w.heap.size w W1 := hB1.trans (hbz.mono hB1.size)
  have hRR := Lib.hid (bR.below hbz)
  have hBW' := Lib.hid hBW
  have hzW : w1.heap.size < W1.heap.size := by rw [← hW1]; simp
  have hzW0 : w.heap.size < W1.heap.size := by omega
  have hzW1 : w.heap.size + 1 < W1.heap.size := by omega
  have HSX : Hid (∀ W, Below W1.heap.size W1 W → ((W.cell? ⟨w.heap.size, 1, none⟩ = some (.int .i64 m) ∧ W.cell? ⟨w.heap.size, 3, none⟩ = some (.int .i64 s) ∧ W.cell? ⟨w1.heap.size, 0, none⟩ = some (.int .i64 0) ∧ W.cell? ⟨w1.heap.size, 1, none⟩ = some (.int .i64 1)) ∧ Below W1.heap.size W1 W)) := Lib.hid (fun W h => ⟨⟨cellB (cellB p1 hbz) h, cellB (cellB p3 hbz) h, cellB (z0) h, cellB (z1) h⟩, h⟩)
  have hb0 : Below W1.heap.size W1 W1.drew := (Below.refl _ _).drew
  rw [hW1]
  have p0' := cellB p0 hbz
  have p1' := cellB p1 hbz
  have p2' := cellB p2 hbz
  have p3' := cellB p3 hbz
  clear hW1 bz p0 p1 p2 p3 bR hb1 hBW hbz hB1
  have hAC : ∀ (W : World) (o : Obj) (b j : Nat), b < W.heap.size → (W.alloc o).cell? ⟨b, j, none⟩ = W.cell? ⟨b, j, none⟩ := fun W o b j h => (below1 W o).cell (p := ⟨b, j, none⟩) h
  have hAF : ∀ (W : World) (o : Obj) (b j : Nat), b < W.heap.size → (W.alloc o).frozen? ⟨b, j, none⟩ = W.frozen? ⟨b, j, none⟩ := fun W o b j h => (below1 W o).frozen (p := ⟨b, j, none⟩) h
  go_cut [6, 7] (fun s6 s7 wx => ∃ a b : Nat, s6 = .pointer (some ⟨a, 0, none⟩) ∧ s7 = .pointer (some ⟨b, 0, none⟩) ∧ wx.cell? ⟨a, 0, none⟩ = some (.int .i64 (atD l m)) ∧ wx.cell? ⟨a, 1, none⟩ = some (.int .i64 (loD l m)) ∧ wx.cell? ⟨a, 2, none⟩ = some (.int .i64 1) ∧ wx.cell? ⟨b, 0, none⟩ = some (.int .i64 (atD l m)) ∧ wx.cell? ⟨b, 1, none⟩ = some (.int .i64 (hiD l m)) ∧ wx.cell? ⟨b, 2, none⟩ = some (.int .i64 1) ∧ a < wx.heap.size ∧ b < wx.heap.size ∧ W1.heap.size ≤ a ∧ W1.heap.size ≤ b ∧ Below W1.heap.size W1 wx)
  case first =>
    go_region_held3 (fun W => (W.cell? ⟨w.heap.size, 1, none⟩ = some (.int .i64 m) ∧ W.cell? ⟨w.heap.size, 3, none⟩ = some (.int .i64 s) ∧ W.cell? ⟨w1.heap.size, 0, none⟩ = some (.int .i64 0) ∧ W.cell? ⟨w1.heap.size, 1, none⟩ = some (.int .i64 1)) ∧ Below W1.heap.size W1 W)
      (((with_reducible refine HSX.out _ ?_); (repeat' (first | (with_reducible assumption) | (with_reducible refine Below.refl _ _) | (with_reducible refine Below.drew ?_) | (with_reducible refine bA ?_) | (with_reducible refine bS3 ?_ ?_) | omega))))
      (first | (go_at_call 97; (with_reducible refine (lower0_any L M m l _ ?_ HF.out hm hm').mono ?_); (with_reducible refine latheFrom HL.out hBW'.out ?_); (repeat' (first | (with_reducible assumption) | (with_reducible refine Below.refl _ _) | (with_reducible refine Below.drew ?_) | (with_reducible refine bA ?_) | (with_reducible refine bS3 ?_ ?_) | omega)); rintro e v2 ⟨rfl, hc2⟩; obtain ⟨hB2x, hz2x⟩ : Below W1.heap.size W1 v2 ∧ W1.heap.size ≤ v2.heap.size := bC2 (by (repeat' (first | (with_reducible assumption) | (with_reducible refine Below.refl _ _) | (with_reducible refine Below.drew ?_) | (with_reducible refine bA ?_) | (with_reducible refine bS3 ?_ ?_) | omega))) hc2; (try (have ka2 := n1 hc2; (try simp only [World.size_alloc] at ka2); obtain ⟨ka21, ka22, ka23, ⟨ka24, ka25, ka26⟩, ka27, ka28, ka29⟩ := q3 ka2)); (try (have ka2 := n1d hc2; (try simp only [World.size_alloc] at ka2); obtain ⟨ka21, ka22, ka23, ⟨ka24, ka25, ka26⟩, ka27, ka28, ka29⟩ := q3 ka2)); (try (have kb2 := n2 hc2; (try simp only [World.size_alloc] at kb2); obtain ⟨kb21, kb22, kb23, ⟨kb24, kb25, kb26⟩, kb27, kb28, kb29⟩ := q3 kb2)); (try (have kb2 := n2d hc2; (try simp only [World.size_alloc] at kb2); obtain ⟨kb21, kb22, kb23, ⟨kb24, kb25, kb26⟩, kb27, kb28, kb29⟩ := q3 kb2)); (try (have kc2 := oldB ka3 hc2; (try simp only [World.size_alloc] at kc2); obtain ⟨kc21, kc22, kc23, ⟨kc24, kc25, kc26⟩, kc27, kc28, kc29⟩ := q3 kc2)); (try (have kc2 := oldA ka3 hc2; (try simp only [World.size_alloc] at kc2); obtain ⟨kc21, kc22, kc23, ⟨kc24, kc25, kc26⟩, kc27, kc28, kc29⟩ := q3 kc2)); (try (have kd2 := oldB kb3 hc2; (try simp only [World.size_alloc] at kd2); obtain ⟨kd21, kd22, kd23, ⟨kd24, kd25, kd26⟩, kd27, kd28, kd29⟩ := q3 kd2)); clear hc2) | (go_at_call 98; (with_reducible refine (upper0_any L M m l _ ?_ HF.out hm hm').mono ?_); (with_reducible refine latheFrom HL.out hBW'.out ?_); (repeat' (first | (with_reducible assumption) | (with_reducible refine Below.refl _ _) | (with_reducible refine Below.drew ?_) | (with_reducible refine bA ?_) | (with_reducible refine bS3 ?_ ?_) | omega)); rintro e v3 ⟨rfl, hc3⟩; obtain ⟨hB3x, hz3x⟩ : Below W1.heap.size W1 v3 ∧ W1.heap.size ≤ v3.heap.size := bC2 (by (repeat' (first | (with_reducible assumption) | (with_reducible refine Below.refl _ _) | (with_reducible refine Below.drew ?_) | (with_reducible refine bA ?_) | (with_reducible refine bS3 ?_ ?_) | omega))) hc3; (try (have ka3 := n1 hc3; (try simp only [World.size_alloc] at ka3); obtain ⟨ka31, ka32, ka33, ⟨ka34, ka35, ka36⟩, ka37, ka38, ka39⟩ := q3 ka3)); (try (have ka3 := n1d hc3; (try simp only [World.size_alloc] at ka3); obtain ⟨ka31, ka32, ka33, ⟨ka34, ka35, ka36⟩, ka37, ka38, ka39⟩ := q3 ka3)); (try (have kb3 := n2 hc3; (try simp only [World.size_alloc] at kb3); obtain ⟨kb31, kb32, kb33, ⟨kb34, kb35, kb36⟩, kb37, kb38, kb39⟩ := q3 kb3)); (try (have kb3 := n2d hc3; (try simp only [World.size_alloc] at kb3); obtain ⟨kb31, kb32, kb33, ⟨kb34, kb35, kb36⟩, kb37, kb38, kb39⟩ := q3 kb3)); (try (have kc3 := oldB ka2 hc3; (try simp only [World.size_alloc] at kc3); obtain ⟨kc31, kc32, kc33, ⟨kc34, kc35, kc36⟩, kc37, kc38, kc39⟩ := q3 kc3)); (try (have kc3 := oldA ka2 hc3; (try simp only [World.size_alloc] at kc3); obtain ⟨kc31, kc32, kc33, ⟨kc34, kc35, kc36⟩, kc37, kc38, kc39⟩ := q3 kc3)); (try (have kd3 := oldB kb2 hc3; (try simp only [World.size_alloc] at kd3); obtain ⟨kd31, kd32, kd33, ⟨kd34, kd35, kd36⟩, kd37, kd38, kd39⟩ := q3 kd3)); clear hc3))
    all_goals (go_wp2_with fail; go_meet; refine ⟨_, _, rfl, rfl, ?_, ?_, ?_, ?_, ?_, ?_, ?_, ?_, ?_, ?_, ?_⟩)
    all_goals (go_split_ands; first | (with_reducible assumption) | (go_simp; done) | (simp [*]; done) | omega | (simp; omega))
  case rest =>
    obtain ⟨a, b, rfl, rfl, a0, a1, a2, b0, b1, b2, ha, hb, hga, hgb, hW⟩ := hcut
    have p0w := cellB p0' hW
    have p2w := cellB p2' hW
    have p3w := cellB p3' hW
    have z0w := cellB z0 hW
    have z1w := cellB z1 hW
    have RR := hRR.out.below hW
    have hBx := Lib.hid (hBW'.out.trans (hW.mono hBW'.out.size))
    have hltx := hBW'.out.size
    have HLx := Lib.hid (HL.out.below hBx.out)
    clear hW p0' p1' p2' p3' z0 z1 HSX hb0 hAC hAF hRR
    obtain ⟨m1, m2, m3, m4⟩ := E1.out
    by_cases hs1 : s = 1
    · subst hs1
      have hlt := HS.out (Or.inl rfl)
      have HLT := Lib.hid hlt
      have hV : provesV l m f t 1 = half ((hiD l m : Rat) - lineAt (loP l f) (loP l t) (atD l m)) := by unfold provesV; rw [if_pos rfl]
      have HV := Lib.hid hV
      obtain ⟨r1, r2, r3, r4⟩ := E2.out
      obtain ⟨u1, u2, u3, u4⟩ := E3.out
      obtain ⟨x1, x2⟩ := A1.out
      obtain ⟨x3, x4⟩ := A2.out
      obtain ⟨x5, x6⟩ := A3.out
      have HFN := Lib.hid (line_fine (a := atD l f) (b := atD l t) (x := atD l m) (y := loD l f) (z := loD l t) (n := hiD l m) (by omega) (by omega) (by omega) (by omega) (by omega) (by omega) (by omega) (by omega) (by omega) (by omega))
      have HD := Lib.hid (fine_isub (m := loD l t) (n := loD l f) (by omega) (by omega))
      have HB1 := Lib.hid (fine_int (n := loD l f) (by omega) (by omega))
      have HB2 := Lib.hid (fine_int (n := loD l t) (by omega) (by omega))
      have HB3 := Lib.hid (fine_int (n := hiD l m) (by omega) (by omega))
      have hzx := lt_of_cell z0w
      have hwx := lt_of_cell p0w
      have HSY : Hid (∀ W, Below wc.heap.size wc W → ((W.cell? ⟨w.heap.size, 0, none⟩ = some (.int .i64 f) ∧ W.cell? ⟨w.heap.size, 2, none⟩ = some (.int .i64 t) ∧ W.cell? ⟨w1.heap.size, 0, none⟩ = some (.int .i64 0) ∧ W.cell? ⟨w1.heap.size, 1, none⟩ = some (.int .i64 1)) ∧ Below wc.heap.size wc W)) := Lib.hid (fun W h => ⟨⟨cellB p0w h, cellB p2w h, cellB z0w h, cellB z1w h⟩, h⟩)
      clear hV E1 E2 E3 HS p0w p2w z0w z1w hlt m1 m2 m3 m4 r1 r2 r3 r4 u1 u2 u3 u4 x1 x2 x3 x4 x5 x6
      go_wp2_with fail
      go_region_held3 (fun W => (W.cell? ⟨w.heap.size, 0, none⟩ = some (.int .i64 f) ∧ W.cell? ⟨w.heap.size, 2, none⟩ = some (.int .i64 t) ∧ W.cell? ⟨w1.heap.size, 0, none⟩ = some (.int .i64 0) ∧ W.cell? ⟨w1.heap.size, 1, none⟩ = some (.int .i64 1)) ∧ Below wc.heap.size wc W)
        (((with_reducible refine HSY.out _ ?_); (repeat' (first | (with_reducible assumption) | (with_reducible refine Below.refl _ _) | (with_reducible refine Below.drew ?_)))))
        (first | (go_at_call 97; (with_reducible refine (lower0_any L M _ l _ ?_ HF.out ?_ ?_).mono ?_); ((with_reducible refine latheFrom HL.out hBx.out ?_); (repeat' (first | (with_reducible assumption) | (with_reducible refine Below.refl _ _) | (with_reducible refine Below.drew ?_)))); rintro e v2 ⟨rfl, hc2⟩; have hB2x : Below wc.heap.size wc v2 := bC (by (repeat' (first | (with_reducible assumption) | (with_reducible refine Below.refl _ _) | (with_reducible refine Below.drew ?_)))) hc2; clear hc2) | (go_at_call 101; refine (between_any (loP l f) (loP l t) _ HB1.out HB2.out).mono ?_; rintro e v4 ⟨k1, k2, k3, rfl, hH, hc4⟩; have hB4x : Below wc.heap.size wc v4 := bC (by (repeat' (first | (with_reducible assumption) | (with_reducible refine Below.refl _ _) | (with_reducible refine Below.drew ?_)))) hc4; clear hc4; unfold hv))
      have R4 := RR.below hB4x
      have hB4 := hBx.out.trans (hB4x.mono hBx.out.size)
      have HS6 : Hid (S6 (w.heap.size + 1) b (atD l m) (hiD l m) w v4.drew) := Lib.hid (S6.keep ⟨⟨cellB b0 hB4x, cellB b1 hB4x, cellB b2 hB4x, theCell_of (R4.cell 0), theCell_of (R4.cell 1), R4.frozen 0, R4.frozen 1⟩, hB4⟩ (Below.refl _ _).drew)
      have HH := Lib.hid hH
      have HXA := Lib.hid (show 0 ≤ atD l m ∧ atD l m ≤ 100 ∧ 0 ≤ atD l f ∧ atD l f < atD l t ∧ atD l t ≤ 100 from ⟨A1.out.1, A1.out.2, A2.out.1, HLT.out, A3.out.2⟩)
      rename_i hX
      clear hX hH hB4x hB4 R4 RR hBx b0 b1 b2 a0 a1 a2 p3w HSY
      go_wp2_with fail
      go_region_held3 (fun W => (W.cell? ⟨b, 0, none⟩ = some (.int .i64 (atD l m)) ∧ W.cell? ⟨b, 1, none⟩ = some (.int .i64 (hiD l m)) ∧ W.cell? ⟨b, 2, none⟩ = some (.int .i64 1) ∧
          W.cell? ⟨w.heap.size + 1, 0, none⟩ = some (theCell W ⟨w.heap.size + 1, 0, none⟩) ∧ W.cell? ⟨w.heap.size + 1, 1, none⟩ = some (theCell W ⟨w.heap.size + 1, 1, none⟩) ∧ W.frozen? ⟨w.heap.size + 1, 0, none⟩ = false ∧ W.frozen? ⟨w.heap.size + 1, 1, none⟩ = false) ∧ Below w.heap.size w W)
        (first | exact HS6.out | (exact S6.keep (r := w.heap.size + 1) (b := b) (by assumption) (by assumption)) | (exact S6.store (r := w.heap.size + 1) (b := b) (by omega) (by omega) _ _ (by assumption)))
        (first | (go_at_call 110; refine (height_any (loP l f) (loP l t) k1 k2 k3 (atD l m) v4.drew HH.out HB1.out HD.out HFN.out.1 HXA.out.1 HXA.out.2.1 HXA.out.2.2.1 HXA.out.2.2.2.1 HXA.out.2.2.2.2).mono ?_; rintro e v5 ⟨rfl, hc5⟩; unfold qv) | (go_at_call 69; refine (minus_any (hiD l m : Rat) (lineAt (loP l f) (loP l t) (atD l m)) _ HB3.out HFN.out.2.1).mono ?_; rintro e v6 ⟨rfl, hc6⟩; unfold qv) | (go_at_call 102; refine (part_any ((hiD l m : Rat) - lineAt (loP l f) (loP l t) (atD l m)) 1 2 _ HFN.out.2.2.1 (by omega) (by omega) (by omega) (by omega)).mono ?_; rintro e v7 ⟨rfl, hc7⟩; unfold qv))
      go_wp2
      rename_i hfin
      obtain ⟨⟨_, _, _, s7, s8, _, _⟩, hB⟩ := hfin
      have t7 := some_set2 s7
      have t8 := some_set2 s8
      clear s7 s8
      refine bodyPost_ret (v := qv (half ((hiD l m : Rat) - lineAt (loP l f) (loP l t) (atD l m)))) (by simp [results, Tryd.results72, go_sem, qv, half, t7, t8]) rfl ⟨by rw [HV.out], hB⟩
    by_cases hs2 : s = 2
    · subst hs2
      have hlt := HS.out (Or.inr rfl)
      have HLT := Lib.hid hlt
      have hV : provesV l m f t 2 = half (lineAt (hiP l f) (hiP l t) (atD l m) - (loD l m : Rat)) := by unfold provesV; rw [if_neg (by decide), if_pos rfl]
      have HV := Lib.hid hV
      obtain ⟨r1, r2, r3, r4⟩ := E2.out
      obtain ⟨u1, u2, u3, u4⟩ := E3.out
      obtain ⟨x1, x2⟩ := A1.out
      obtain ⟨x3, x4⟩ := A2.out
      obtain ⟨x5, x6⟩ := A3.out
      have HFN := Lib.hid (line_fine (a := atD l f) (b := atD l t) (x := atD l m) (y := hiD l f) (z := hiD l t) (n := loD l m) (by omega) (by omega) (by omega) (by omega) (by omega) (by omega) (by omega) (by omega) (by omega) (by omega))
      have HD := Lib.hid (fine_isub (m := hiD l t) (n := hiD l f) (by omega) (by omega))
      have HB1 := Lib.hid (fine_int (n := hiD l f) (by omega) (by omega))
      have HB2 := Lib.hid (fine_int (n := hiD l t) (by omega) (by omega))
      have HB3 := Lib.hid (fine_int (n := loD l m) (by omega) (by omega))
      have hzx := lt_of_cell z0w
      have hwx := lt_of_cell p0w
      have HSY : Hid (∀ W, Below wc.heap.size wc W → ((W.cell? ⟨w.heap.size, 0, none⟩ = some (.int .i64 f) ∧ W.cell? ⟨w.heap.size, 2, none⟩ = some (.int .i64 t) ∧ W.cell? ⟨w1.heap.size, 0, none⟩ = some (.int .i64 0) ∧ W.cell? ⟨w1.heap.size, 1, none⟩ = some (.int .i64 1)) ∧ Below wc.heap.size wc W)) := Lib.hid (fun W h => ⟨⟨cellB p0w h, cellB p2w h, cellB z0w h, cellB z1w h⟩, h⟩)
      clear hV E1 E2 E3 HS p0w p2w z0w z1w hlt m1 m2 m3 m4 r1 r2 r3 r4 u1 u2 u3 u4 x1 x2 x3 x4 x5 x6
      go_wp2_with fail
      go_region_held3 (fun W => (W.cell? ⟨w.heap.size, 0, none⟩ = some (.int .i64 f) ∧ W.cell? ⟨w.heap.size, 2, none⟩ = some (.int .i64 t) ∧ W.cell? ⟨w1.heap.size, 0, none⟩ = some (.int .i64 0) ∧ W.cell? ⟨w1.heap.size, 1, none⟩ = some (.int .i64 1)) ∧ Below wc.heap.size wc W)
        (((with_reducible refine HSY.out _ ?_); (repeat' (first | (with_reducible assumption) | (with_reducible refine Below.refl _ _) | (with_reducible refine Below.drew ?_)))))
        (first | (go_at_call 98; (with_reducible refine (upper0_any L M _ l _ ?_ HF.out ?_ ?_).mono ?_); ((with_reducible refine latheFrom HL.out hBx.out ?_); (repeat' (first | (with_reducible assumption) | (with_reducible refine Below.refl _ _) | (with_reducible refine Below.drew ?_)))); rintro e v2 ⟨rfl, hc2⟩; have hB2x : Below wc.heap.size wc v2 := bC (by (repeat' (first | (with_reducible assumption) | (with_reducible refine Below.refl _ _) | (with_reducible refine Below.drew ?_)))) hc2; clear hc2) | (go_at_call 101; refine (between_any (hiP l f) (hiP l t) _ HB1.out HB2.out).mono ?_; rintro e v4 ⟨k1, k2, k3, rfl, hH, hc4⟩; have hB4x : Below wc.heap.size wc v4 := bC (by (repeat' (first | (with_reducible assumption) | (with_reducible refine Below.refl _ _) | (with_reducible refine Below.drew ?_)))) hc4; clear hc4; unfold hv))
      have R4 := RR.below hB4x
      have hB4 := hBx.out.trans (hB4x.mono hBx.out.size)
      have HS6 : Hid (S6 (w.heap.size + 1) a (atD l m) (loD l m) w v4.drew) := Lib.hid (S6.keep ⟨⟨cellB a0 hB4x, cellB a1 hB4x, cellB a2 hB4x, theCell_of (R4.cell 0), theCell_of (R4.cell 1), R4.frozen 0, R4.frozen 1⟩, hB4⟩ (Below.refl _ _).drew)
      have HH := Lib.hid hH
      have HXA := Lib.hid (show 0 ≤ atD l m ∧ atD l m ≤ 100 ∧ 0 ≤ atD l f ∧ atD l f < atD l t ∧ atD l t ≤ 100 from ⟨A1.out.1, A1.out.2, A2.out.1, HLT.out, A3.out.2⟩)
      rename_i hX
      clear hX hH hB4x hB4 R4 RR hBx b0 b1 b2 a0 a1 a2 p3w HSY
      go_wp2_with fail
      go_region_held3 (fun W => (W.cell? ⟨a, 0, none⟩ = some (.int .i64 (atD l m)) ∧ W.cell? ⟨a, 1, none⟩ = some (.int .i64 (loD l m)) ∧ W.cell? ⟨a, 2, none⟩ = some (.int .i64 1) ∧
          W.cell? ⟨w.heap.size + 1, 0, none⟩ = some (theCell W ⟨w.heap.size + 1, 0, none⟩) ∧ W.cell? ⟨w.heap.size + 1, 1, none⟩ = some (theCell W ⟨w.heap.size + 1, 1, none⟩) ∧ W.frozen? ⟨w.heap.size + 1, 0, none⟩ = false ∧ W.frozen? ⟨w.heap.size + 1, 1, none⟩ = false) ∧ Below w.heap.size w W)
        (first | exact HS6.out | (exact S6.keep (r := w.heap.size + 1) (b := a) (by assumption) (by assumption)) | (exact S6.store (r := w.heap.size + 1) (b := a) (by omega) (by omega) _ _ (by assumption)))
        (first | (go_at_call 110; refine (height_any (hiP l f) (hiP l t) k1 k2 k3 (atD l m) v4.drew HH.out HB1.out HD.out HFN.out.1 HXA.out.1 HXA.out.2.1 HXA.out.2.2.1 HXA.out.2.2.2.1 HXA.out.2.2.2.2).mono ?_; rintro e v5 ⟨rfl, hc5⟩; unfold qv) | (go_at_call 69; refine (minus_any (lineAt (hiP l f) (hiP l t) (atD l m)) (loD l m : Rat) _ HFN.out.2.1 HB3.out).mono ?_; rintro e v6 ⟨rfl, hc6⟩; unfold qv) | (go_at_call 102; refine (part_any (lineAt (hiP l f) (hiP l t) (atD l m) - (loD l m : Rat)) 1 2 _ HFN.out.2.2.2 (by omega) (by omega) (by omega) (by omega)).mono ?_; rintro e v7 ⟨rfl, hc7⟩; unfold qv))
      go_wp2
      rename_i hfin
      obtain ⟨⟨_, _, _, s7, s8, _, _⟩, hB⟩ := hfin
      have t7 := some_set2 s7
      have t8 := some_set2 s8
      clear s7 s8
      refine bodyPost_ret (v := qv (half (lineAt (hiP l f) (hiP l t) (atD l m) - (loD l m : Rat)))) (by simp [results, Tryd.results72, go_sem, qv, half, t7, t8]) rfl ⟨by rw [HV.out], hB⟩
    have hs1' : (s == 1) = false := by simp [hs1]
    have hs2' : (s == 2) = false := by simp [hs2]
    have hV : provesV l m f t s = half ((hiD l m : Rat) - (loD l m : Rat)) := by unfold provesV; rw [if_neg hs1, if_neg hs2]
    have HV := Lib.hid hV
    clear hV hs1 hs2 E1 E2 E3 A1 A2 A3 HS HLx p0w p2w z0w z1w
    go_wp2_with fail
    refine (minus_any ((hiD l m) : Rat) ((loD l m) : Rat) _ (fine_int (by omega) (by omega)) (fine_int (by omega) (by omega))).mono ?_
    rintro e w2 ⟨rfl, c2⟩
    have RR2 := RR.below c2
    have hB2 := Lib.hid (hBx.out.trans (c2.mono hBx.out.size))
    have z2 := c2.size
    clear RR hBx c2 a0 a1 a2 b0 b1 b2 p3w
    go_wp2_with fail
    refine (part_any (((hiD l m) : Rat) - ((loD l m) : Rat)) 1 2 _ (fine_isub (by omega) (by omega)) (by omega) (by omega) (by omega) (by omega)).mono ?_
    rintro e w3 ⟨rfl, c3⟩
    have RR3 := RR2.below c3
    have hB3 := Lib.hid (hB2.out.trans (c3.mono hB2.out.size))
    have z3 := c3.size
    clear RR2 hB2 c3
    have r0 : w3.cell? ⟨w.heap.size + 1, 0, none⟩ = some (.int .i64 0) := by rw [RR3.cell]; rfl
    have r1 : w3.cell? ⟨w.heap.size + 1, 1, none⟩ = some (.int .i64 0) := by rw [RR3.cell]; rfl
    have g0 := RR3.frozen 0
    have g1 := RR3.frozen 1
    clear RR3
    unfold qv
    go_wp2_with fail
    refine bodyPost_ret (v := qv (half (((hiD l m) : Rat) - ((loD l m) : Rat)))) (by simp [results, Tryd.results72, go_sem, r0, r1, qv, half]) rfl ⟨by rw [HV.out], ?_⟩
    exact (hB3.out.setCell (by simp) _).setCell (by simp) _
end Go.Proofs.YtlhldkiggmlegaaDoor

/-! plain mathematics of lines between edges -/
namespace Go.Geo
/-- Three places and single places decide: the slopes that are asked for are at most those that may be. -/
theorem four {p q r s LQ UP US LR : Rat} (hpq : p < q) (hrs : r < s)
    (F1 : p ≤ r → LR * (s - p) + US * (p - r) ≤ UP * (s - r))
    (F2 : s ≤ q → LQ * (s - r) ≤ LR * (s - q) + US * (q - r))
    (F3 : r ≤ p → LR * (q - p) ≤ UP * (q - r) + LQ * (r - p))
    (F4 : q ≤ s → UP * (q - s) + LQ * (s - p) ≤ US * (q - p)) :
    (LQ - UP) * (s - r) ≤ (US - LR) * (q - p) := by
  rcases Rat.le_total (a := p) (b := r) with h1 | h1 <;> rcases Rat.le_total (a := q) (b := s) with h2 | h2
  · have f1 := Rat.mul_le_mul_of_nonneg_right (F1 h1) (c := q - p) (by grind)
    have f4 := Rat.mul_le_mul_of_nonneg_right (F4 h2) (c := s - r) (by grind)
    refine Rat.le_of_mul_le_mul_right (c := s - p) ?_ (by grind)
    grind
  · have f1 := F1 h1
    have f2 := F2 h2
    grind
  · have f3 := F3 h1
    have f4 := F4 h2
    grind
  · have f3 := Rat.mul_le_mul_of_nonneg_right (F3 h1) (c := s - r) (by grind)
    have f2 := Rat.mul_le_mul_of_nonneg_right (F2 h2) (c := q - p) (by grind)
    refine Rat.le_of_mul_le_mul_right (c := q - r) ?_ (by grind)
    grind

/-- Places and edges; what proofs say of them. -/
structure Wide (n : Nat) (x L U : Nat → Rat) : Prop where
  mono : ∀ i j, i < j → j < n → x i < x j
  one : ∀ i, i < n → L i ≤ U i
  under : ∀ i m j, i < m → m < j → j < n → L i * (x j - x m) + L j * (x m - x i) ≤ U m * (x j - x i)
  over : ∀ i m j, i < m → m < j → j < n → L m * (x j - x i) ≤ U i * (x j - x m) + U j * (x m - x i)

theorem Wide.le {n : Nat} {x L U : Nat → Rat} (h : Wide n x L U) {i j : Nat} (_hj : j < n) (hi : i < n) (hx : x i ≤ x j) : i ≤ j := by
  rcases Nat.lt_or_ge j i with hlt | hge
  · have := h.mono j i hlt hi
    grind
  · exact hge

theorem Wide.slopes {n : Nat} {x L U : Nat → Rat} (h : Wide n x L U) {P Q R S : Nat} (hPQ : P < Q) (hQ : Q < n) (hRS : R < S) (hS : S < n) :
    (L Q - U P) * (x S - x R) ≤ (U S - L R) * (x Q - x P) := by
  have hpq := h.mono P Q hPQ hQ
  have hrs := h.mono R S hRS hS
  refine four hpq hrs ?_ ?_ ?_ ?_
  · intro hx
    rcases Nat.lt_or_eq_of_le (h.le (by omega) (by omega) hx) with hlt | rfl
    · have := h.over P R S hlt hRS hS
      grind
    · have := Rat.mul_le_mul_of_nonneg_right (h.one P (by omega)) (c := x S - x P) (by grind)
      grind
  · intro hx
    rcases Nat.lt_or_eq_of_le (h.le (by omega) (by omega) hx) with hlt | rfl
    · have := h.under R S Q hRS hlt hQ
      grind
    · have := Rat.mul_le_mul_of_nonneg_right (h.one S (by omega)) (c := x S - x R) (by grind)
      grind
  · intro hx
    rcases Nat.lt_or_eq_of_le (h.le (by omega) (by omega) hx) with hlt | rfl
    · have := h.under R P Q hlt hPQ hQ
      grind
    · have := Rat.mul_le_mul_of_nonneg_right (h.one R (by omega)) (c := x Q - x R) (by grind)
      grind
  · intro hx
    rcases Nat.lt_or_eq_of_le (h.le (by omega) (by omega) hx) with hlt | rfl
    · have := h.over P Q S hPQ hlt hS
      grind
    · have := Rat.mul_le_mul_of_nonneg_right (h.one Q (by omega)) (c := x Q - x P) (by grind)
      grind

theorem exists_max {α : Type} (f : α → Rat) : ∀ (l : List α), l ≠ [] → ∃ a ∈ l, ∀ b ∈ l, f b ≤ f a
  | [a], _ => ⟨a, by simp, by simp⟩
  | a :: b :: l, _ => by
    obtain ⟨c, hc, hm⟩ := exists_max f (b :: l) (by simp)
    rcases Rat.le_total (a := f a) (b := f c) with h | h
    · exact ⟨c, List.mem_cons_of_mem _ hc, fun d hd => by
        rcases List.mem_cons.1 hd with rfl | hd
        · exact h
        · exact hm d hd⟩
    · exact ⟨a, List.mem_cons_self, fun d hd => by
        rcases List.mem_cons.1 hd with rfl | hd
        · exact Rat.le_refl
        · exact Rat.le_trans (hm d hd) h⟩

/-- All pairs of places. -/
def pairs (n : Nat) : List (Nat × Nat) := (List.range n).flatMap fun j => (List.range j).map fun i => (i, j)
theorem mem_pairs {n i j : Nat} : (i, j) ∈ pairs n ↔ i < j ∧ j < n := by
  simp only [pairs, List.mem_flatMap, List.mem_range, List.mem_map, Prod.mk.injEq]
  constructor
  · rintro ⟨j', h1, i', h2, rfl, rfl⟩
    exact ⟨h2, h1⟩
  · rintro ⟨h1, h2⟩
    exact ⟨j, h2, i, h1, rfl, rfl⟩

/-- The height at t of the line through two heights. -/
def through (a ya b yb t : Rat) : Rat := ya + (yb - ya) * (t - a) / (b - a)

def Keeps (n : Nat) (x L U : Nat → Rat) (h : Rat → Rat) : Prop := ∀ i, i < n → L i ≤ h (x i) ∧ h (x i) ≤ U i

theorem through_slope {a ya b yb t s : Rat} (h : a < b) (hs : s * (b - a) = yb - ya) : through a ya b yb t = ya + s * (t - a) := by
  unfold through
  rw [← hs]
  have hne : b - a ≠ 0 := by grind
  have : s * (b - a) * (t - a) / (b - a) = s * (t - a) := by
    rw [Rat.mul_assoc, Rat.mul_comm (b - a), ← Rat.mul_assoc, Rat.mul_div_cancel hne]
  rw [this]

theorem Wide.corner {n : Nat} {x L U : Nat → Rat} (h : Wide n x L U) (hn : 2 ≤ n) :
    ∃ P Q, P < Q ∧ Q < n ∧ Keeps n x L U (through (x P) (U P) (x Q) (L Q)) := by
  obtain ⟨⟨P, Q⟩, hPQ, hm⟩ := exists_max (fun pq : Nat × Nat => (L pq.2 - U pq.1) / (x pq.2 - x pq.1)) (pairs n) (by
    intro e
    have : (0, 1) ∈ pairs n := mem_pairs.2 ⟨by omega, by omega⟩
    rw [e] at this
    cases this)
  obtain ⟨h1, h2⟩ := mem_pairs.1 hPQ
  have hx := h.mono P Q h1 h2
  have hne : x Q - x P ≠ 0 := by grind
  generalize hs : (L Q - U P) / (x Q - x P) = s at *
  have hs' : s * (x Q - x P) = L Q - U P := by rw [← hs, Rat.div_mul_cancel hne]
  have low : ∀ i j, i < j → j < n → L j - U i ≤ s * (x j - x i) := by
    intro i j hij hj
    have hx := h.mono i j hij hj
    have := hm (i, j) (mem_pairs.2 ⟨hij, hj⟩)
    simp only at this
    have h2 := Rat.mul_le_mul_of_nonneg_right this (c := x j - x i) (by grind)
    rwa [Rat.div_mul_cancel (by grind)] at h2
  have up : ∀ i j, i < j → j < n → s * (x j - x i) ≤ U j - L i := by
    intro i j hij hj
    have h4 := h.slopes h1 h2 hij hj
    refine Rat.le_of_mul_le_mul_right (c := x Q - x P) ?_ (by grind)
    rw [← hs'] at h4
    rw [Rat.mul_assoc, Rat.mul_comm (x j - x i), ← Rat.mul_assoc]
    exact h4
  refine ⟨P, Q, h1, h2, fun i hi => ?_⟩
  rw [through_slope hx hs']
  constructor
  · rcases Nat.lt_trichotomy i P with hlt | rfl | hgt
    · have := up i P hlt (by omega)
      grind
    · have := h.one i hi
      grind
    · have := low P i hgt hi
      grind
  · rcases Nat.lt_trichotomy i Q with hlt | rfl | hgt
    · have := low i Q hlt h2
      grind
    · have := h.one i hi
      grind
    · have := up Q i hgt hi
      grind
end Go.Geo
namespace Go.Geo
/-- A bound of a step by a height. -/
structure Bd where
  den : Rat
  start : Rat
  slope : Rat

def Bd.below (b : Bd) (h m : Rat) : Prop := b.start + b.slope * h ≤ m * b.den
def Bd.above (b : Bd) (h m : Rat) : Prop := m * b.den ≤ b.start + b.slope * h
def Bd.on (b : Bd) (h m : Rat) : Prop := m * b.den = b.start + b.slope * h
def aOf (i k : Bd) : Rat := i.slope * k.den - k.slope * i.den
def bOf (i k : Bd) : Rat := k.start * i.den - i.start * k.den

theorem elim {i k : Bd} {h m : Rat} (hi : 0 < i.den) (hk : 0 < k.den) (h1 : i.below h m) (h2 : k.above h m) : aOf i k * h ≤ bOf i k := by
  unfold Bd.below at h1
  unfold Bd.above at h2
  have e1 := Rat.mul_le_mul_of_nonneg_right h1 (c := k.den) (by grind)
  have e2 := Rat.mul_le_mul_of_nonneg_right h2 (c := i.den) (by grind)
  unfold aOf bOf
  grind

/-- At a height that no pair denies there is a step; a greatest bound from below is met. -/
theorem step_at {least most : List Bd} {h : Rat} (hl : least ≠ []) (hdl : ∀ b ∈ least, 0 < b.den) (hdm : ∀ b ∈ most, 0 < b.den)
    (hp : ∀ i ∈ least, ∀ k ∈ most, aOf i k * h ≤ bOf i k) :
    ∃ i ∈ least, ∃ m, i.on h m ∧ (∀ b ∈ least, b.below h m) ∧ (∀ b ∈ most, b.above h m) := by
  obtain ⟨i, hi, hmax⟩ := exists_max (fun b : Bd => (b.start + b.slope * h) / b.den) least hl
  have hdi := hdl i hi
  refine ⟨i, hi, (i.start + i.slope * h) / i.den, ?_, ?_, ?_⟩
  · unfold Bd.on
    rw [Rat.div_mul_cancel (by grind)]
  · intro b hb
    have hdb := hdl b hb
    have := Rat.mul_le_mul_of_nonneg_right (hmax b hb) (c := b.den) (by grind)
    rw [Rat.div_mul_cancel (by grind)] at this
    exact this
  · intro k hk
    have hdk := hdm k hk
    have h1 := hp i hi k hk
    unfold aOf bOf at h1
    unfold Bd.above
    refine Rat.le_of_mul_le_mul_right (c := i.den) ?_ hdi
    have e : (i.start + i.slope * h) / i.den * k.den * i.den = (i.start + i.slope * h) * k.den := by
      rw [Rat.mul_assoc, Rat.mul_comm k.den, ← Rat.mul_assoc, Rat.div_mul_cancel (by grind)]
    rw [e]
    grind

theorem step_pair {least most : List Bd} {h : Rat} {i k : Bd} (hi : i ∈ least) (hk : k ∈ most) (hdl : ∀ b ∈ least, 0 < b.den) (hdm : ∀ b ∈ most, 0 < b.den)
    (hp : ∀ i ∈ least, ∀ k ∈ most, aOf i k * h ≤ bOf i k) (he : aOf i k * h = bOf i k) :
    ∃ m, i.on h m ∧ k.on h m ∧ (∀ b ∈ least, b.below h m) ∧ (∀ b ∈ most, b.above h m) := by
  have hdi := hdl i hi
  have hdk := hdm k hk
  have hki : k.on h ((i.start + i.slope * h) / i.den) := by
    unfold aOf bOf at he
    unfold Bd.on
    have e : (i.start + i.slope * h) / i.den * k.den * i.den = (i.start + i.slope * h) * k.den := by
      rw [Rat.mul_assoc, Rat.mul_comm k.den, ← Rat.mul_assoc, Rat.div_mul_cancel (by grind)]
    have e2 : (i.start + i.slope * h) / i.den * k.den * i.den = (k.start + k.slope * h) * i.den := by
      rw [e]; grind
    have hne : i.den ≠ 0 := by grind
    have := congrArg (· / i.den) e2
    simpa only [Rat.mul_div_cancel hne] using this
  have hii : i.on h ((i.start + i.slope * h) / i.den) := by
    unfold Bd.on
    rw [Rat.div_mul_cancel (by grind)]
  generalize (i.start + i.slope * h) / i.den = m at *
  refine ⟨m, hii, hki, ?_, ?_⟩
  · intro b hb
    have hdb := hdl b hb
    have h1 := hp b hb k hk
    unfold aOf bOf at h1
    unfold Bd.on at hki
    unfold Bd.below
    refine Rat.le_of_mul_le_mul_right (c := k.den) ?_ hdk
    have : m * b.den * k.den = (k.start + k.slope * h) * b.den := by rw [← hki]; grind
    rw [this]
    grind
  · intro b hb
    have hdb := hdm b hb
    have h1 := hp i hi b hb
    unfold aOf bOf at h1
    unfold Bd.on at hii
    unfold Bd.above
    refine Rat.le_of_mul_le_mul_right (c := i.den) ?_ hdi
    have : m * b.den * i.den = (i.start + i.slope * h) * b.den := by rw [← hii]; grind
    rw [this]
    grind
end Go.Geo
namespace Go.Geo
/-- What places ask of the step of a line by its height at t: at least; at most. -/
def leastL (n : Nat) (x L U : Nat → Rat) (t : Rat) : List Bd :=
  (List.range n).filterMap fun i => if t < x i then some ⟨x i - t, L i, -1⟩ else if x i < t then some ⟨t - x i, -U i, 1⟩ else none
def mostL (n : Nat) (x L U : Nat → Rat) (t : Rat) : List Bd :=
  (List.range n).filterMap fun i => if t < x i then some ⟨x i - t, U i, -1⟩ else if x i < t then some ⟨t - x i, -L i, 1⟩ else none

theorem mem_least {n : Nat} {x L U : Nat → Rat} {t : Rat} {b : Bd} : b ∈ leastL n x L U t ↔ ∃ i, i < n ∧ ((t < x i ∧ b = ⟨x i - t, L i, -1⟩) ∨ (x i < t ∧ b = ⟨t - x i, -U i, 1⟩)) := by
  simp only [leastL, List.mem_filterMap, List.mem_range]
  constructor
  · rintro ⟨i, hi, h⟩
    refine ⟨i, hi, ?_⟩
    split at h
    · exact .inl ⟨by assumption, by cases h; rfl⟩
    · split at h
      · exact .inr ⟨by assumption, by cases h; rfl⟩
      · cases h
  · rintro ⟨i, hi, ⟨h, rfl⟩ | ⟨h, rfl⟩⟩
    · exact ⟨i, hi, by rw [if_pos h]⟩
    · exact ⟨i, hi, by rw [if_neg (by grind), if_pos h]⟩
theorem mem_most {n : Nat} {x L U : Nat → Rat} {t : Rat} {b : Bd} : b ∈ mostL n x L U t ↔ ∃ i, i < n ∧ ((t < x i ∧ b = ⟨x i - t, U i, -1⟩) ∨ (x i < t ∧ b = ⟨t - x i, -L i, 1⟩)) := by
  simp only [mostL, List.mem_filterMap, List.mem_range]
  constructor
  · rintro ⟨i, hi, h⟩
    refine ⟨i, hi, ?_⟩
    split at h
    · exact .inl ⟨by assumption, by cases h; rfl⟩
    · split at h
      · exact .inr ⟨by assumption, by cases h; rfl⟩
      · cases h
  · rintro ⟨i, hi, ⟨h, rfl⟩ | ⟨h, rfl⟩⟩
    · exact ⟨i, hi, by rw [if_pos h]⟩
    · exact ⟨i, hi, by rw [if_neg (by grind), if_pos h]⟩

/-- The line with height h at t and step m lies between all edges. -/
def Feas (n : Nat) (x L U : Nat → Rat) (t h m : Rat) : Prop := ∀ i, i < n → L i ≤ h + m * (x i - t) ∧ h + m * (x i - t) ≤ U i
def Tight (x L U : Nat → Rat) (t h m : Rat) (i : Nat) : Prop := h + m * (x i - t) = L i ∨ h + m * (x i - t) = U i

theorem feas_iff {n : Nat} {x L U : Nat → Rat} {t h m : Rat} :
    Feas n x L U t h m ↔ (∀ b ∈ leastL n x L U t, b.below h m) ∧ (∀ b ∈ mostL n x L U t, b.above h m) ∧ ∀ i, i < n → x i = t → L i ≤ h ∧ h ≤ U i := by
  constructor
  · intro hf
    refine ⟨fun b hb => ?_, fun b hb => ?_, fun i hi e => ?_⟩
    · obtain ⟨i, hi, ⟨h1, rfl⟩ | ⟨h1, rfl⟩⟩ := mem_least.1 hb
      · have := (hf i hi).1
        simp only [Bd.below]; grind
      · have := (hf i hi).2
        simp only [Bd.below]; grind
    · obtain ⟨i, hi, ⟨h1, rfl⟩ | ⟨h1, rfl⟩⟩ := mem_most.1 hb
      · have := (hf i hi).2
        simp only [Bd.above]; grind
      · have := (hf i hi).1
        simp only [Bd.above]; grind
    · have := hf i hi
      rw [e] at this
      grind
  · rintro ⟨h1, h2, h3⟩ i hi
    rcases (by grind : x i < t ∨ x i = t ∨ t < x i) with hlt | heq | hgt
    · have a := h1 _ (mem_least.2 ⟨i, hi, .inr ⟨hlt, rfl⟩⟩)
      have b := h2 _ (mem_most.2 ⟨i, hi, .inr ⟨hlt, rfl⟩⟩)
      simp only [Bd.below] at a
      simp only [Bd.above] at b
      grind
    · have := h3 i hi heq
      rw [heq]
      grind
    · have a := h1 _ (mem_least.2 ⟨i, hi, .inl ⟨hgt, rfl⟩⟩)
      have b := h2 _ (mem_most.2 ⟨i, hi, .inl ⟨hgt, rfl⟩⟩)
      simp only [Bd.below] at a
      simp only [Bd.above] at b
      grind

theorem den_least {n : Nat} {x L U : Nat → Rat} {t : Rat} : ∀ b ∈ leastL n x L U t, 0 < b.den := by
  intro b hb
  obtain ⟨i, hi, ⟨h1, rfl⟩ | ⟨h1, rfl⟩⟩ := mem_least.1 hb <;> (simp only; grind)
theorem den_most {n : Nat} {x L U : Nat → Rat} {t : Rat} : ∀ b ∈ mostL n x L U t, 0 < b.den := by
  intro b hb
  obtain ⟨i, hi, ⟨h1, rfl⟩ | ⟨h1, rfl⟩⟩ := mem_most.1 hb <;> (simp only; grind)

theorem feas_pairs {n : Nat} {x L U : Nat → Rat} {t h m : Rat} (hf : Feas n x L U t h m) : ∀ i ∈ leastL n x L U t, ∀ k ∈ mostL n x L U t, aOf i k * h ≤ bOf i k :=
  fun i hi k hk => elim (den_least i hi) (den_most k hk) ((feas_iff.1 hf).1 i hi) ((feas_iff.1 hf).2.1 k hk)

theorem tight_least {n : Nat} {x L U : Nat → Rat} {t h m : Rat} {b : Bd} (hb : b ∈ leastL n x L U t) (ho : b.on h m) : ∃ i, i < n ∧ x i ≠ t ∧ b.den = (if t < x i then x i - t else t - x i) ∧ b.slope = (if t < x i then -1 else 1) ∧ Tight x L U t h m i := by
  obtain ⟨i, hi, ⟨h1, rfl⟩ | ⟨h1, rfl⟩⟩ := mem_least.1 hb
  · refine ⟨i, hi, by grind, by rw [if_pos h1], by rw [if_pos h1], .inl ?_⟩
    simp only [Bd.on] at ho; grind
  · refine ⟨i, hi, by grind, by rw [if_neg (by grind)], by rw [if_neg (by grind)], .inr ?_⟩
    simp only [Bd.on] at ho; grind
theorem tight_most {n : Nat} {x L U : Nat → Rat} {t h m : Rat} {b : Bd} (hb : b ∈ mostL n x L U t) (ho : b.on h m) : ∃ i, i < n ∧ x i ≠ t ∧ b.den = (if t < x i then x i - t else t - x i) ∧ b.slope = (if t < x i then -1 else 1) ∧ Tight x L U t h m i := by
  obtain ⟨i, hi, ⟨h1, rfl⟩ | ⟨h1, rfl⟩⟩ := mem_most.1 hb
  · refine ⟨i, hi, by grind, by rw [if_pos h1], by rw [if_pos h1], .inr ?_⟩
    simp only [Bd.on] at ho; grind
  · refine ⟨i, hi, by grind, by rw [if_neg (by grind)], by rw [if_neg (by grind)], .inl ?_⟩
    simp only [Bd.on] at ho; grind

theorem ordered {n : Nat} {P : Nat → Prop} {i j : Nat} (hne : i ≠ j) (hi : i < n) (hj : j < n) (hpi : P i) (hpj : P j) : ∃ i j, i < j ∧ j < n ∧ P i ∧ P j := by
  rcases Nat.lt_or_gt_of_ne hne with h | h
  · exact ⟨i, j, h, hj, hpi, hpj⟩
  · exact ⟨j, i, h, hi, hpj, hpi⟩

/-- A height that is met by no slack has a line between the edges that touches two of them. -/
theorem corner_at {n : Nat} {x L U : Nat → Rat} {t h : Rat} (hn : 2 ≤ n) (mono : ∀ i j, i < j → j < n → x i < x j)
    (hall : ∀ i ∈ leastL n x L U t, ∀ k ∈ mostL n x L U t, aOf i k * h ≤ bOf i k) (hplace : ∀ i, i < n → x i = t → L i ≤ h ∧ h ≤ U i)
    (hatt : (∃ i, i < n ∧ x i = t ∧ (h = L i ∨ h = U i)) ∨ ∃ i ∈ leastL n x L U t, ∃ k ∈ mostL n x L U t, aOf i k ≠ 0 ∧ aOf i k * h = bOf i k) :
    ∃ m, Feas n x L U t h m ∧ ∃ i j, i < j ∧ j < n ∧ Tight x L U t h m i ∧ Tight x L U t h m j := by
  rcases hatt with ⟨p, hp, e, hh⟩ | ⟨i, hi, k, hk, hne, he⟩
  · have hl : leastL n x L U t ≠ [] := by
      obtain ⟨q, hq, hpq⟩ : ∃ q, q < n ∧ q ≠ p := by
        by_cases h0 : p = 0
        · exact ⟨1, by omega, by omega⟩
        · exact ⟨0, by omega, by omega⟩
      have hx : x q ≠ t := by
        rcases Nat.lt_or_gt_of_ne hpq with hlt | hgt
        · have := mono q p hlt hp; grind
        · have := mono p q hgt hq; grind
      have hmem : (if t < x q then (⟨x q - t, L q, -1⟩ : Bd) else ⟨t - x q, -U q, 1⟩) ∈ leastL n x L U t := by
        refine mem_least.2 ⟨q, hq, ?_⟩
        by_cases hlt : t < x q
        · exact .inl ⟨hlt, if_pos hlt⟩
        · exact .inr ⟨by grind, if_neg hlt⟩
      intro e0
      rw [e0] at hmem
      cases hmem
    obtain ⟨i, hi, m, ho, h1, h2⟩ := step_at hl den_least den_most hall
    obtain ⟨j, hj, hxj, _, _, ht⟩ := tight_least hi ho
    refine ⟨m, feas_iff.2 ⟨h1, h2, hplace⟩, ordered (i := p) (j := j) ?_ hp hj ?_ ht⟩
    · rintro rfl; exact hxj e
    · unfold Tight
      rw [e]
      rcases hh with hh | hh
      · left; grind
      · right; grind
  · obtain ⟨m, o1, o2, h1, h2⟩ := step_pair hi hk den_least den_most hall he
    obtain ⟨p, hp, hxp, d1, s1, t1⟩ := tight_least hi o1
    obtain ⟨q, hq, hxq, d2, s2, t2⟩ := tight_most hk o2
    refine ⟨m, feas_iff.2 ⟨h1, h2, hplace⟩, ordered (i := p) (j := q) ?_ hp hq t1 t2⟩
    rintro rfl
    apply hne
    unfold aOf
    rw [d1, d2, s1, s2]
    grind
end Go.Geo
