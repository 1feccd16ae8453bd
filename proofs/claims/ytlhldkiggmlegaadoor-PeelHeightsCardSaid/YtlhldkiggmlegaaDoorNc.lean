import Derived.Test.YtlhldkiggmlegaaDoorNa
import Derived.Test.YtlhldkiggmlegaaDoorNb
import Derived.Deep.RegionLawGrows
namespace Go.Proofs.YtlhldkiggmlegaaDoor

/-! ## Fractions with a known denominator -/
/-- r is a whole number of D-ths, at most M on both sides of 0. -/
def Fr (D : Nat) (M : Int) (r : Rat) : Prop := ∃ k : Int, r = (k : Rat) / (D : Rat) ∧ -(M * D) ≤ k ∧ k ≤ M * D

theorem mkRat_bd (k : Int) (D : Nat) (h : 0 < D) : -(k.natAbs : Int) ≤ (mkRat k D).num ∧ (mkRat k D).num ≤ k.natAbs ∧ (mkRat k D).den ≤ D := by
  rw [Rat.num_mkRat, Rat.den_mkRat, if_neg (by omega), if_neg (by omega)]
  have hg : 0 < Nat.gcd D k.natAbs := Nat.gcd_pos_of_pos_left _ h
  have hdvd : ((Nat.gcd D k.natAbs : Nat) : Int) ∣ k := by
    have := Nat.gcd_dvd_right D k.natAbs
    exact Int.ofNat_dvd_left.2 this
  obtain ⟨q, hq⟩ := hdvd
  have hq2 : k / ((Nat.gcd D k.natAbs : Nat) : Int) = q := Int.ediv_eq_of_eq_mul_right (by omega) hq
  refine ⟨?_, ?_, Nat.div_le_self _ _⟩
  all_goals
    rw [hq2]
    have this := congrArg Int.natAbs hq
    rw [Int.natAbs_mul, Int.natAbs_natCast] at this
    have h2 : q.natAbs ≤ (Nat.gcd D k.natAbs) * q.natAbs := Nat.le_mul_of_pos_left _ hg
    omega

theorem Fr.fine {D : Nat} {M : Int} {r : Rat} (h : Fr D M r) (hD : 0 < D) (hD' : D ≤ 131072) (hM : M * D ≤ 17592186044416) : Fine r := by
  obtain ⟨k, rfl, h1, h2⟩ := h
  rw [← Rat.mkRat_eq_div]
  obtain ⟨b1, b2, b3⟩ := mkRat_bd k D hD
  exact ⟨by omega, by omega, by omega⟩
theorem Fr.dens {D : Nat} {M : Int} {r : Rat} (h : Fr D M r) (hD : 0 < D) : r.den ≤ D := by
  obtain ⟨k, rfl, h1, h2⟩ := h
  rw [← Rat.mkRat_eq_div]
  exact (mkRat_bd k D hD).2.2
theorem Fr.int {D : Nat} {M n : Int} (h1 : -M ≤ n) (h2 : n ≤ M) (hD : 0 < D) : Fr D M (n : Rat) := by
  refine ⟨n * D, ?_, ?_, ?_⟩
  · rw [Rat.intCast_mul]
    have : ((D : Nat) : Rat) ≠ 0 := by simp; omega
    rw [Rat.intCast_natCast]
    grind
  · have := Int.mul_le_mul_of_nonneg_right (c := (D : Int)) h1 (by omega)
    rw [Int.neg_mul] at this; exact this
  · exact Int.mul_le_mul_of_nonneg_right h2 (by omega)
theorem Fr.add {D : Nat} {M M' : Int} {r s : Rat} (h : Fr D M r) (h' : Fr D M' s) : Fr D (M + M') (r + s) := by
  obtain ⟨k, rfl, h1, h2⟩ := h
  obtain ⟨k', rfl, h1', h2'⟩ := h'
  refine ⟨k + k', ?_, ?_, ?_⟩
  · rw [Rat.intCast_add]; grind
  · rw [Int.add_mul]; omega
  · rw [Int.add_mul]; omega
theorem Fr.neg {D : Nat} {M : Int} {r : Rat} (h : Fr D M r) : Fr D M (-r) := by
  obtain ⟨k, rfl, h1, h2⟩ := h
  refine ⟨-k, ?_, by omega, by omega⟩
  rw [Rat.intCast_neg]; grind
theorem Fr.sub {D : Nat} {M M' : Int} {r s : Rat} (h : Fr D M r) (h' : Fr D M' s) : Fr D (M + M') (r - s) := by
  rw [Rat.sub_eq_add_neg]; exact h.add h'.neg
theorem Fr.part {D : Nat} {M : Int} {r : Rat} (h : Fr D M r) {n d : Int} (hn1 : -100 ≤ n) (hn2 : n ≤ 100) (hd : 0 < d) (hM : 0 ≤ M) : Fr (D * d.toNat) (M * 100) (r * (n : Rat) / (d : Rat)) := by
  obtain ⟨k, rfl, h1, h2⟩ := h
  obtain ⟨e, rfl⟩ := Int.eq_ofNat_of_zero_le (Int.le_of_lt hd)
  have he : 1 ≤ e := by omega
  have hD : (0 : Int) ≤ M * D := Int.mul_nonneg hM (by omega)
  have hk : -(M * D * 100) ≤ k * n ∧ k * n ≤ M * D * 100 := by
    by_cases h : 0 ≤ n
    · exact mul_bd k n (M * D) 100 h1 h2 h hn2 hD
    · have := mul_bd k (-n) (M * D) 100 h1 h2 (by omega) (by omega) hD
      rw [Int.mul_neg] at this
      omega
  have hx : M * D * 100 ≤ M * 100 * ((D * e : Nat) : Int) := by
    have e1 : M * 100 * ((D * e : Nat) : Int) = (M * D * 100) * e := by rw [Int.natCast_mul]; grind
    rw [e1]
    generalize M * (D : Int) = z at hD ⊢
    have h1e : (1 : Int) ≤ e := by omega
    have := Int.mul_le_mul_of_nonneg_left h1e (show (0 : Int) ≤ z * 100 by omega)
    rw [Int.mul_one] at this
    exact this
  refine ⟨k * n, ?_, ?_, ?_⟩
  · rw [Rat.intCast_mul, Int.toNat_natCast, Rat.natCast_mul, Rat.intCast_natCast]; grind
  · rw [Int.toNat_natCast]; omega
  · rw [Int.toNat_natCast]; omega
theorem Fr.mono {D : Nat} {M M' : Int} {r : Rat} (h : Fr D M r) (hM : M ≤ M') : Fr D M' r := by
  obtain ⟨k, rfl, h1, h2⟩ := h
  have := Int.mul_le_mul_of_nonneg_right (c := (D : Int)) hM (by omega)
  exact ⟨k, rfl, by omega, by omega⟩
theorem Fr.wide {D : Nat} {M : Int} {r : Rat} (h : Fr D M r) (d : Nat) (hd : 0 < d) : Fr (D * d) M r := by
  obtain ⟨k, rfl, h1, h2⟩ := h
  have e1 : M * ((D * d : Nat) : Int) = M * D * d := by rw [Int.natCast_mul, Int.mul_assoc]
  have a1 := Int.mul_le_mul_of_nonneg_right (c := (d : Int)) h1 (by omega)
  have a2 := Int.mul_le_mul_of_nonneg_right (c := (d : Int)) h2 (by omega)
  refine ⟨k * d, ?_, by rw [e1]; rw [Int.neg_mul] at a1; exact a1, by rw [e1]; exact a2⟩
  rw [Rat.intCast_mul, Rat.natCast_mul, Rat.intCast_natCast]
  have : ((d : Nat) : Rat) ≠ 0 := by simp; omega
  by_cases hD : ((D : Nat) : Rat) = 0
  · rw [hD]; grind
  · grind
theorem Fr.le {D : Nat} {M : Int} {r : Rat} (h : Fr D M r) (hD : 0 < D) : -(M : Rat) ≤ r ∧ r ≤ (M : Rat) := by
  obtain ⟨k, rfl, h1, h2⟩ := h
  have hp : (0 : Rat) < (D : Rat) := Rat.natCast_pos.2 hD
  have c1 : ((-(M * D) : Int) : Rat) ≤ (k : Rat) := Rat.intCast_le_intCast.2 h1
  have c2 : (k : Rat) ≤ ((M * D : Int) : Rat) := Rat.intCast_le_intCast.2 h2
  rw [Rat.intCast_neg, Rat.intCast_mul, Rat.intCast_natCast] at c1
  rw [Rat.intCast_mul, Rat.intCast_natCast] at c2
  constructor
  · rw [← Rat.not_lt, Rat.div_lt_iff hp, Rat.not_lt]
    rw [Rat.neg_mul]; exact c1
  · rw [← Rat.not_lt, Rat.lt_div_iff hp, Rat.not_lt]
    exact c2
end Go.Proofs.YtlhldkiggmlegaaDoor

namespace Go.Proofs.YtlhldkiggmlegaaDoor
open Go.RowKit

/-! ## The lathe -/
/-- The lathe at block L, its map at block M, with the log l. -/
def LatheAt (w : World) (L M : Nat) (l : LogD) : Prop :=
  ∃ va ve, Blk w L (.cells #[va, ve, .map (some M)] 112) ∧ IntsAt w va l.at_ ∧ PairsAt w ve l.edges
theorem LatheAt.below {w w' : World} {L M : Nat} {l : LogD} (h : LatheAt w L M l) (hb : Below w.heap.size w w') : LatheAt w' L M l := by
  obtain ⟨va, ve, h1, h2, h3⟩ := h
  exact ⟨va, ve, h1.below hb, h2.below hb, h3.below hb⟩

/-- A point as the program holds it. -/
def pv (x : Int) (y : Rat) : Value := .agg #[.int .i64 x, .int .i64 y.num, .int .i64 y.den]

theorem PairsAt.get {w : World} {v : Value} {l : List (Int × Int)} (h : PairsAt w v l) (k : Nat) (hk : k < l.length) : ∃ b off cap, v = .slice (some ⟨b, off, none⟩) l.length cap ∧ w.cell? ⟨b, off + k * 2, none⟩ = some (.int .i64 l[k].1) ∧ w.cell? ⟨b, off + k * 2 + 1, none⟩ = some (.int .i64 l[k].2) := by
  obtain ⟨a, cap, e, hc⟩ := h
  obtain ⟨b, off, ea, hc⟩ := hc (by intro h; subst h; exact absurd hk (Nat.not_lt_zero _))
  exact ⟨b, off, cap, by rw [e, ea], hc k hk⟩
theorem IntsAt.get {w : World} {v : Value} {l : List Int} (h : IntsAt w v l) (k : Nat) (hk : k < l.length) : ∃ b off cap, v = .slice (some ⟨b, off, none⟩) l.length cap ∧ w.cell? ⟨b, off + k, none⟩ = some (.int .i64 l[k]) := by
  obtain ⟨a, cap, e, hc⟩ := h
  obtain ⟨b, off, ea, hc⟩ := hc (by intro h; subst h; exact absurd hk (Nat.not_lt_zero _))
  exact ⟨b, off, cap, by rw [e, ea], hc k hk⟩

theorem cellB {W W' : World} {b o : Nat} {v : Value} (h : W.cell? ⟨b, o, none⟩ = some v) (hb : Below W.heap.size W W') : W'.cell? ⟨b, o, none⟩ = some v :=
  (hb.cell (p := ⟨b, o, none⟩) (lt_of_cell h)).trans h

theorem fine_int {n : Int} (h1 : -17592186044416 ≤ n) (h2 : n ≤ 17592186044416) : Fine (n : Rat) :=
  ⟨by rw [Rat.num_intCast]; exact h1, by rw [Rat.num_intCast]; exact h2, by rw [Rat.den_intCast]; decide⟩

/-- What a cell holds, whatever it is. -/
def theCell (W : World) (a : Addr) : Value := (W.cell? a).getD undef
theorem theCell_of {W : World} {a : Addr} {v : Value} (h : W.cell? a = some v) : W.cell? a = some (theCell W a) := by
  unfold theCell; rw [h]; rfl
/-- Three cells that can be written. -/
def Room3 (W : World) (b : Nat) : Prop := ∃ x y z T, Blk W b (.cells #[x, y, z] T)
theorem Room3.below {W W' : World} {b : Nat} (h : Room3 W b) (hb : Below W.heap.size W W') : Room3 W' b := let ⟨x, y, z, T, h⟩ := h; ⟨x, y, z, T, h.below hb⟩

theorem some_set {W : World} {p a : Addr} {u : Value} (h : ((W.setCell p u).cell? a).isSome = true) : (W.cell? a).isSome = true := by
  unfold World.cell? World.setCell at h
  unfold World.cell?
  simp only [Array.getElem?_modify] at h
  by_cases e : p.block = a.block
  · rw [if_pos e] at h
    cases hb : W.heap[a.block]? with
    | none => rw [hb] at h; simp at h
    | some o =>
      rw [hb] at h
      cases o with
      | cells c t f =>
        simp at h ⊢
        have e2 : (if p.spot.isSome = true then c else c.setIfInBounds p.off u).size = c.size := by split <;> simp
        split at h <;> simp_all
      | _ => simp at h
  · rw [if_neg e] at h
    exact h
theorem some_set3 {W : World} {p q r a : Addr} {u v z x : Value} (h : (((W.setCell p u).setCell q v).setCell r z).cell? a = some x) : (W.cell? a).isSome = true :=
  some_set (some_set (some_set (by rw [h]; rfl)))

/-- What the region of 'lower' and 'upper' reads. -/
def SLow (s L b1 o1 n1 c1 k1 b2 o2 n2 c2 k2 : Nat) (x y : Int) (core : Rat) (W : World) : Prop :=
  W.cell? ⟨L, 0, none⟩ = some (.slice (some ⟨b1, o1, none⟩) n1 c1) ∧ W.cell? ⟨L, 1, none⟩ = some (.slice (some ⟨b2, o2, none⟩) n2 c2) ∧ W.cell? ⟨b1, o1 + k1, none⟩ = some (.int .i64 x) ∧ W.cell? ⟨b2, k2, none⟩ = some (.int .i64 y) ∧
  W.cell? ⟨s, 0, none⟩ = some (.int .i64 core.num) ∧ W.cell? ⟨s, 1, none⟩ = some (.int .i64 core.den) ∧
  W.cell? ⟨s + 1, 0, none⟩ = some (theCell W ⟨s + 1, 0, none⟩) ∧ W.cell? ⟨s + 1, 1, none⟩ = some (theCell W ⟨s + 1, 1, none⟩) ∧ W.cell? ⟨s + 1, 2, none⟩ = some (theCell W ⟨s + 1, 2, none⟩) ∧
  W.frozen? ⟨s + 1, 0, none⟩ = false ∧ W.frozen? ⟨s + 1, 1, none⟩ = false ∧ W.frozen? ⟨s + 1, 2, none⟩ = false

theorem SLow.below {s L b1 o1 n1 c1 k1 b2 o2 n2 c2 k2 : Nat} {x y : Int} {core : Rat} {W W' : World} (h : SLow s L b1 o1 n1 c1 k1 b2 o2 n2 c2 k2 x y core W) (hb : Below W.heap.size W W') : SLow s L b1 o1 n1 c1 k1 b2 o2 n2 c2 k2 x y core W' := by
  obtain ⟨s1, s2, s3, s4, s5, s6, s7, s8, s9, f1, f2, f3⟩ := h
  have hl := lt_of_cell s7
  exact ⟨cellB s1 hb, cellB s2 hb, cellB s3 hb, cellB s4 hb, cellB s5 hb, cellB s6 hb, theCell_of (cellB s7 hb), theCell_of (cellB s8 hb), theCell_of (cellB s9 hb), (hb.frozen (p := ⟨s + 1, 0, none⟩) hl).trans f1, (hb.frozen (p := ⟨s + 1, 1, none⟩) hl).trans f2, (hb.frozen (p := ⟨s + 1, 2, none⟩) hl).trans f3⟩

theorem cell_other {W : World} {b o b' o' : Nat} {v u : Value} (h : W.cell? ⟨b, o, none⟩ = some v) (hne : b ≠ b') : (W.setCell ⟨b', o', none⟩ u).cell? ⟨b, o, none⟩ = some v := by
  rw [World.cell?_setCell_other]
  · exact h
  · intro e; cases e; exact hne rfl
theorem cell_some {W : World} {a p : Addr} {v u : Value} (h : W.cell? a = some v) : ∃ v', (W.setCell p u).cell? a = some v' := by
  obtain ⟨v', h'⟩ := cell?_setCell_some (w := W) (p := p) (x := u) (q := a) (v := v) h
  exact ⟨v', h'⟩

theorem SLow.store {s L b1 o1 n1 c1 k1 b2 o2 n2 c2 k2 : Nat} {x y : Int} {core : Rat} {W : World} (h : SLow s L b1 o1 n1 c1 k1 b2 o2 n2 c2 k2 x y core W) (h1 : L < s) (h2 : b1 < s) (h3 : b2 < s) (j : Nat) (v : Value) :
    SLow s L b1 o1 n1 c1 k1 b2 o2 n2 c2 k2 x y core (W.setCell ⟨s + 1, j, none⟩ v) := by
  obtain ⟨s1, s2, s3, s4, s5, s6, s7, s8, s9, f1, f2, f3⟩ := h
  obtain ⟨_, t7⟩ := cell_some (p := ⟨s + 1, j, none⟩) (u := v) s7
  obtain ⟨_, t8⟩ := cell_some (p := ⟨s + 1, j, none⟩) (u := v) s8
  obtain ⟨_, t9⟩ := cell_some (p := ⟨s + 1, j, none⟩) (u := v) s9
  exact ⟨cell_other s1 (by omega), cell_other s2 (by omega), cell_other s3 (by omega), cell_other s4 (by omega), cell_other s5 (by omega), cell_other s6 (by omega), theCell_of t7, theCell_of t8, theCell_of t9, by rw [World.frozen?_setCell]; exact f1, by rw [World.frozen?_setCell]; exact f2, by rw [World.frozen?_setCell]; exact f3⟩

theorem keepLow {w : World} {L b1 o1 n1 c1 k1 b2 o2 n2 c2 k2 : Nat} {x y : Int} {core : Rat} {W W' : World} (h : SLow w.heap.size L b1 o1 n1 c1 k1 b2 o2 n2 c2 k2 x y core W ∧ Below w.heap.size w W) (hb : Below W.heap.size W W') :
    SLow w.heap.size L b1 o1 n1 c1 k1 b2 o2 n2 c2 k2 x y core W' ∧ Below w.heap.size w W' := ⟨h.1.below hb, h.2.trans (hb.mono h.2.size)⟩
theorem keepLow3 {w : World} {L b1 o1 n1 c1 k1 b2 o2 n2 c2 k2 : Nat} {x y : Int} {core : Rat} {W : World} (h1 : L < w.heap.size) (h2 : b1 < w.heap.size) (h3 : b2 < w.heap.size) (u v z : Value) (h : SLow w.heap.size L b1 o1 n1 c1 k1 b2 o2 n2 c2 k2 x y core W ∧ Below w.heap.size w W) :
    SLow w.heap.size L b1 o1 n1 c1 k1 b2 o2 n2 c2 k2 x y core (((W.setCell ⟨w.heap.size + 1, 0, none⟩ u).setCell ⟨w.heap.size + 1, 1, none⟩ v).setCell ⟨w.heap.size + 1, 2, none⟩ z) ∧ Below w.heap.size w (((W.setCell ⟨w.heap.size + 1, 0, none⟩ u).setCell ⟨w.heap.size + 1, 1, none⟩ v).setCell ⟨w.heap.size + 1, 2, none⟩ z) :=
  ⟨((h.1.store h1 h2 h3 0 u).store h1 h2 h3 1 v).store h1 h2 h3 2 z, ((h.2.setCell (by simp) _).setCell (by simp) _).setCell (by simp) _⟩

set_option maxHeartbeats 2000000 in
theorem lower_any (L M k : Nat) (l : LogD) (core : Rat) (w : World) (hl : LatheAt w L M l) (hk : k < l.at_.length) (hk' : k < l.edges.length) (_hle : l.at_.length ≤ 1000000) (_hle' : l.edges.length ≤ 1000000)
    (hf : Fine core) (he1 : -17592186044416 ≤ l.edges[k].1) (he2 : l.edges[k].1 ≤ 17592186044416) :
    Calls Tryd.prog 97 #[.pointer (some ⟨L, 0, none⟩), .int .i64 k, qv core] w fun e w' => e = .returned (pv l.at_[k] ((l.edges[k].1 : Rat) + core)) ∧ Below w.heap.size w w' := by
  obtain ⟨va, ve, bL, hA, hE⟩ := hl
  obtain ⟨b1, o1, c1, rfl, g1⟩ := hA.get k hk
  obtain ⟨b2, o2, c2, rfl, g2, _⟩ := hE.get k hk'
  have l1 := lt_of_cell g1
  have l2 := lt_of_cell g2
  have l0 := bL.lt
  have HF := Lib.hid hf
  have HF2 := Lib.hid (fine_int he1 he2)
  have e0 := bL.cell 0
  have e1 := bL.cell 1
  simp at e0 e1
  clear hA hE hf bL
  unfold qv
  go_enter Tryd.func97, Tryd.ntmps97
  go_wp2
  obtain ⟨W0, hW0⟩ : ∃ W0, (w.alloc (.cells #[.int .i64 core.num, .int .i64 core.den] 31)).alloc (.cells #[.int .i64 0, .int .i64 0, .int .i64 0] 142) = W0 := ⟨_, rfl⟩
  have hB0 : Below w.heap.size w W0 := by rw [← hW0]; exact below2 _ _ _
  have hcc : Blk W0 w.heap.size (.cells #[.int .i64 core.num, .int .i64 core.den] 31) := by rw [← hW0]; exact (Blk.new _ _).alloc _
  have hbb : Blk W0 (w.heap.size + 1) (.cells #[.int .i64 0, .int .i64 0, .int .i64 0] 142) := by rw [← hW0]; simpa using Blk.new (w.alloc (.cells #[.int .i64 core.num, .int .i64 core.den] 31)) (.cells #[.int .i64 0, .int .i64 0, .int .i64 0] 142)
  have hS0 : SLow w.heap.size L b1 o1 l.at_.length c1 k b2 o2 l.edges.length c2 (o2 + k * 2) l.at_[k] l.edges[k].1 core W0 := by
    refine ⟨(hB0.cell (p := ⟨L, 0, none⟩) l0).trans e0, (hB0.cell (p := ⟨L, 1, none⟩) l0).trans e1, (hB0.cell (p := ⟨b1, _, none⟩) l1).trans g1, (hB0.cell (p := ⟨b2, _, none⟩) l2).trans g2, ?_, ?_, theCell_of (hbb.cell 0), theCell_of (hbb.cell 1), theCell_of (hbb.cell 2), hbb.frozen 0, hbb.frozen 1, hbb.frozen 2⟩
    · rw [hcc.cell]; simp
    · rw [hcc.cell]; simp
  have hz0 : W0.heap.size = w.heap.size + 2 := by rw [← hW0]; simp
  rw [hW0]
  clear hW0 hcc hbb
  have hH0 := Lib.hid (hS0.below (Below.refl _ _).drew)
  clear hS0
  have hHB := Lib.hid hB0.drew
  clear hB0
  go_region_held3 (fun W => (W.cell? ⟨L, 0, none⟩ = some (.slice (some ⟨b1, o1, none⟩) l.at_.length c1) ∧ W.cell? ⟨L, 1, none⟩ = some (.slice (some ⟨b2, o2, none⟩) l.edges.length c2) ∧ W.cell? ⟨b1, o1 + k, none⟩ = some (.int .i64 l.at_[k]) ∧ W.cell? ⟨b2, o2 + k * 2, none⟩ = some (.int .i64 l.edges[k].1) ∧
    W.cell? ⟨w.heap.size, 0, none⟩ = some (.int .i64 core.num) ∧ W.cell? ⟨w.heap.size, 1, none⟩ = some (.int .i64 core.den) ∧
    W.cell? ⟨w.heap.size + 1, 0, none⟩ = some (theCell W ⟨w.heap.size + 1, 0, none⟩) ∧ W.cell? ⟨w.heap.size + 1, 1, none⟩ = some (theCell W ⟨w.heap.size + 1, 1, none⟩) ∧ W.cell? ⟨w.heap.size + 1, 2, none⟩ = some (theCell W ⟨w.heap.size + 1, 2, none⟩) ∧
    W.frozen? ⟨w.heap.size + 1, 0, none⟩ = false ∧ W.frozen? ⟨w.heap.size + 1, 1, none⟩ = false ∧ W.frozen? ⟨w.heap.size + 1, 2, none⟩ = false) ∧ Below w.heap.size w W)
    (first | exact ⟨hH0.out, hHB.out⟩ | (exact keepLow (by assumption) (by assumption)) | (exact keepLow3 l0 l1 l2 _ _ _ (by assumption)))
    (first | (go_at_call 70; refine (whole_any _ _).mono ?_; rintro e w' ⟨rfl, hb⟩; unfold qv) | (go_at_call 100; refine (plus_any _ _ _ HF2.out HF.out).mono ?_; rintro e w' ⟨rfl, hb⟩; unfold qv))
  go_wp2
  rename_i hfin
  obtain ⟨⟨_, _, _, _, _, _, s7, s8, s9, _, _, _⟩, hB⟩ := hfin
  have t7 := some_set3 s7
  have t8 := some_set3 s8
  have t9 := some_set3 s9
  clear s7 s8 s9
  refine bodyPost_ret (v := pv l.at_[k] ((l.edges[k].1 : Rat) + core)) (by simp [results, Tryd.results97, go_sem, pv, t7, t8, t9]) rfl ⟨rfl, hB⟩
set_option maxHeartbeats 2000000 in
theorem upper_any (L M k : Nat) (l : LogD) (core : Rat) (w : World) (hl : LatheAt w L M l) (hk : k < l.at_.length) (hk' : k < l.edges.length) (_hle : l.at_.length ≤ 1000000) (_hle' : l.edges.length ≤ 1000000)
    (hf : Fine core) (he1 : -17592186044416 ≤ l.edges[k].2) (he2 : l.edges[k].2 ≤ 17592186044416) :
    Calls Tryd.prog 98 #[.pointer (some ⟨L, 0, none⟩), .int .i64 k, qv core] w fun e w' => e = .returned (pv l.at_[k] ((l.edges[k].2 : Rat) - core)) ∧ Below w.heap.size w w' := by
  obtain ⟨va, ve, bL, hA, hE⟩ := hl
  obtain ⟨b1, o1, c1, rfl, g1⟩ := hA.get k hk
  obtain ⟨b2, o2, c2, rfl, _, g2⟩ := hE.get k hk'
  have l1 := lt_of_cell g1
  have l2 := lt_of_cell g2
  have l0 := bL.lt
  have HF := Lib.hid hf
  have HF2 := Lib.hid (fine_int he1 he2)
  have e0 := bL.cell 0
  have e1 := bL.cell 1
  simp at e0 e1
  clear hA hE hf bL
  unfold qv
  go_enter Tryd.func98, Tryd.ntmps98
  go_wp2
  obtain ⟨W0, hW0⟩ : ∃ W0, (w.alloc (.cells #[.int .i64 core.num, .int .i64 core.den] 31)).alloc (.cells #[.int .i64 0, .int .i64 0, .int .i64 0] 142) = W0 := ⟨_, rfl⟩
  have hB0 : Below w.heap.size w W0 := by rw [← hW0]; exact below2 _ _ _
  have hcc : Blk W0 w.heap.size (.cells #[.int .i64 core.num, .int .i64 core.den] 31) := by rw [← hW0]; exact (Blk.new _ _).alloc _
  have hbb : Blk W0 (w.heap.size + 1) (.cells #[.int .i64 0, .int .i64 0, .int .i64 0] 142) := by rw [← hW0]; simpa using Blk.new (w.alloc (.cells #[.int .i64 core.num, .int .i64 core.den] 31)) (.cells #[.int .i64 0, .int .i64 0, .int .i64 0] 142)
  have hS0 : SLow w.heap.size L b1 o1 l.at_.length c1 k b2 o2 l.edges.length c2 (o2 + k * 2 + 1) l.at_[k] l.edges[k].2 core W0 := by
    refine ⟨(hB0.cell (p := ⟨L, 0, none⟩) l0).trans e0, (hB0.cell (p := ⟨L, 1, none⟩) l0).trans e1, (hB0.cell (p := ⟨b1, _, none⟩) l1).trans g1, (hB0.cell (p := ⟨b2, _, none⟩) l2).trans g2, ?_, ?_, theCell_of (hbb.cell 0), theCell_of (hbb.cell 1), theCell_of (hbb.cell 2), hbb.frozen 0, hbb.frozen 1, hbb.frozen 2⟩
    · rw [hcc.cell]; simp
    · rw [hcc.cell]; simp
  have hz0 : W0.heap.size = w.heap.size + 2 := by rw [← hW0]; simp
  rw [hW0]
  clear hW0 hcc hbb
  have hH0 := Lib.hid (hS0.below (Below.refl _ _).drew)
  clear hS0
  have hHB := Lib.hid hB0.drew
  clear hB0
  go_region_held3 (fun W => (W.cell? ⟨L, 0, none⟩ = some (.slice (some ⟨b1, o1, none⟩) l.at_.length c1) ∧ W.cell? ⟨L, 1, none⟩ = some (.slice (some ⟨b2, o2, none⟩) l.edges.length c2) ∧ W.cell? ⟨b1, o1 + k, none⟩ = some (.int .i64 l.at_[k]) ∧ W.cell? ⟨b2, o2 + k * 2 + 1, none⟩ = some (.int .i64 l.edges[k].2) ∧
    W.cell? ⟨w.heap.size, 0, none⟩ = some (.int .i64 core.num) ∧ W.cell? ⟨w.heap.size, 1, none⟩ = some (.int .i64 core.den) ∧
    W.cell? ⟨w.heap.size + 1, 0, none⟩ = some (theCell W ⟨w.heap.size + 1, 0, none⟩) ∧ W.cell? ⟨w.heap.size + 1, 1, none⟩ = some (theCell W ⟨w.heap.size + 1, 1, none⟩) ∧ W.cell? ⟨w.heap.size + 1, 2, none⟩ = some (theCell W ⟨w.heap.size + 1, 2, none⟩) ∧
    W.frozen? ⟨w.heap.size + 1, 0, none⟩ = false ∧ W.frozen? ⟨w.heap.size + 1, 1, none⟩ = false ∧ W.frozen? ⟨w.heap.size + 1, 2, none⟩ = false) ∧ Below w.heap.size w W)
    (first | exact ⟨hH0.out, hHB.out⟩ | (exact keepLow (by assumption) (by assumption)) | (exact keepLow3 l0 l1 l2 _ _ _ (by assumption)))
    (first | (go_at_call 70; refine (whole_any _ _).mono ?_; rintro e w' ⟨rfl, hb⟩; unfold qv) | (go_at_call 69; refine (minus_any _ _ _ HF2.out HF.out).mono ?_; rintro e w' ⟨rfl, hb⟩; unfold qv))
  go_wp2
  rename_i hfin
  obtain ⟨⟨_, _, _, _, _, _, s7, s8, s9, _, _, _⟩, hB⟩ := hfin
  have t7 := some_set3 s7
  have t8 := some_set3 s8
  have t9 := some_set3 s9
  clear s7 s8 s9
  refine bodyPost_ret (v := pv l.at_[k] ((l.edges[k].2 : Rat) - core)) (by simp [results, Tryd.results98, go_sem, pv, t7, t8, t9]) rfl ⟨rfl, hB⟩
end Go.Proofs.YtlhldkiggmlegaaDoor

namespace Go.Proofs.YtlhldkiggmlegaaDoor
open Go.RowKit

/-! ## Lists that grow by one -/
/-- The slice value v is a row of the call's own: n elements of so many cells each. -/
def Row (w : World) (v : Value) (n size : Nat) (xs : List Value) : Prop :=
  xs.length = n * size ∧ ((v = .slice none 0 0 ∧ n = 0) ∨
    ∃ g cap cur e, v = .slice (some ⟨g, 0, none⟩) n cap ∧ Blk w g (.cells cur e (0, 0)) ∧ n ≤ cap ∧ cap ≤ maxLen ∧ cur.size = cap * size ∧ cur.toList.take (n * size) = xs)

theorem Row.nil (w : World) (size : Nat) : Row w (.slice none 0 0) 0 size [] := ⟨by simp, Or.inl ⟨rfl, rfl⟩⟩
theorem Row.of_owns {w : World} {base : Nat} {e : TypeId} {size : Nat} {v : Value} {n : Nat} {xs : List Value} (h : w.ownsRow base e size v n xs) : Row w v n size xs := by
  obtain ⟨h1, h2 | ⟨g, cap, cur, e1, e2, e3, e4, e5, e6, e7⟩⟩ := h
  · exact ⟨h1, Or.inl h2⟩
  · exact ⟨h1, Or.inr ⟨g, cap, cur, e, e1, e3, e4, e5, e6, e7⟩⟩
theorem Row.below {w w' : World} {v : Value} {n size : Nat} {xs : List Value} (h : Row w v n size xs) (hb : Below w.heap.size w w') : Row w' v n size xs := by
  obtain ⟨h1, h2 | ⟨g, cap, cur, e, e1, e3, e4, e5, e6, e7⟩⟩ := h
  · exact ⟨h1, Or.inl h2⟩
  · exact ⟨h1, Or.inr ⟨g, cap, cur, e, e1, e3.below hb, e4, e5, e6, e7⟩⟩
theorem Row.keeps {B : Nat} {w w' : World} {v : Value} {n size : Nat} {xs : List Value} (h : Row w v n size xs) (hb : KeepsB B w w') : Row w' v n size xs := by
  obtain ⟨h1, h2 | ⟨g, cap, cur, e, e1, e3, e4, e5, e6, e7⟩⟩ := h
  · exact ⟨h1, Or.inl h2⟩
  · exact ⟨h1, Or.inr ⟨g, cap, cur, e, e1, e3.keepsC hb, e4, e5, e6, e7⟩⟩
theorem Row.cells {w : World} {v : Value} {n size : Nat} {xs : List Value} (h : Row w v n size xs) : ∃ a cap, v = .slice a n cap ∧ n ≤ cap ∧ (a = none → n = 0 ∧ cap = 0) ∧ (∀ b, a = some b → ∀ j u, xs[j]? = some u → w.cell? (b.add j) = some u) ∧ xs.length = n * size := by
  obtain ⟨h1, ⟨e1, e2⟩ | ⟨g, cap, cur, e, e1, e3, e4, e5, e6, e7⟩⟩ := h
  · exact ⟨none, 0, by rw [e1, e2], by omega, fun _ => ⟨e2, rfl⟩, (fun _ h => by cases h), h1⟩
  · refine ⟨some ⟨g, 0, none⟩, cap, e1, e4, (fun h => by cases h), ?_, h1⟩
    intro b hb j u hu
    cases hb
    have : (Addr.add ⟨g, 0, none⟩ j) = ⟨g, j, none⟩ := by unfold Addr.add; split <;> simp_all
    rw [this, e3.cell]
    rw [← e7, List.getElem?_take] at hu
    split at hu
    · simpa using hu
    · cases hu

theorem addB {W W' : World} {b : Addr} {j : Nat} {v : Value} (h : W.cell? (b.add j) = some v) (hb : Below W.heap.size W W') : W'.cell? (b.add j) = some v := by
  refine (hb.cell ?_).trans h
  unfold World.cell? at h
  split at h
  · rename_i hx; exact (Array.getElem?_eq_some_iff.1 hx).1
  · cases h

theorem below_of_grown {W W' : World} (h : W.grownBy W' none) : Below W.heap.size W W' :=
  (Below.refl _ W).grown h (Nat.le_refl _) (fun k e => by cases e)

theorem Tryd.infoRatio : (Tryd.prog.info? 31).map (fun i => (i.zero, i.size, i.bytes)) = some (some (.agg #[.int .i64 0, .int .i64 0]), 2, 16) := by kernel_rfl

/-- What a list that has grown is. -/
def Grew (w : World) (n size : Nat) (xs : List Value) (e : Ending) (w' : World) : Prop := ∃ v', e = .returned v' ∧ Row w' v' n size xs ∧ Below w.heap.size w w'

set_option maxRecDepth 100000 in
set_option maxHeartbeats 2000000 in
theorem grownR_any (v : Value) (n : Nat) (xs : List Value) (r : Rat) (w : World) (hrow : Row w v n 2 xs) (hn : n ≤ 1000000) :
    Calls Tryd.prog 77 #[v, qv r] w (Grew w (n + 1) 2 (xs ++ [.int .i64 r.num, .int .i64 r.den])) := by
  obtain ⟨a, cap, rfl, hcap, hnone, hcells, hlen⟩ := hrow.cells
  obtain ⟨i0, hi, hz0', hz1, hz2⟩ := info_parts Tryd.infoRatio
  clear hrow
  unfold qv
  go_enter Tryd.func77, Tryd.ntmps77
  go_wp2
  obtain ⟨W0, hW0⟩ : ∃ W0, w.alloc (.cells #[.int .i64 r.num, .int .i64 r.den] 31) = W0 := ⟨_, rfl⟩
  have hB0 : Below w.heap.size w W0 := by rw [← hW0]; exact below1 _ _
  have hcc : Blk W0 w.heap.size (.cells #[.int .i64 r.num, .int .i64 r.den] 31) := by rw [← hW0]; exact Blk.new _ _
  have hz0 : W0.heap.size = w.heap.size + 1 := by rw [← hW0]; simp
  rw [hW0]
  clear hW0
  have c0 : W0.cell? ⟨w.heap.size, 0, none⟩ = some (.int .i64 r.num) := by rw [hcc.cell]; simp
  have c1 : W0.cell? ⟨w.heap.size, 1, none⟩ = some (.int .i64 r.den) := by rw [hcc.cell]; simp
  have hn0 : ¬ (n : Int) < 0 := by omega
  have s1 := Lib.hid (show a = none → n = 0 ∧ n = 0 from fun h => ⟨(hnone h).1, (hnone h).1⟩)
  have hW : Below w.heap.size w (W0.alloc (.cells #[.int .i64 r.num, .int .i64 r.den] 31)).drew := (hB0.alloc hB0.size _).drew
  have s2 := Lib.hid (fun b (hb : a = some b) j u (hu : xs[j]? = some u) => addB (hcells b hb j u hu) hW)
  have hN : Blk (W0.alloc (.cells #[.int .i64 r.num, .int .i64 r.den] 31)).drew (w.heap.size + 1) (.cells #[.int .i64 r.num, .int .i64 r.den] 31) := by have := (Blk.new W0 (.cells #[.int .i64 r.num, .int .i64 r.den] 31)).drew; rwa [hz0] at this
  have s3 := Lib.hid (show ∀ (j : Nat) (u : Value), [Value.int .i64 r.num, .int .i64 r.den][j]? = some u → (W0.alloc (.cells #[.int .i64 r.num, .int .i64 r.den] 31)).drew.cell? ((⟨w.heap.size + 1, 0, none⟩ : Addr).add j) = some u from fun j u hu => by
    have e : (⟨w.heap.size + 1, 0, none⟩ : Addr).add j = ⟨w.heap.size + 1, j, none⟩ := by unfold Addr.add; split <;> simp_all
    rw [e, hN.cell]; simpa using hu)
  have s4 : n + 1 ≤ maxLen := by unfold maxLen; omega
  have s4' := Lib.hid s4
  have hHB := Lib.hid hB0
  have HL := Lib.hid hlen
  clear hcells hlen hnone hB0 s4 hN hW
  go_region_law (refine step_append_grows rfl (.tmp 10) (.tmp 12) 114 rfl 31 i0 (.agg #[.int .i64 0, .int .i64 0]) 2 16 Tryd.underlying114 hi hz0' hz1 hz2 rfl (by decide) a n n xs (by simp [Act.eval]) s1.out HL.out s2.out ⟨w.heap.size + 1, 0, none⟩ 1 1 [.int .i64 r.num, .int .i64 r.den] (by simp [Act.eval]) rfl s3.out (by simp [Value.oneCell']) (by omega) s4'.out (by omega) ?_; intro v' w' hown hgrow)
  go_wp2
  go_ret
  exact ⟨v', rfl, Row.of_owns hown, hHB.out.trans ((((Below.refl _ _).alloc (Nat.le_refl _) _).drew.trans ((below_of_grown hgrow).mono (by simp))).mono (by omega))⟩
theorem Tryd.infoE : (Tryd.prog.info? 69).map (fun i => (i.zero, i.size, i.bytes)) = some (some (.agg #[.int .i64 0, .int .i64 0]), 2, 16) := by kernel_rfl

set_option maxRecDepth 100000 in
set_option maxHeartbeats 2000000 in
theorem grownE_any (v : Value) (n : Nat) (xs : List Value) (x y : Int) (w : World) (hrow : Row w v n 2 xs) (hn : n ≤ 1000000) :
    Calls Tryd.prog 83 #[v, .agg #[.int .i64 x, .int .i64 y]] w (Grew w (n + 1) 2 (xs ++ [.int .i64 x, .int .i64 y])) := by
  obtain ⟨a, cap, rfl, hcap, hnone, hcells, hlen⟩ := hrow.cells
  obtain ⟨i0, hi, hz0', hz1, hz2⟩ := info_parts Tryd.infoE
  clear hrow
  go_enter Tryd.func83, Tryd.ntmps83
  go_wp2
  obtain ⟨W0, hW0⟩ : ∃ W0, w.alloc (.cells #[.int .i64 x, .int .i64 y] 69) = W0 := ⟨_, rfl⟩
  have hB0 : Below w.heap.size w W0 := by rw [← hW0]; exact below1 _ _
  have hcc : Blk W0 w.heap.size (.cells #[.int .i64 x, .int .i64 y] 69) := by rw [← hW0]; exact Blk.new _ _
  have hz0 : W0.heap.size = w.heap.size + 1 := by rw [← hW0]; simp
  rw [hW0]
  clear hW0
  have c0 : W0.cell? ⟨w.heap.size, 0, none⟩ = some (.int .i64 x) := by rw [hcc.cell]; simp
  have c1 : W0.cell? ⟨w.heap.size, 1, none⟩ = some (.int .i64 y) := by rw [hcc.cell]; simp
  have hn0 : ¬ (n : Int) < 0 := by omega
  have s1 := Lib.hid (show a = none → n = 0 ∧ n = 0 from fun h => ⟨(hnone h).1, (hnone h).1⟩)
  have hW : Below w.heap.size w (W0.alloc (.cells #[.int .i64 x, .int .i64 y] 69)).drew := (hB0.alloc hB0.size _).drew
  have s2 := Lib.hid (fun b (hb : a = some b) j u (hu : xs[j]? = some u) => addB (hcells b hb j u hu) hW)
  have hN : Blk (W0.alloc (.cells #[.int .i64 x, .int .i64 y] 69)).drew (w.heap.size + 1) (.cells #[.int .i64 x, .int .i64 y] 69) := by have := (Blk.new W0 (.cells #[.int .i64 x, .int .i64 y] 69)).drew; rwa [hz0] at this
  have s3 := Lib.hid (show ∀ (j : Nat) (u : Value), [Value.int .i64 x, .int .i64 y][j]? = some u → (W0.alloc (.cells #[.int .i64 x, .int .i64 y] 69)).drew.cell? ((⟨w.heap.size + 1, 0, none⟩ : Addr).add j) = some u from fun j u hu => by
    have e : (⟨w.heap.size + 1, 0, none⟩ : Addr).add j = ⟨w.heap.size + 1, j, none⟩ := by unfold Addr.add; split <;> simp_all
    rw [e, hN.cell]; simpa using hu)
  have s4 : n + 1 ≤ maxLen := by unfold maxLen; omega
  have s4' := Lib.hid s4
  have hHB := Lib.hid hB0
  have HL := Lib.hid hlen
  clear hcells hlen hnone hB0 s4 hN hW
  go_region_law (refine step_append_grows rfl (.tmp 10) (.tmp 12) 23 rfl 69 i0 (.agg #[.int .i64 0, .int .i64 0]) 2 16 Tryd.underlying23 hi hz0' hz1 hz2 rfl (by decide) a n n xs (by simp [Act.eval]) s1.out HL.out s2.out ⟨w.heap.size + 1, 0, none⟩ 1 1 [.int .i64 x, .int .i64 y] (by simp [Act.eval]) rfl s3.out (by simp [Value.oneCell']) (by omega) s4'.out (by omega) ?_; intro v' w' hown hgrow)
  go_wp2
  go_ret
  exact ⟨v', rfl, Row.of_owns hown, hHB.out.trans ((((Below.refl _ _).alloc (Nat.le_refl _) _).drew.trans ((below_of_grown hgrow).mono (by simp))).mono (by omega))⟩
theorem Tryd.infoP : (Tryd.prog.info? 45).map (fun i => (i.zero, i.size, i.bytes)) = some (some (.agg #[.int .i64 0, .int .i64 0, .int .i64 0, .int .i64 0]), 4, 32) := by kernel_rfl

set_option maxRecDepth 100000 in
set_option maxHeartbeats 2000000 in
theorem grownP_any (v : Value) (n : Nat) (xs : List Value) (x y z s : Int) (w : World) (hrow : Row w v n 4 xs) (hn : n ≤ 1000000) :
    Calls Tryd.prog 76 #[v, .agg #[.int .i64 x, .int .i64 y, .int .i64 z, .int .i64 s]] w (Grew w (n + 1) 4 (xs ++ [.int .i64 x, .int .i64 y, .int .i64 z, .int .i64 s])) := by
  obtain ⟨a, cap, rfl, hcap, hnone, hcells, hlen⟩ := hrow.cells
  obtain ⟨i0, hi, hz0', hz1, hz2⟩ := info_parts Tryd.infoP
  clear hrow
  go_enter Tryd.func76, Tryd.ntmps76
  go_wp2
  obtain ⟨W0, hW0⟩ : ∃ W0, w.alloc (.cells #[.int .i64 x, .int .i64 y, .int .i64 z, .int .i64 s] 45) = W0 := ⟨_, rfl⟩
  have hB0 : Below w.heap.size w W0 := by rw [← hW0]; exact below1 _ _
  have hcc : Blk W0 w.heap.size (.cells #[.int .i64 x, .int .i64 y, .int .i64 z, .int .i64 s] 45) := by rw [← hW0]; exact Blk.new _ _
  have hz0 : W0.heap.size = w.heap.size + 1 := by rw [← hW0]; simp
  rw [hW0]
  clear hW0
  have c0 : W0.cell? ⟨w.heap.size, 0, none⟩ = some (.int .i64 x) := by rw [hcc.cell]; simp
  have c1 : W0.cell? ⟨w.heap.size, 1, none⟩ = some (.int .i64 y) := by rw [hcc.cell]; simp
  have c2 : W0.cell? ⟨w.heap.size, 2, none⟩ = some (.int .i64 z) := by rw [hcc.cell]; simp
  have c3 : W0.cell? ⟨w.heap.size, 3, none⟩ = some (.int .i64 s) := by rw [hcc.cell]; simp
  have hn0 : ¬ (n : Int) < 0 := by omega
  have s1 := Lib.hid (show a = none → n = 0 ∧ n = 0 from fun h => ⟨(hnone h).1, (hnone h).1⟩)
  have hW : Below w.heap.size w (W0.alloc (.cells #[.int .i64 x, .int .i64 y, .int .i64 z, .int .i64 s] 45)).drew := (hB0.alloc hB0.size _).drew
  have s2 := Lib.hid (fun b (hb : a = some b) j u (hu : xs[j]? = some u) => addB (hcells b hb j u hu) hW)
  have hN : Blk (W0.alloc (.cells #[.int .i64 x, .int .i64 y, .int .i64 z, .int .i64 s] 45)).drew (w.heap.size + 1) (.cells #[.int .i64 x, .int .i64 y, .int .i64 z, .int .i64 s] 45) := by have := (Blk.new W0 (.cells #[.int .i64 x, .int .i64 y, .int .i64 z, .int .i64 s] 45)).drew; rwa [hz0] at this
  have s3 := Lib.hid (show ∀ (j : Nat) (u : Value), [Value.int .i64 x, .int .i64 y, .int .i64 z, .int .i64 s][j]? = some u → (W0.alloc (.cells #[.int .i64 x, .int .i64 y, .int .i64 z, .int .i64 s] 45)).drew.cell? ((⟨w.heap.size + 1, 0, none⟩ : Addr).add j) = some u from fun j u hu => by
    have e : (⟨w.heap.size + 1, 0, none⟩ : Addr).add j = ⟨w.heap.size + 1, j, none⟩ := by unfold Addr.add; split <;> simp_all
    rw [e, hN.cell]; simpa using hu)
  have s4 : n + 1 ≤ maxLen := by unfold maxLen; omega
  have s4' := Lib.hid s4
  have hHB := Lib.hid hB0
  have HL := Lib.hid hlen
  clear hcells hlen hnone hB0 s4 hN hW
  go_region_law (refine step_append_grows rfl (.tmp 10) (.tmp 12) 106 rfl 45 i0 (.agg #[.int .i64 0, .int .i64 0, .int .i64 0, .int .i64 0]) 4 32 Tryd.underlying106 hi hz0' hz1 hz2 rfl (by decide) a n n xs (by simp [Act.eval]) s1.out HL.out s2.out ⟨w.heap.size + 1, 0, none⟩ 1 1 [.int .i64 x, .int .i64 y, .int .i64 z, .int .i64 s] (by simp [Act.eval]) rfl s3.out (by simp [Value.oneCell']) (by omega) s4'.out (by omega) ?_; intro v' w' hown hgrow)
  go_wp2
  go_ret
  exact ⟨v', rfl, Row.of_owns hown, hHB.out.trans ((((Below.refl _ _).alloc (Nat.le_refl _) _).drew.trans ((below_of_grown hgrow).mono (by simp))).mono (by omega))⟩
/-- The heights of the line through two points, as the program holds them. -/
abbrev hv (b1 b2 b3 : Nat) : Value := .func (.func 110) #[] #[.pointer (some ⟨b1, 0, none⟩), .pointer (some ⟨b2, 0, none⟩), .pointer (some ⟨b3, 0, none⟩)]
theorem Tryd.infoH : (Tryd.prog.info? 98).map (fun i => (i.zero, i.size, i.bytes)) = some (some (.nilFunc), 1, 8) := by kernel_rfl

set_option maxRecDepth 100000 in
set_option maxHeartbeats 2000000 in
theorem grownH_any (v : Value) (n : Nat) (xs : List Value) (b1 b2 b3 : Nat) (w : World) (hrow : Row w v n 1 xs) (hn : n ≤ 1000000) :
    Calls Tryd.prog 99 #[v, hv b1 b2 b3] w (Grew w (n + 1) 1 (xs ++ [hv b1 b2 b3])) := by
  obtain ⟨a, cap, rfl, hcap, hnone, hcells, hlen⟩ := hrow.cells
  obtain ⟨i0, hi, hz0', hz1, hz2⟩ := info_parts Tryd.infoH
  clear hrow
  have hn0 : ¬ (n : Int) < 0 := by omega
  have s1 := Lib.hid (show a = none → n = 0 ∧ n = 0 from fun h => ⟨(hnone h).1, (hnone h).1⟩)
  have hW : Below w.heap.size w (w.alloc (.cells #[hv b1 b2 b3] 98)) := below1 _ _
  have s2 := Lib.hid (fun b (hb : a = some b) j u (hu : xs[j]? = some u) => addB (hcells b hb j u hu) hW)
  have hN : Blk (w.alloc (.cells #[hv b1 b2 b3] 98)) w.heap.size (.cells #[hv b1 b2 b3] 98) := Blk.new _ _
  have s3 := Lib.hid (show ∀ (j : Nat) (u : Value), [hv b1 b2 b3][j]? = some u → (w.alloc (.cells #[hv b1 b2 b3] 98)).cell? ((⟨w.heap.size, 0, none⟩ : Addr).add j) = some u from fun j u hu => by
    have e : (⟨w.heap.size, 0, none⟩ : Addr).add j = ⟨w.heap.size, j, none⟩ := by unfold Addr.add; split <;> simp_all
    rw [e, hN.cell]; simpa using hu)
  have s4 : n + 1 ≤ maxLen := by unfold maxLen; omega
  have s4' := Lib.hid s4
  have hHB := Lib.hid hW
  have HL := Lib.hid hlen
  clear hcells hlen hnone s4 hN hW
  go_enter Tryd.func99, Tryd.ntmps99
  go_wp2_with (at_builtin; refine wpList_append_grows _ rfl (.tmp 10) (.tmp 12) 99 rfl 98 i0 .nilFunc 1 8 Tryd.underlying99 hi hz0' hz1 hz2 rfl (by decide) a n n xs (by simp [Act.eval]) s1.out HL.out s2.out ⟨w.heap.size, 0, none⟩ 1 1 [hv b1 b2 b3] (by simp [Act.eval]) rfl s3.out (by simp [Value.oneCell']) (by omega) s4'.out (by omega) ?_; intro v' w' hown hgrow)
  go_ret
  exact ⟨v', rfl, Row.of_owns hown, hHB.out.trans ((below_of_grown hgrow).mono (by simp))⟩
end Go.Proofs.YtlhldkiggmlegaaDoor
