import Derived.Test.YtlhldkiggmlegaaDoorNn
import Derived.Test.YtlhldkiggmlegaaDoorNp
namespace Go.Proofs.YtlhldkiggmlegaaDoor
open Go.Geo

/-! ## The least and the greatest height of a number: what the reference's pairs of bounds say is what the corners give -/
abbrev B3 := Int × Int × Int
def loC (l : LogD) (core : Int) (k : Nat) : Int := loD l k + core
def hiC (l : LogD) (core : Int) (k : Nat) : Int := hiD l k - core
def leastAt (l : LogD) (core x : Int) (k : Nat) : List B3 :=
  if x < atD l k then [(atD l k - x, loC l core k, -1)] else if atD l k < x then [(x - atD l k, -hiC l core k, 1)] else []
def mostAt (l : LogD) (core x : Int) (k : Nat) : List B3 :=
  if x < atD l k then [(atD l k - x, hiC l core k, -1)] else if atD l k < x then [(x - atD l k, -loC l core k, 1)] else []
def leastB (l : LogD) (core x : Int) (n : Nat) : List B3 := (List.range n).flatMap (leastAt l core x)
def mostB (l : LogD) (core x : Int) (n : Nat) : List B3 := (List.range n).flatMap (mostAt l core x)
def aI (i k : B3) : Int := i.2.2 * k.1 - k.2.2 * i.1
def bI (i k : B3) : Int := k.2.1 * i.1 - i.2.1 * k.1
def hiCand (i k : B3) : List Rat := if 0 < aI i k then [mkRat (bI i k) (aI i k).toNat] else []
def loCand (i k : B3) : List Rat := if aI i k < 0 then [mkRat (-bI i k) (-aI i k).toNat] else []
def placeV (l : LogD) (x : Int) (f : Nat → Int) (n : Nat) : Option Rat := (List.range n).foldl (fun r k => if atD l k = x then some ((f k : Int) : Rat) else r) none
def candL (f : B3 → B3 → List Rat) (ls ms : List B3) : List Rat := ls.flatMap fun i => ms.flatMap fun k => f i k
def hiList (l : LogD) (core x : Int) : List Rat := (placeV l x (hiC l core) l.at_.length).toList ++ candL hiCand (leastB l core x l.at_.length) (mostB l core x l.at_.length)
def loList (l : LogD) (core x : Int) : List Rat := (placeV l x (loC l core) l.at_.length).toList ++ candL loCand (leastB l core x l.at_.length) (mostB l core x l.at_.length)

theorem placeV_snoc (l : LogD) (x : Int) (f : Nat → Int) (n : Nat) : placeV l x f (n + 1) = if atD l n = x then some ((f n : Int) : Rat) else placeV l x f n := by
  unfold placeV
  rw [List.range_succ, List.foldl_append]
  rfl
theorem placeV_some {l : LogD} {x : Int} {f : Nat → Int} : ∀ {n : Nat} {r : Rat}, placeV l x f n = some r → ∃ k, k < n ∧ atD l k = x ∧ r = ((f k : Int) : Rat)
  | 0, r, h => by cases h
  | n + 1, r, h => by
    rw [placeV_snoc] at h
    by_cases e : atD l n = x
    · rw [if_pos e] at h
      exact ⟨n, by omega, e, by cases h; rfl⟩
    · rw [if_neg e] at h
      obtain ⟨k, h1, h2⟩ := placeV_some h
      exact ⟨k, by omega, h2⟩
theorem placeV_at {l : LogD} {x : Int} {f : Nat → Int} {k : Nat} (hk : atD l k = x) : ∀ {n : Nat}, (∀ i j, i < j → j < n → atD l i < atD l j) → k < n → placeV l x f n = some ((f k : Int) : Rat)
  | 0, _, h => by omega
  | n + 1, hm, h => by
    rw [placeV_snoc]
    by_cases e : k = n
    · subst e; rw [if_pos hk]
    · rw [if_neg (by have := hm k n (by omega) (by omega); omega)]
      exact placeV_at hk (fun i j h1 h2 => hm i j h1 (by omega)) (by omega)

def bd (b : B3) : Bd := ⟨(b.1 : Rat), (b.2.1 : Rat), (b.2.2 : Rat)⟩
def LR (l : LogD) (core : Int) (k : Nat) : Rat := (loC l core k : Rat)
def UR (l : LogD) (core : Int) (k : Nat) : Rat := (hiC l core k : Rat)

theorem least_mem {l : LogD} {core x : Int} {b : Bd} : b ∈ leastL l.at_.length (xR l) (LR l core) (UR l core) (x : Rat) ↔ ∃ c ∈ leastB l core x l.at_.length, bd c = b := by
  rw [mem_least]
  unfold leastB
  simp only [List.mem_flatMap, List.mem_range]
  constructor
  · rintro ⟨i, hi, ⟨h1, rfl⟩ | ⟨h1, rfl⟩⟩
    · have h2 : x < atD l i := Rat.intCast_lt_intCast.1 h1
      refine ⟨_, ⟨i, hi, by unfold leastAt; rw [if_pos h2]; exact List.mem_singleton.2 rfl⟩, ?_⟩
      simp [bd, xR, LR, Rat.intCast_sub]
    · have h2 : atD l i < x := Rat.intCast_lt_intCast.1 h1
      refine ⟨_, ⟨i, hi, by unfold leastAt; rw [if_neg (by omega), if_pos h2]; exact List.mem_singleton.2 rfl⟩, ?_⟩
      simp [bd, xR, UR, Rat.intCast_sub]
  · rintro ⟨c, ⟨i, hi, hc⟩, rfl⟩
    refine ⟨i, hi, ?_⟩
    unfold leastAt at hc
    by_cases h1 : x < atD l i
    · rw [if_pos h1] at hc
      obtain rfl := List.mem_singleton.1 hc
      refine .inl ⟨Rat.intCast_lt_intCast.2 h1, ?_⟩
      simp [bd, xR, LR, Rat.intCast_sub]
    · rw [if_neg h1] at hc
      by_cases h2 : atD l i < x
      · rw [if_pos h2] at hc
        obtain rfl := List.mem_singleton.1 hc
        refine .inr ⟨Rat.intCast_lt_intCast.2 h2, ?_⟩
        simp [bd, xR, UR, Rat.intCast_sub]
      · rw [if_neg h2] at hc
        cases hc
theorem most_mem {l : LogD} {core x : Int} {b : Bd} : b ∈ mostL l.at_.length (xR l) (LR l core) (UR l core) (x : Rat) ↔ ∃ c ∈ mostB l core x l.at_.length, bd c = b := by
  rw [mem_most]
  unfold mostB
  simp only [List.mem_flatMap, List.mem_range]
  constructor
  · rintro ⟨i, hi, ⟨h1, rfl⟩ | ⟨h1, rfl⟩⟩
    · have h2 : x < atD l i := Rat.intCast_lt_intCast.1 h1
      refine ⟨_, ⟨i, hi, by unfold mostAt; rw [if_pos h2]; exact List.mem_singleton.2 rfl⟩, ?_⟩
      simp [bd, xR, UR, Rat.intCast_sub]
    · have h2 : atD l i < x := Rat.intCast_lt_intCast.1 h1
      refine ⟨_, ⟨i, hi, by unfold mostAt; rw [if_neg (by omega), if_pos h2]; exact List.mem_singleton.2 rfl⟩, ?_⟩
      simp [bd, xR, LR, Rat.intCast_sub]
  · rintro ⟨c, ⟨i, hi, hc⟩, rfl⟩
    refine ⟨i, hi, ?_⟩
    unfold mostAt at hc
    by_cases h1 : x < atD l i
    · rw [if_pos h1] at hc
      obtain rfl := List.mem_singleton.1 hc
      refine .inl ⟨Rat.intCast_lt_intCast.2 h1, ?_⟩
      simp [bd, xR, UR, Rat.intCast_sub]
    · rw [if_neg h1] at hc
      by_cases h2 : atD l i < x
      · rw [if_pos h2] at hc
        obtain rfl := List.mem_singleton.1 hc
        refine .inr ⟨Rat.intCast_lt_intCast.2 h2, ?_⟩
        simp [bd, xR, LR, Rat.intCast_sub]
      · rw [if_neg h2] at hc
        cases hc

theorem aOf_bd (i k : B3) : aOf (bd i) (bd k) = (aI i k : Rat) ∧ bOf (bd i) (bd k) = (bI i k : Rat) := by
  simp [aOf, bOf, bd, aI, bI, Rat.intCast_sub, Rat.intCast_mul]
theorem mkRat_mul {n d : Int} (hd : 0 < d) : mkRat n d.toNat * (d : Rat) = (n : Rat) := by
  obtain ⟨e, rfl⟩ := Int.eq_ofNat_of_zero_le (Int.le_of_lt hd)
  rw [Int.toNat_natCast, Rat.mkRat_eq_div, Rat.intCast_natCast]
  have h1 : (0 : Rat) < (e : Rat) := Rat.natCast_pos.2 (by omega)
  exact Rat.div_mul_cancel (by grind)
theorem mem_hi {l : LogD} {core x : Int} {r : Rat} (hf : Fit l.at_ [l.edges]) : r ∈ hiList l core x ↔
    (∃ k, k < l.at_.length ∧ atD l k = x ∧ r = UR l core k) ∨ ∃ i ∈ leastB l core x l.at_.length, ∃ k ∈ mostB l core x l.at_.length, 0 < aI i k ∧ r * (aI i k : Rat) = (bI i k : Rat) := by
  unfold hiList candL
  rw [List.mem_append]
  refine or_congr ?_ ?_
  · constructor
    · intro h
      rw [Option.mem_toList] at h
      obtain ⟨k, h1, h2, h3⟩ := placeV_some h
      exact ⟨k, h1, h2, h3⟩
    · rintro ⟨k, h1, h2, rfl⟩
      rw [Option.mem_toList]
      exact placeV_at h2 (fun i j h1 h2 => strict_at hf h1 h2) h1
  · simp only [List.mem_flatMap]
    constructor
    · rintro ⟨i, hi, k, hk, h⟩
      unfold hiCand at h
      by_cases ha : 0 < aI i k
      · rw [if_pos ha] at h
        obtain rfl := List.mem_singleton.1 h
        exact ⟨i, hi, k, hk, ha, mkRat_mul ha⟩
      · rw [if_neg ha] at h; cases h
    · rintro ⟨i, hi, k, hk, ha, h⟩
      refine ⟨i, hi, k, hk, ?_⟩
      unfold hiCand
      rw [if_pos ha]
      refine List.mem_singleton.2 ?_
      have h1 := mkRat_mul (n := bI i k) ha
      have h2 : (0 : Rat) < (aI i k : Rat) := Rat.intCast_lt_intCast.2 ha
      rw [← h] at h1
      have h3 : (mkRat (bI i k) (aI i k).toNat - r) * (aI i k : Rat) = 0 := by grind
      rcases Rat.mul_eq_zero.1 h3 with h3 | h3 <;> grind
theorem mem_lo {l : LogD} {core x : Int} {r : Rat} (hf : Fit l.at_ [l.edges]) : r ∈ loList l core x ↔
    (∃ k, k < l.at_.length ∧ atD l k = x ∧ r = LR l core k) ∨ ∃ i ∈ leastB l core x l.at_.length, ∃ k ∈ mostB l core x l.at_.length, aI i k < 0 ∧ r * (aI i k : Rat) = (bI i k : Rat) := by
  unfold loList candL
  rw [List.mem_append]
  refine or_congr ?_ ?_
  · constructor
    · intro h
      rw [Option.mem_toList] at h
      obtain ⟨k, h1, h2, h3⟩ := placeV_some h
      exact ⟨k, h1, h2, h3⟩
    · rintro ⟨k, h1, h2, rfl⟩
      rw [Option.mem_toList]
      exact placeV_at h2 (fun i j h1 h2 => strict_at hf h1 h2) h1
  · simp only [List.mem_flatMap]
    constructor
    · rintro ⟨i, hi, k, hk, h⟩
      unfold loCand at h
      by_cases ha : aI i k < 0
      · rw [if_pos ha] at h
        obtain rfl := List.mem_singleton.1 h
        have h1 := mkRat_mul (n := -bI i k) (d := -aI i k) (by omega)
        rw [Rat.intCast_neg, Rat.intCast_neg] at h1
        exact ⟨i, hi, k, hk, ha, by grind⟩
      · rw [if_neg ha] at h; cases h
    · rintro ⟨i, hi, k, hk, ha, h⟩
      refine ⟨i, hi, k, hk, ?_⟩
      unfold loCand
      rw [if_pos ha]
      refine List.mem_singleton.2 ?_
      have h1 := mkRat_mul (n := -bI i k) (d := -aI i k) (by omega)
      have h2 : (aI i k : Rat) < 0 := Rat.intCast_lt_intCast.2 ha
      rw [Rat.intCast_neg, Rat.intCast_neg, ← h] at h1
      have h3 : (mkRat (-bI i k) (-aI i k).toNat - r) * (aI i k : Rat) = 0 := by grind
      rcases Rat.mul_eq_zero.1 h3 with h3 | h3 <;> grind

theorem ptK_at (l : LogD) (core : Rat) (i c : Nat) : (ptK (lowP l core i) (uppP l core i) c).1 = atD l i := by
  unfold ptK
  split <;> rfl
theorem IsCorner.lt {l : LogD} {core : Rat} {p : Pt × Pt} (h : IsCorner l core p) (hf : Fit l.at_ [l.edges]) : p.1.1 < p.2.1 := by
  obtain ⟨i, j, c, d, hij, hj, _, _, rfl⟩ := h
  rw [ptK_at, ptK_at]
  exact strict_at hf hij hj
/-- A corner that keeps the core, seen from x: its height there and its step. -/
theorem keep_feas {l : LogD} (hf : Fit l.at_ [l.edges]) {core x : Int} {p : Pt × Pt} (hp : p ∈ keepL l (core : Rat)) :
    ∃ m, Feas l.at_.length (xR l) (LR l core) (UR l core) (x : Rat) (lineAt p.1 p.2 x) m := by
  obtain ⟨h1, h2⟩ := List.mem_filter.1 hp
  have hx : p.1.1 < p.2.1 := (isCorner_of_mem h1).lt hf
  refine ⟨lineAt p.1 p.2 1 - lineAt p.1 p.2 0, fun k hk => ?_⟩
  have h3 := keepsB_iff.1 h2 k hk
  rw [lineAt_affine hx (atD l k)] at h3
  rw [lineAt_affine hx x]
  simp only [lowP, uppP] at h3
  simp only [LR, UR, loC, hiC, xR, Rat.intCast_add, Rat.intCast_sub]
  generalize lineAt p.1 p.2 0 = y0 at *
  generalize lineAt p.1 p.2 1 = y1 at *
  constructor <;> grind
/-- A line between all edges that touches two of them is a corner that keeps the core. -/
theorem feas_keep {l : LogD} (hf : Fit l.at_ [l.edges]) {core x : Int} {h m : Rat} (hF : Feas l.at_.length (xR l) (LR l core) (UR l core) (x : Rat) h m)
    {i j : Nat} (hij : i < j) (hj : j < l.at_.length) (ti : Tight (xR l) (LR l core) (UR l core) (x : Rat) h m i) (tj : Tight (xR l) (LR l core) (UR l core) (x : Rat) h m j) :
    ∃ p ∈ keepL l (core : Rat), lineAt p.1 p.2 x = h := by
  obtain ⟨a, ha1, ha2, ha⟩ : ∃ a : Pt, a.1 = atD l i ∧ a.2 = h + m * (xR l i - (x : Rat)) ∧ (a = lowP l core i ∨ a = uppP l core i) := by
    rcases ti with t | t
    · refine ⟨lowP l core i, rfl, ?_, .inl rfl⟩
      rw [t]; simp [lowP, LR, loC, Rat.intCast_add]
    · refine ⟨uppP l core i, rfl, ?_, .inr rfl⟩
      rw [t]; simp [uppP, UR, hiC, Rat.intCast_sub]
  obtain ⟨b, hb1, hb2, hb⟩ : ∃ b : Pt, b.1 = atD l j ∧ b.2 = h + m * (xR l j - (x : Rat)) ∧ (b = lowP l core j ∨ b = uppP l core j) := by
    rcases tj with t | t
    · refine ⟨lowP l core j, rfl, ?_, .inl rfl⟩
      rw [t]; simp [lowP, LR, loC, Rat.intCast_add]
    · refine ⟨uppP l core j, rfl, ?_, .inr rfl⟩
      rw [t]; simp [uppP, UR, hiC, Rat.intCast_sub]
  have hlt : a.1 < b.1 := by rw [ha1, hb1]; exact strict_at hf hij hj
  have hall : ∀ t : Int, lineAt a b t = h + m * ((t : Rat) - (x : Rat)) := by
    intro t
    have e := lineAt_eq a b t hlt
    have hl : (a.1 : Rat) < (b.1 : Rat) := Rat.intCast_lt_intCast.2 hlt
    rw [ha2, hb2] at e
    simp only [xR] at e
    rw [ha1, hb1] at e hl
    generalize lineAt a b t = y at *
    have e2 : (y - (h + m * ((t : Rat) - (x : Rat)))) * ((atD l j : Rat) - (atD l i : Rat)) = 0 := by grind
    rcases Rat.mul_eq_zero.1 e2 with h3 | h3 <;> grind
  have hm : (a, b) ∈ cornersL l core := by
    refine mem_corners hij hj ?_
    simp only [cn2, two1]
    rcases ha with rfl | rfl <;> rcases hb with rfl | rfl <;> simp
  refine ⟨(a, b), List.mem_filter.2 ⟨hm, keepsB_iff.2 fun k hk => ?_⟩, ?_⟩
  · have := hF k hk
    rw [hall]
    simp only [LR, UR, loC, hiC, xR, Rat.intCast_add, Rat.intCast_sub] at this
    simp only [lowP, uppP]
    exact this
  · rw [hall]; grind

theorem lists_ne {l : LogD} (hf : Fit l.at_ [l.edges]) (core x : Int) : hiList l core x ≠ [] ∧ loList l core x ≠ [] := by
  have h2 := hf.two
  have h01 := strict_at hf (show 0 < 1 by omega) (by omega : 1 < l.at_.length)
  suffices h : (∃ k, k < l.at_.length ∧ atD l k = x) ∨ (∃ i ∈ leastB l core x l.at_.length, ∃ k ∈ mostB l core x l.at_.length, 0 < aI i k) ∧ (∃ i ∈ leastB l core x l.at_.length, ∃ k ∈ mostB l core x l.at_.length, aI i k < 0) by
    rcases h with ⟨k, h1, h2⟩ | ⟨⟨i, hi, k, hk, ha⟩, ⟨i', hi', k', hk', ha'⟩⟩
    · refine ⟨fun e => ?_, fun e => ?_⟩
      · have := (mem_hi hf (core := core) (x := x) (r := UR l core k)).2 (.inl ⟨k, h1, h2, rfl⟩)
        rw [e] at this; cases this
      · have := (mem_lo hf (core := core) (x := x) (r := LR l core k)).2 (.inl ⟨k, h1, h2, rfl⟩)
        rw [e] at this; cases this
    · refine ⟨fun e => ?_, fun e => ?_⟩
      · have := (mem_hi hf (core := core) (x := x) (r := mkRat (bI i k) (aI i k).toNat)).2 (.inr ⟨i, hi, k, hk, ha, mkRat_mul ha⟩)
        rw [e] at this; cases this
      · have h1 := mkRat_mul (n := -bI i' k') (d := -aI i' k') (by omega)
        rw [Rat.intCast_neg, Rat.intCast_neg] at h1
        have := (mem_lo hf (core := core) (x := x) (r := mkRat (-bI i' k') (-aI i' k').toNat)).2 (.inr ⟨i', hi', k', hk', ha', by grind⟩)
        rw [e] at this; cases this
  have mL : ∀ k, k < l.at_.length → ∀ c ∈ leastAt l core x k, c ∈ leastB l core x l.at_.length := fun k hk c hc => List.mem_flatMap.2 ⟨k, List.mem_range.2 hk, hc⟩
  have mM : ∀ k, k < l.at_.length → ∀ c ∈ mostAt l core x k, c ∈ mostB l core x l.at_.length := fun k hk c hc => List.mem_flatMap.2 ⟨k, List.mem_range.2 hk, hc⟩
  have least_r : ∀ k, x < atD l k → (atD l k - x, loC l core k, -1) ∈ leastAt l core x k := fun k h => by unfold leastAt; rw [if_pos h]; exact List.mem_singleton.2 rfl
  have least_l : ∀ k, atD l k < x → (x - atD l k, -hiC l core k, 1) ∈ leastAt l core x k := fun k h => by unfold leastAt; rw [if_neg (by omega), if_pos h]; exact List.mem_singleton.2 rfl
  have most_r : ∀ k, x < atD l k → (atD l k - x, hiC l core k, -1) ∈ mostAt l core x k := fun k h => by unfold mostAt; rw [if_pos h]; exact List.mem_singleton.2 rfl
  have most_l : ∀ k, atD l k < x → (x - atD l k, -loC l core k, 1) ∈ mostAt l core x k := fun k h => by unfold mostAt; rw [if_neg (by omega), if_pos h]; exact List.mem_singleton.2 rfl
  by_cases e0 : atD l 0 = x
  · exact .inl ⟨0, by omega, e0⟩
  by_cases e1 : atD l 1 = x
  · exact .inl ⟨1, by omega, e1⟩
  right
  by_cases c0 : x < atD l 0
  · have c1 : x < atD l 1 := by omega
    refine ⟨⟨_, mL 1 (by omega) _ (least_r 1 c1), _, mM 0 (by omega) _ (most_r 0 c0), ?_⟩, ⟨_, mL 0 (by omega) _ (least_r 0 c0), _, mM 1 (by omega) _ (most_r 1 c1), ?_⟩⟩ <;> (simp only [aI]; omega)
  · by_cases c1 : x < atD l 1
    · refine ⟨⟨_, mL 0 (by omega) _ (least_l 0 (by omega)), _, mM 1 (by omega) _ (most_r 1 c1), ?_⟩, ⟨_, mL 1 (by omega) _ (least_r 1 c1), _, mM 0 (by omega) _ (most_l 0 (by omega)), ?_⟩⟩ <;> (simp only [aI]; omega)
    · refine ⟨⟨_, mL 1 (by omega) _ (least_l 1 (by omega)), _, mM 0 (by omega) _ (most_l 0 (by omega)), ?_⟩, ⟨_, mL 0 (by omega) _ (least_l 0 (by omega)), _, mM 1 (by omega) _ (most_l 1 (by omega)), ?_⟩⟩ <;> (simp only [aI]; omega)

/-- Every height that is kept lies between what the bounds say, and both ends are kept. -/
theorem feas_bd {l : LogD} (hf : Fit l.at_ [l.edges]) {core x : Int} {h m : Rat} (hF : Feas l.at_.length (xR l) (LR l core) (UR l core) (x : Rat) h m) : (∀ r ∈ hiList l core x, h ≤ r) ∧ ∀ r ∈ loList l core x, r ≤ h := by
  have hP := feas_pairs hF
  constructor
  · intro r hr
    rcases (mem_hi hf).1 hr with ⟨k, h1, h2, rfl⟩ | ⟨i, hi, k, hk, ha, e⟩
    · exact ((feas_iff.1 hF).2.2 k h1 (by rw [← h2]; rfl)).2
    · have h3 := hP _ (least_mem.2 ⟨i, hi, rfl⟩) _ (most_mem.2 ⟨k, hk, rfl⟩)
      rw [(aOf_bd i k).1, (aOf_bd i k).2, ← e] at h3
      have h2 : (0 : Rat) < (aI i k : Rat) := Rat.intCast_lt_intCast.2 ha
      refine Rat.le_of_mul_le_mul_right (c := (aI i k : Rat)) ?_ h2
      grind
  · intro r hr
    rcases (mem_lo hf).1 hr with ⟨k, h1, h2, rfl⟩ | ⟨i, hi, k, hk, ha, e⟩
    · exact ((feas_iff.1 hF).2.2 k h1 (by rw [← h2]; rfl)).1
    · have h3 := hP _ (least_mem.2 ⟨i, hi, rfl⟩) _ (most_mem.2 ⟨k, hk, rfl⟩)
      rw [(aOf_bd i k).1, (aOf_bd i k).2, ← e] at h3
      have h2 : (aI i k : Rat) < 0 := Rat.intCast_lt_intCast.2 ha
      refine Rat.le_of_mul_le_mul_right (c := -(aI i k : Rat)) ?_ (by grind)
      grind
theorem height_bd {l : LogD} (hf : Fit l.at_ [l.edges]) {core x : Int} {h : Rat} (hh : h ∈ heightsL l core x) : (∀ r ∈ hiList l core x, h ≤ r) ∧ ∀ r ∈ loList l core x, r ≤ h := by
  obtain ⟨p, hp, rfl⟩ := List.mem_map.1 hh
  obtain ⟨m, hF⟩ := keep_feas hf (x := x) hp
  exact feas_bd hf hF
theorem end_mem {l : LogD} (hf : Fit l.at_ [l.edges]) {core x : Int} {h r : Rat} (hh : h ∈ heightsL l core x)
    (hu : ∀ r' ∈ hiList l core x, r ≤ r') (hl : ∀ r' ∈ loList l core x, r' ≤ r) (hr : r ∈ hiList l core x ∨ r ∈ loList l core x) : r ∈ heightsL l core x := by
  obtain ⟨p, hp, rfl⟩ := List.mem_map.1 hh
  obtain ⟨m, hF⟩ := keep_feas hf (x := x) hp
  have hP := feas_pairs hF
  have key : ∃ m, Feas l.at_.length (xR l) (LR l core) (UR l core) (x : Rat) r m ∧ ∃ i j, i < j ∧ j < l.at_.length ∧ Tight (xR l) (LR l core) (UR l core) (x : Rat) r m i ∧ Tight (xR l) (LR l core) (UR l core) (x : Rat) r m j := by
    refine corner_at hf.two (fun i j h1 h2 => Rat.intCast_lt_intCast.2 (strict_at hf h1 h2)) ?_ ?_ ?_
    · intro b hb c hc
      have h0 := hP b hb c hc
      obtain ⟨i, hi, rfl⟩ := least_mem.1 hb
      obtain ⟨k, hk, rfl⟩ := most_mem.1 hc
      rw [(aOf_bd i k).1, (aOf_bd i k).2] at *
      rcases Int.lt_trichotomy (aI i k) 0 with ha | ha | ha
      · have h1 := mkRat_mul (n := -bI i k) (d := -aI i k) (by omega)
        rw [Rat.intCast_neg, Rat.intCast_neg] at h1
        have h2 := hl _ ((mem_lo hf).2 (.inr ⟨i, hi, k, hk, ha, (by grind : mkRat (-bI i k) (-aI i k).toNat * (aI i k : Rat) = (bI i k : Rat))⟩))
        have h3 : (aI i k : Rat) < 0 := Rat.intCast_lt_intCast.2 ha
        have h4 := Rat.mul_le_mul_of_nonneg_right h2 (c := -(aI i k : Rat)) (by grind)
        grind
      · rw [ha] at h0 ⊢
        have : ((0 : Int) : Rat) = 0 := rfl
        rw [this] at *
        grind
      · have h1 := mkRat_mul (n := bI i k) ha
        have h2 := hu _ ((mem_hi hf).2 (.inr ⟨i, hi, k, hk, ha, h1⟩))
        have h3 : (0 : Rat) < (aI i k : Rat) := Rat.intCast_lt_intCast.2 ha
        have h4 := Rat.mul_le_mul_of_nonneg_right h2 (c := (aI i k : Rat)) (by grind)
        grind
    · intro i hi e
      have e' : atD l i = x := Rat.intCast_inj.1 e
      exact ⟨hl _ ((mem_lo hf).2 (.inl ⟨i, hi, e', rfl⟩)), hu _ ((mem_hi hf).2 (.inl ⟨i, hi, e', rfl⟩))⟩
    · rcases hr with hr | hr
      · rcases (mem_hi hf).1 hr with ⟨k, h1, h2, rfl⟩ | ⟨i, hi, k, hk, ha, e⟩
        · exact .inl ⟨k, h1, by rw [← h2]; rfl, .inr rfl⟩
        · refine .inr ⟨_, least_mem.2 ⟨i, hi, rfl⟩, _, most_mem.2 ⟨k, hk, rfl⟩, ?_, ?_⟩
          · rw [(aOf_bd i k).1]
            have h3 : (0 : Rat) < (aI i k : Rat) := Rat.intCast_lt_intCast.2 ha
            grind
          · rw [(aOf_bd i k).1, (aOf_bd i k).2]; grind
      · rcases (mem_lo hf).1 hr with ⟨k, h1, h2, rfl⟩ | ⟨i, hi, k, hk, ha, e⟩
        · exact .inl ⟨k, h1, by rw [← h2]; rfl, .inl rfl⟩
        · refine .inr ⟨_, least_mem.2 ⟨i, hi, rfl⟩, _, most_mem.2 ⟨k, hk, rfl⟩, ?_, ?_⟩
          · rw [(aOf_bd i k).1]
            have h3 : (aI i k : Rat) < 0 := Rat.intCast_lt_intCast.2 ha
            grind
          · rw [(aOf_bd i k).1, (aOf_bd i k).2]; grind
  obtain ⟨m', hF', i, j, hij, hj, ti, tj⟩ := key
  obtain ⟨q, hq, e⟩ := feas_keep hf hF' hij hj ti tj
  exact List.mem_map.2 ⟨q, hq, e⟩
theorem heights_eq {l : LogD} (hf : Fit l.at_ [l.edges]) {core x : Int} (hne : heightsL l core x ≠ []) :
    bestBy (fun a b => decide (a < b)) (heightsL l core x) = bestBy (fun a b => decide (b < a)) (loList l core x) ∧
    bestBy (fun a b => decide (b < a)) (heightsL l core x) = bestBy (fun a b => decide (a < b)) (hiList l core x) := by
  obtain ⟨n1, n2⟩ := lists_ne hf core x
  obtain ⟨a, ha⟩ := bestBy_some (fun a b => decide (a < b)) hne
  obtain ⟨b, hb⟩ := bestBy_some (fun a b => decide (b < a)) hne
  obtain ⟨c, hc⟩ := bestBy_some (fun a b => decide (b < a)) n2
  obtain ⟨d, hd⟩ := bestBy_some (fun a b => decide (a < b)) n1
  obtain ⟨a1, a2⟩ := best_least ha
  obtain ⟨b1, b2⟩ := best_most hb
  obtain ⟨c1, c2⟩ := best_most hc
  obtain ⟨d1, d2⟩ := best_least hd
  have hcm : c ∈ heightsL l core x := end_mem hf a1 (fun r' hr' => Rat.le_trans ((height_bd hf a1).2 c c1) ((height_bd hf a1).1 r' hr')) c2 (.inr c1)
  have hdm : d ∈ heightsL l core x := end_mem hf a1 d2 (fun r' hr' => Rat.le_trans ((height_bd hf a1).2 r' hr') ((height_bd hf a1).1 d d1)) (.inl d1)
  rw [ha, hb, hc, hd]
  exact ⟨congrArg some (Rat.le_antisymm (a2 c hcm) ((height_bd hf a1).2 c c1)), congrArg some (Rat.le_antisymm ((height_bd hf b1).1 d d1) (b2 d hdm))⟩
/-- No corner keeps a core just if it is greater than the best one. -/
theorem heights_none {l : LogD} (hf : Fit l.at_ [l.edges]) {core x : Int} : heightsL l core x = [] ↔ bestV l < (core : Rat) := by
  constructor
  · intro h
    rcases Rat.not_le.1 (fun hle : (core : Rat) ≤ bestV l => keepL_ne hf (fun p hp => Rat.le_trans hle ((isBest_of hf).2 p hp)) (List.map_eq_nil_iff.1 h)) with h
    exact h
  · intro h
    refine List.map_eq_nil_iff.2 ?_
    rcases hk : keepL l (core : Rat) with _ | ⟨p, ps⟩
    · rfl
    · exfalso
      have hp : p ∈ keepL l (core : Rat) := by rw [hk]; exact List.mem_cons_self
      obtain ⟨m, hF⟩ := keep_feas hf (x := 0) hp
      obtain ⟨⟨q, hq, e⟩, _⟩ := isBest_of hf
      have := keeps_le hf (c := (core : Rat)) (a := lineAt p.1 p.2 0) (s := m) (fun k hk => by
        have := hF k hk
        simp only [LR, UR, loC, hiC, Rat.intCast_add, Rat.intCast_sub] at this
        have c0 : ((0 : Int) : Rat) = 0 := rfl
        rw [c0] at this
        simp only [lowP, uppP]
        constructor <;> grind) q hq
      rw [e] at this
      exact absurd h (Rat.not_lt.2 this)
end Go.Proofs.YtlhldkiggmlegaaDoor

namespace Go.Proofs.YtlhldkiggmlegaaDoor
open Go.Geo

/-! ## The best core and the heights, said of all lines that keep a core -/
/-- The line with height a at 0 and step s keeps the core c. -/
def Keep (l : LogD) (c a s : Rat) : Prop := ∀ k, k < l.at_.length → (loD l k : Rat) + c ≤ a + s * (atD l k : Rat) ∧ a + s * (atD l k : Rat) ≤ (hiD l k : Rat) - c

theorem keep_corner {l : LogD} (hf : Fit l.at_ [l.edges]) {c : Rat} {p : Pt × Pt} (hp : p ∈ keepL l c) :
    Keep l c (lineAt p.1 p.2 0) (lineAt p.1 p.2 1 - lineAt p.1 p.2 0) ∧ ∀ x : Int, lineAt p.1 p.2 x = lineAt p.1 p.2 0 + (lineAt p.1 p.2 1 - lineAt p.1 p.2 0) * (x : Rat) := by
  obtain ⟨h1, h2⟩ := List.mem_filter.1 hp
  have hx : p.1.1 < p.2.1 := (isCorner_of_mem h1).lt hf
  refine ⟨fun k hk => ?_, fun x => lineAt_affine hx x⟩
  have h3 := keepsB_iff.1 h2 k hk
  rw [lineAt_affine hx (atD l k)] at h3
  simp only [lowP, uppP] at h3
  exact h3
theorem best_iff {l : LogD} (hf : Fit l.at_ [l.edges]) {c : Rat} : c ≤ bestV l ↔ ∃ a s, Keep l c a s := by
  constructor
  · intro h
    have hne := keepL_ne hf (fun p hp => Rat.le_trans h ((isBest_of hf).2 p hp))
    cases hk : keepL l c with
    | nil => exact absurd hk hne
    | cons p ps =>
      have := (keep_corner hf (c := c) (p := p) (by rw [hk]; exact List.mem_cons_self)).1
      exact ⟨_, _, this⟩
  · rintro ⟨a, s, h⟩
    obtain ⟨⟨q, hq, e⟩, _⟩ := isBest_of hf
    rw [← e]
    exact keeps_le hf (a := a) (s := s) (fun k hk => h k hk) q hq
theorem best_keep {l : LogD} (hf : Fit l.at_ [l.edges]) : ∃ a s, Keep l (bestV l) a s := (best_iff hf).1 Rat.le_refl
theorem best_mono {l l' : LogD} (hf : Fit l.at_ [l.edges]) (hf' : Fit l'.at_ [l'.edges]) (h : ∀ c a s, Keep l c a s → ∃ a' s', Keep l' c a' s') : bestV l ≤ bestV l' := by
  obtain ⟨a, s, hk⟩ := best_keep hf
  exact (best_iff hf').2 (h _ _ _ hk)
theorem best_same {l l' : LogD} (hf : Fit l.at_ [l.edges]) (hf' : Fit l'.at_ [l'.edges]) (h : ∀ c a s, Keep l c a s → ∃ a' s', Keep l' c a' s') (h' : ∀ c a s, Keep l' c a s → ∃ a' s', Keep l c a' s') : bestV l = bestV l' :=
  Rat.le_antisymm (best_mono hf hf' h) (best_mono hf' hf h')
theorem keep_feas' {l : LogD} {core x : Int} {a s : Rat} (h : Keep l (core : Rat) a s) : Feas l.at_.length (xR l) (LR l core) (UR l core) (x : Rat) (a + s * (x : Rat)) s := by
  intro k hk
  have := h k hk
  simp only [LR, UR, loC, hiC, xR, Rat.intCast_add, Rat.intCast_sub]
  constructor <;> grind
/-- The least height of a number is the least one of all lines that keep the core; the greatest one the greatest. -/
theorem height_least {l : LogD} (hf : Fit l.at_ [l.edges]) {core x : Int} (hne : heightsL l core x ≠ []) :
    (∃ a s, Keep l (core : Rat) a s ∧ a + s * (x : Rat) = heightsV (fun a b => decide (a < b)) l core x) ∧ ∀ a s, Keep l (core : Rat) a s → heightsV (fun a b => decide (a < b)) l core x ≤ a + s * (x : Rat) := by
  obtain ⟨y, hy⟩ := bestBy_some (fun a b => decide (a < b)) hne
  have e : heightsV (fun a b => decide (a < b)) l core x = y := by unfold heightsV; rw [hy]; rfl
  rw [e]
  obtain ⟨h1, h2⟩ := best_least hy
  constructor
  · obtain ⟨p, hp, rfl⟩ := List.mem_map.1 h1
    obtain ⟨g1, g2⟩ := keep_corner hf hp
    exact ⟨_, _, g1, (g2 x).symm⟩
  · intro a s hk
    have h3 := (heights_eq hf hne).1
    rw [hy] at h3
    exact (feas_bd hf (keep_feas' hk)).2 y (best_most h3.symm).1
theorem height_most {l : LogD} (hf : Fit l.at_ [l.edges]) {core x : Int} (hne : heightsL l core x ≠ []) :
    (∃ a s, Keep l (core : Rat) a s ∧ a + s * (x : Rat) = heightsV (fun a b => decide (b < a)) l core x) ∧ ∀ a s, Keep l (core : Rat) a s → a + s * (x : Rat) ≤ heightsV (fun a b => decide (b < a)) l core x := by
  obtain ⟨y, hy⟩ := bestBy_some (fun a b => decide (b < a)) hne
  have e : heightsV (fun a b => decide (b < a)) l core x = y := by unfold heightsV; rw [hy]; rfl
  rw [e]
  obtain ⟨h1, h2⟩ := best_most hy
  constructor
  · obtain ⟨p, hp, rfl⟩ := List.mem_map.1 h1
    obtain ⟨g1, g2⟩ := keep_corner hf hp
    exact ⟨_, _, g1, (g2 x).symm⟩
  · intro a s hk
    have h3 := (heights_eq hf hne).2
    rw [hy] at h3
    exact (feas_bd hf (keep_feas' hk)).1 y (best_least h3.symm).1
theorem height_ne {l : LogD} (hf : Fit l.at_ [l.edges]) {core x : Int} : heightsL l core x ≠ [] ↔ (core : Rat) ≤ bestV l := by
  rw [Ne, heights_none hf, Rat.not_lt]
end Go.Proofs.YtlhldkiggmlegaaDoor

namespace Go.Proofs.YtlhldkiggmlegaaDoor
open Go.RowKit

/-! ## The reference: the core of a line -/
def rlHt (l : LogD) (start step : Int) (k : Nat) : Int := start + step * atD l k
def rlAt (l : LogD) (den start step : Int) (k : Nat) : Int := min (rlHt l start step k - loD l k * den) (hiD l k * den - rlHt l start step k)
def rlUp (l : LogD) (den start step : Int) : Nat → Int
  | 0 => 0
  | k + 1 => if k = 0 ∨ rlAt l den start step k < rlUp l den start step k then rlAt l den start step k else rlUp l den start step k
theorem le_min_cast {r : Rat} {a b : Int} : r ≤ ((min a b : Int) : Rat) ↔ r ≤ (a : Rat) ∧ r ≤ (b : Rat) := by
  rcases Int.le_total a b with h | h
  · rw [Int.min_eq_left h]
    have := Rat.intCast_le_intCast.2 h
    exact ⟨fun h1 => ⟨h1, Rat.le_trans h1 this⟩, fun h1 => h1.1⟩
  · rw [Int.min_eq_right h]
    have := Rat.intCast_le_intCast.2 h
    exact ⟨fun h1 => ⟨Rat.le_trans h1 this, h1⟩, fun h1 => h1.2⟩
theorem minif (a b : Int) : (if b < a then b else a) = min a b := by split <;> omega
theorem rl_ite (l : LogD) (den start step : Int) (k : Nat) : (if hiD l k * den - (start + step * atD l k) < start + step * atD l k - loD l k * den then hiD l k * den - (start + step * atD l k) else start + step * atD l k - loD l k * den) = rlAt l den start step k := minif _ _
theorem rl_zero (l : LogD) (den start step : Int) : rlUp l den start step (0 + 1) = rlAt l den start step 0 := rfl
theorem rl_lt {l : LogD} {den start step : Int} {k : Nat} (h : rlAt l den start step k < rlUp l den start step k) : rlUp l den start step (k + 1) = rlAt l den start step k := if_pos (Or.inr h)
theorem rl_ge {l : LogD} {den start step : Int} {k : Nat} (hk : ¬ k = 0) (h : ¬ rlAt l den start step k < rlUp l den start step k) : rlUp l den start step (k + 1) = rlUp l den start step k := if_neg (by omega)
theorem rlUp_le (l : LogD) (den start step : Int) (r : Rat) : ∀ k : Nat, r ≤ (rlUp l den start step (k + 1) : Rat) ↔ ∀ i, i ≤ k → r ≤ (rlAt l den start step i : Rat)
  | 0 => by
    rw [rlUp, if_pos (Or.inl rfl)]
    exact ⟨fun h i hi => by obtain rfl : i = 0 := by omega
                            exact h, fun h => h 0 (Nat.le_refl _)⟩
  | k + 1 => by
    rw [rlUp]
    have ih := rlUp_le l den start step r k
    have split : (∀ i, i ≤ k + 1 → r ≤ (rlAt l den start step i : Rat)) ↔ (∀ i, i ≤ k → r ≤ (rlAt l den start step i : Rat)) ∧ r ≤ (rlAt l den start step (k + 1) : Rat) := by
      constructor
      · exact fun h => ⟨fun i hi => h i (by omega), h _ (Nat.le_refl _)⟩
      · rintro ⟨h1, h2⟩ i hi
        by_cases e : i = k + 1
        · rw [e]; exact h2
        · exact h1 i (by omega)
    rw [split, ← ih]
    by_cases hlt : rlAt l den start step (k + 1) < rlUp l den start step (k + 1)
    · rw [if_pos (Or.inr hlt)]
      have := Rat.intCast_lt_intCast.2 hlt
      exact ⟨fun h => ⟨Rat.le_trans h (Rat.le_of_lt this), h⟩, fun h => h.2⟩
    · rw [if_neg (by omega)]
      have := Rat.intCast_le_intCast.2 (Int.not_lt.1 hlt)
      exact ⟨fun h => ⟨h, Rat.le_trans h this⟩, fun h => h.1⟩
theorem strAt_mul {den start step x : Int} (h : 0 < den) : strAt den start step x * (den : Rat) = (start : Rat) + (step : Rat) * (x : Rat) := by
  rw [strAt_eq h]
  have : (den : Rat) ≠ 0 := by
    have : (0 : Rat) < (den : Rat) := Rat.intCast_lt_intCast.2 h
    grind
  have e1 : (start : Rat) / (den : Rat) * (den : Rat) = start := Rat.div_mul_cancel this
  have e2 : (step : Rat) / (den : Rat) * (den : Rat) = step := Rat.div_mul_cancel this
  grind
theorem rcore_eq {l : LogD} (hf : Fit l.at_ [l.edges]) {den start step : Int} (h : 0 < den) : mkRat (rlUp l den start step l.at_.length) den.toNat = coreOf l den start step := by
  have h2 := hf.two
  obtain ⟨n, hn⟩ : ∃ n, l.at_.length = n + 1 := ⟨l.at_.length - 1, by omega⟩
  have hd : (0 : Rat) < (den : Rat) := Rat.intCast_lt_intCast.2 h
  have e := mkRat_mul (n := rlUp l den start step (n + 1)) h
  rw [hn]
  refine Rat.le_antisymm ?_ ?_
  · have hall := (rlUp_le l den start step _ n).1 (Rat.le_refl)
    refine (core_iff hf).2 fun k hk => ?_
    have h1 := le_min_cast.1 (hall k (by omega))
    have h3 := strAt_mul (start := start) (step := step) (x := atD l k) h
    rw [← e] at h1
    simp only [rlHt, Rat.intCast_sub, Rat.intCast_mul, Rat.intCast_add] at h1
    rw [← h3] at h1
    simp only [lowP, uppP]
    constructor
    · refine Rat.le_of_mul_le_mul_right (c := (den : Rat)) ?_ hd
      grind
    · refine Rat.le_of_mul_le_mul_right (c := (den : Rat)) ?_ hd
      grind
  · refine Rat.le_of_mul_le_mul_right (c := (den : Rat)) ?_ hd
    rw [e]
    refine (rlUp_le l den start step _ n).2 fun k hk => ?_
    obtain ⟨g1, g2⟩ := (core_iff hf (den := den) (start := start) (step := step)).1 Rat.le_refl k (by omega)
    have h3 := strAt_mul (start := start) (step := step) (x := atD l k) h
    have p1 := Rat.mul_le_mul_of_nonneg_right g1 (c := (den : Rat)) (by grind)
    have p2 := Rat.mul_le_mul_of_nonneg_right g2 (c := (den : Rat)) (by grind)
    refine le_min_cast.2 ?_
    simp only [rlHt, Rat.intCast_sub, Rat.intCast_mul, Rat.intCast_add]
    simp only [lowP, uppP] at p1 p2
    rw [← h3]
    constructor <;> grind
theorem rl_bd {l : LogD} (hf : Fit l.at_ [l.edges]) {den start step : Int} (h : LineOk den start step) {k : Nat} (hk : k < l.at_.length) :
    (-6871947673600 ≤ step * atD l k ∧ step * atD l k ≤ 6871947673600) ∧ (-7000000000000 ≤ rlHt l start step k ∧ rlHt l start step k ≤ 7000000000000) ∧ (-100000000 ≤ loD l k * den ∧ loD l k * den ≤ 100000000) ∧ (-100000000 ≤ hiD l k * den ∧ hiD l k * den ≤ 100000000) := by
  have hlen := hf.lens _ (List.mem_singleton.2 rfl)
  have hk' : k < l.edges.length := by omega
  obtain ⟨y1, y2, y3⟩ := okEdges_get (hf.edges _ (List.mem_singleton.2 rfl)) k hk'
  obtain ⟨x1, x2⟩ := okInts_get hf.ats k hk
  rw [atD_eq hk] at x1 x2
  rw [loD_eq hk'] at y1
  rw [loD_eq hk', hiD_eq hk'] at y2
  rw [hiD_eq hk'] at y3
  obtain ⟨h1, h2, h3, h4, h5, h6⟩ := h
  have m1 := mul_bd step (atD l k) 68719476736 100 h5 h6 x1 x2 (by omega)
  have m2 := mul_bd (loD l k) den 1000 100000 (by omega) (by omega) (by omega) h2 (by omega)
  have m3 := mul_bd (hiD l k) den 1000 100000 (by omega) (by omega) (by omega) h2 (by omega)
  unfold rlHt
  omega
theorem rlUp_bd {l : LogD} (hf : Fit l.at_ [l.edges]) {den start step : Int} (h : LineOk den start step) : ∀ k, k ≤ l.at_.length → -8000000000000 ≤ rlUp l den start step k ∧ rlUp l den start step k ≤ 8000000000000
  | 0, _ => by simp [rlUp]
  | k + 1, hk => by
    have ih := rlUp_bd hf h k (by omega)
    obtain ⟨_, b1, b2, b3⟩ := rl_bd hf h (k := k) (by omega)
    rw [rlUp]
    split
    · unfold rlAt; omega
    · exact ih

set_option maxRecDepth 100000 in
set_option maxHeartbeats 2000000 in
theorem rCoreOf_any (v : Value) (l : LogD) (den start step : Int) (w : World) (hv : LogAt w v l) (hf : Fit l.at_ [l.edges]) (hl : LineOk den start step) :
    Calls Tryd.prog 50 #[v, .agg #[.int .i64 den, .int .i64 start, .int .i64 step]] w fun e w' => e = .returned (qv (coreOf l den start step)) ∧ Below w.heap.size w w' := by
  rw [← rcore_eq hf (by have := hl.d1; omega)]
  obtain ⟨va, ve, rfl, hA, hE⟩ := hv
  obtain ⟨a, cap, rfl, hcell0⟩ := hA
  obtain ⟨a', cap', rfl, hcell1⟩ := hE
  have h2 := hf.two
  have h8 := hf.eight
  have hlen := hf.lens _ (List.mem_singleton.2 rfl)
  obtain ⟨ba, oa, rfl, hcell⟩ := hcell0 (by intro h; rw [h] at h2; simp at h2)
  obtain ⟨be, oe, rfl, hcelle⟩ := hcell1 (by intro h; rw [h] at hlen; simp at hlen; omega)
  have HCA := Lib.hid hcell
  have HCE := Lib.hid hcelle
  have HLEN := Lib.hid hlen
  clear hcell hcelle hcell0 hcell1 hlen
  have d1 := hl.d1
  have d2 := hl.d2
  have a1 := hl.s1
  have a2 := hl.s2
  have s1 := hl.t1
  have s2 := hl.t2
  obtain ⟨w1, hw1⟩ : ∃ w1, ((w.alloc (.cells #[.slice (some ⟨ba, oa, none⟩) l.at_.length cap, .slice (some ⟨be, oe, none⟩) l.edges.length cap'] 25)).alloc (.cells #[.int .i64 den, .int .i64 start, .int .i64 step] 27)).alloc (.cells #[.int .i64 0, .int .i64 0] 31) = w1 := ⟨_, rfl⟩
  have bl : Blk w1 w.heap.size (.cells #[.slice (some ⟨ba, oa, none⟩) l.at_.length cap, .slice (some ⟨be, oe, none⟩) l.edges.length cap'] 25) := by rw [← hw1]; exact ((Blk.new w _).alloc _).alloc _
  have bx : Blk w1 (w.heap.size + 1) (.cells #[.int .i64 den, .int .i64 start, .int .i64 step] 27) := by rw [← hw1]; exact (by simpa using Blk.new (w.alloc _) _ : Blk _ (w.heap.size + 1) _).alloc _
  have br : Blk w1 (w.heap.size + 1 + 1) (.cells #[.int .i64 0, .int .i64 0] 31) := by rw [← hw1]; simpa using Blk.new ((w.alloc _).alloc _) (.cells #[.int .i64 0, .int .i64 0] 31)
  have hB1 : Below w.heap.size w w1 := by rw [← hw1]; exact below3 _ _ _ _
  have HB1 := Lib.hid hB1
  have HBL := Lib.hid bl
  have HBX := Lib.hid bx
  have HBR := Lib.hid br
  clear bl bx br hB1
  go_enter Tryd.func50, Tryd.ntmps50
  go_wp2
  clear hw1
  go_loopw [5, 6] (fun u i wr => ∃ k : Nat, k ≤ l.at_.length ∧ i = .int .i64 k ∧ u = .int .i64 (rlUp l den start step k) ∧ Below w1.heap.size w1 wr) (fun _ i _ => l.at_.length - (intOf i).toNat)
  case atStart => exact ⟨0, Nat.zero_le _, rfl, rfl, Below.refl _ _⟩
  case round =>
    rename_i wr
    obtain ⟨k, hk, rfl, rfl, hB⟩ := hrel
    have l0 := (HBL.out.below hB).cell 0
    have l1 := (HBL.out.below hB).cell 1
    have x0 := (HBX.out.below hB).cell 0
    have x1 := (HBX.out.below hB).cell 1
    have x2 := (HBX.out.below hB).cell 2
    simp at l0 l1 x0 x1 x2
    have hsz := hB.size
    have bd := rlUp_bd hf hl k hk
    by_cases hlt : k < l.at_.length
    · have c1 := cellB (cellB (HCA.out k hlt) HB1.out) hB
      have hlt' : k < l.edges.length := by have := HLEN.out; omega
      have c2 := cellB (cellB (HCE.out k hlt').1 HB1.out) hB
      have c3 := cellB (cellB (HCE.out k hlt').2 HB1.out) hB
      obtain ⟨b1, b2, b3, b4⟩ := rl_bd hf hl hlt
      rw [atD_eq hlt] at c1
      rw [loD_eq hlt'] at c2
      rw [hiD_eq hlt'] at c3
      have HHT := Lib.hid (show rlHt l start step k = start + step * atD l k from rfl)
      have HAT := Lib.hid (show rlAt l den start step k = min (rlHt l start step k - loD l k * den) (hiD l k * den - rlHt l start step k) from rfl)
      have bA : -8000000000000 ≤ rlAt l den start step k ∧ rlAt l den start step k ≤ 8000000000000 := by rw [HAT.out]; omega
      have HUP := Lib.hid (show rlUp l den start step (k + 1) = if k = 0 ∨ rlAt l den start step k < rlUp l den start step k then rlAt l den start step k else rlUp l den start step k from rfl)
      have hb2 := b2
      rw [HHT.out] at hb2
      have wr1 : IntKind.i64.wrap (step * atD l k) = step * atD l k := IntWalk.i64_in _ (by omega)
      have wr2 : IntKind.i64.wrap (start + step * atD l k) = start + step * atD l k := IntWalk.i64_in _ (by omega)
      have wr3 : IntKind.i64.wrap (loD l k * den) = loD l k * den := IntWalk.i64_in _ (by omega)
      have wr4 : IntKind.i64.wrap (hiD l k * den) = hiD l k * den := IntWalk.i64_in _ (by omega)
      have wr5 : IntKind.i64.wrap (start + step * atD l k - loD l k * den) = start + step * atD l k - loD l k * den := IntWalk.i64_in _ (by omega)
      have wr6 : IntKind.i64.wrap (hiD l k * den - (start + step * atD l k)) = hiD l k * den - (start + step * atD l k) := IntWalk.i64_in _ (by omega)
      clear hl hf
      go_wp2_with fail
      go_quiet (fail)
      go_wp2_with fail
      go_quiet (fail)
      go_wp2
      all_goals
        refine ⟨⟨k + 1, by omega, by go_num, ?_, below_drewN hB _⟩, by simp [intOf]; omega⟩
        refine congrArg (Value.int IntKind.i64) ?_
        clear wr1 wr2 wr3 wr4 wr5 wr6 b1 b2 b3 b4 hb2 bA bd c1 c2 c3 HUP HAT HHT
        simp only [rl_ite] at *
        first
          | (have h0 : k = 0 := by assumption
             subst h0
             exact (rl_zero _ _ _ _).symm)
          | (rename_i hx
             have hx2 := hx.resolve_left (by simp; omega)
             exact (rl_lt (l := l) (den := den) (start := start) (step := step) (by omega)).symm)
          | (rename_i hx
             have hx2 := hx.2
             exact (rl_ge (l := l) (den := den) (start := start) (step := step) (by omega) (by omega)).symm)
    · obtain rfl : k = l.at_.length := by omega
      have hd1 : 0 < den := by omega
      have hd2 : den ≤ 4611686018427387904 := by omega
      have HRBY := Lib.hid (fun W => rby_any (rlUp l den start step l.at_.length) den W (by omega) (by omega) hd1 hd2)
      clear hd1 hd2
      go_wp2_with fail
      refine (HRBY.out _).mono ?_
      rintro e w2 ⟨rfl, hb2⟩
      have R := ((HBR.out.below hB).below hb2)
      have HB2 := Lib.hid ((HB1.out.trans (hB.mono HB1.out.size)).trans (hb2.mono (Nat.le_trans HB1.out.size hsz)))
      have f0 := R.frozen 0
      have f1 := R.frozen 1
      have u0 := R.cell 0
      have u1 := R.cell 1
      have ltr := R.lt
      simp at u0 u1
      have U := ((R.set (j := 0) (.int .i64 (mkRat (rlUp l den start step l.at_.length) den.toNat).num)).set (j := 1) (.int .i64 ((mkRat (rlUp l den start step l.at_.length) den.toNat).den : Int)))
      have v0 := U.cell 0
      have v1 := U.cell 1
      simp at v0 v1
      unfold qv
      go_wp2
      refine bodyPost_ret (v := qv (mkRat (rlUp l den start step l.at_.length) den.toNat)) (by simp [results, Tryd.results50, go_sem, v0, v1, qv]) rfl ⟨rfl, ?_⟩
      exact (HB2.out.setCell (by simp; omega) _).setCell (by simp; omega) _
end Go.Proofs.YtlhldkiggmlegaaDoor
