import Derived.Test.YtlhldkiggmlegaaDoorNr
namespace Go.Proofs.YtlhldkiggmlegaaDoor
open Go.Geo

/-! ## The reference's Heights: the pairs of bounds in their order -/
def bAt (ls : List B3) (i : Nat) : B3 := ls.getD i (0, 0, 0)
def cA (p : Option Rat) (f : B3 → B3 → List Rat) (ls ms : List B3) (i : Nat) : List Rat := p.toList ++ candL f (ls.take i) ms
def cK (p : Option Rat) (f : B3 → B3 → List Rat) (ls ms : List B3) (i k : Nat) : List Rat := cA p f ls ms i ++ (ms.take k).flatMap (fun m => f (bAt ls i) m)
theorem cA_zero (p : Option Rat) (f : B3 → B3 → List Rat) (ls ms : List B3) : cA p f ls ms 0 = p.toList := by simp [cA, candL]
theorem cA_end (p : Option Rat) (f : B3 → B3 → List Rat) (ls ms : List B3) : cA p f ls ms ls.length = p.toList ++ candL f ls ms := by simp [cA]
theorem cK_zero (p : Option Rat) (f : B3 → B3 → List Rat) (ls ms : List B3) (i : Nat) : cK p f ls ms i 0 = cA p f ls ms i := by simp [cK]
theorem bAt_get {ls : List B3} {i : Nat} (h : i < ls.length) : bAt ls i = ls[i] := by simp [bAt, h]
theorem cK_succ (p : Option Rat) (f : B3 → B3 → List Rat) (ls ms : List B3) (i : Nat) {k : Nat} (h : k < ms.length) : cK p f ls ms i (k + 1) = cK p f ls ms i k ++ f (bAt ls i) (bAt ms k) := by
  unfold cK
  rw [List.take_add_one, List.flatMap_append, bAt_get h, List.append_assoc]
  simp [List.getElem?_eq_getElem h]
theorem cK_end (p : Option Rat) (f : B3 → B3 → List Rat) (ls ms : List B3) {i : Nat} (h : i < ls.length) : cK p f ls ms i ms.length = cA p f ls ms (i + 1) := by
  unfold cK cA candL
  rw [List.take_add_one, List.flatMap_append, bAt_get h, List.append_assoc]
  simp [List.getElem?_eq_getElem h]
theorem bestBy_opt (better : Rat → Rat → Bool) (p : Option Rat) : bestBy better p.toList = p := by
  cases p <;> simp [bestBy]
structure BOk (b : B3) : Prop where
  d1 : 1 ≤ b.1
  d2 : b.1 ≤ 100
  s1 : -3000 ≤ b.2.1
  s2 : b.2.1 ≤ 3000
  t : b.2.2 = 1 ∨ b.2.2 = -1
theorem least_ok {l : LogD} (hf : Fit l.at_ [l.edges]) {core x : Int} (hc : -2000 ≤ core ∧ core ≤ 2000) (hx : 0 ≤ x ∧ x ≤ 100) {n : Nat} (hn : n ≤ l.at_.length) : (∀ b ∈ leastB l core x n, BOk b) ∧ ∀ b ∈ mostB l core x n, BOk b := by
  have h2 := hf.lens _ (List.mem_singleton.2 rfl)
  have pt : ∀ k, k < l.at_.length → (0 ≤ atD l k ∧ atD l k ≤ 100) ∧ -1000 ≤ loD l k ∧ loD l k ≤ hiD l k ∧ hiD l k ≤ 1000 := fun k hk => by
    have hk' : k < l.edges.length := by omega
    obtain ⟨y1, y2, y3⟩ := okEdges_get (hf.edges _ (List.mem_singleton.2 rfl)) k hk'
    rw [loD_eq hk'] at y1 y2
    rw [hiD_eq hk'] at y2 y3
    exact ⟨at_bd hf hk, y1, y2, y3⟩
  constructor
  · intro b hb
    obtain ⟨k, hk, hb⟩ := List.mem_flatMap.1 hb
    have := pt k (by have := List.mem_range.1 hk; omega)
    unfold leastAt at hb
    by_cases h1 : x < atD l k
    · rw [if_pos h1] at hb
      obtain rfl := List.mem_singleton.1 hb
      exact ⟨by simp only; omega, by simp only; omega, by simp only [loC]; omega, by simp only [loC]; omega, .inr rfl⟩
    · rw [if_neg h1] at hb
      by_cases h2 : atD l k < x
      · rw [if_pos h2] at hb
        obtain rfl := List.mem_singleton.1 hb
        exact ⟨by simp only; omega, by simp only; omega, by simp only [hiC]; omega, by simp only [hiC]; omega, .inl rfl⟩
      · rw [if_neg h2] at hb; cases hb
  · intro b hb
    obtain ⟨k, hk, hb⟩ := List.mem_flatMap.1 hb
    have := pt k (by have := List.mem_range.1 hk; omega)
    unfold mostAt at hb
    by_cases h1 : x < atD l k
    · rw [if_pos h1] at hb
      obtain rfl := List.mem_singleton.1 hb
      exact ⟨by simp only; omega, by simp only; omega, by simp only [hiC]; omega, by simp only [hiC]; omega, .inr rfl⟩
    · rw [if_neg h1] at hb
      by_cases h2 : atD l k < x
      · rw [if_pos h2] at hb
        obtain rfl := List.mem_singleton.1 hb
        exact ⟨by simp only; omega, by simp only; omega, by simp only [loC]; omega, by simp only [loC]; omega, .inl rfl⟩
      · rw [if_neg h2] at hb; cases hb
theorem len_least (l : LogD) (core x : Int) (n : Nat) : (leastB l core x n).length = (mostB l core x n).length ∧ (leastB l core x n).length ≤ n := by
  induction n with
  | zero => simp [leastB, mostB]
  | succ n ih =>
    unfold leastB mostB at ih ⊢
    rw [List.range_succ, List.flatMap_append, List.flatMap_append, List.length_append, List.length_append]
    have : ((([n] : List Nat).flatMap (leastAt l core x)).length = (([n] : List Nat).flatMap (mostAt l core x)).length) ∧ (([n] : List Nat).flatMap (leastAt l core x)).length ≤ 1 := by
      simp only [List.flatMap_cons, List.flatMap_nil, List.append_nil]
      unfold leastAt mostAt
      by_cases h1 : x < atD l n
      · simp [h1]
      · by_cases h2 : atD l n < x
        · simp [h1, h2]
        · simp [h1, h2]
    omega
theorem least_snoc (l : LogD) (core x : Int) (n : Nat) : leastB l core x (n + 1) = leastB l core x n ++ leastAt l core x n ∧ mostB l core x (n + 1) = mostB l core x n ++ mostAt l core x n := by
  unfold leastB mostB
  rw [List.range_succ, List.flatMap_append, List.flatMap_append]
  simp
theorem aI_bd {i k : B3} (hi : BOk i) (hk : BOk k) : -200 ≤ aI i k ∧ aI i k ≤ 200 ∧ -600000 ≤ bI i k ∧ bI i k ≤ 600000 := by
  have p1 := mul_bd k.2.1 i.1 3000 100 hk.s1 hk.s2 (by have := hi.d1; omega) hi.d2 (by omega)
  have p2 := mul_bd i.2.1 k.1 3000 100 hi.s1 hi.s2 (by have := hk.d1; omega) hk.d2 (by omega)
  have q1 := hi.d1
  have q2 := hi.d2
  have q3 := hk.d1
  have q4 := hk.d2
  unfold aI bI
  rcases hi.t with t | t <;> rcases hk.t with t' | t' <;> rw [t, t'] <;> refine ⟨?_, ?_, ?_, ?_⟩ <;> omega
end Go.Proofs.YtlhldkiggmlegaaDoor
