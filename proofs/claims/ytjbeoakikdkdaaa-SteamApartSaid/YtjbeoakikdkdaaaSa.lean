import Derived.Lib.Hide
/-! The mathematics of layer 3: logs that may be steamed from an hour to another one; what windows need; how many loads of the hours before each one there are at least. No marks: plain mathematics. -/
namespace Go.Vat

structure YardD where
  load : Int
  logs : List (Int × Int)
structure YardD.Ok (y : YardD) : Prop where
  l1 : 1 ≤ y.load
  l2 : y.load ≤ 10
  count : y.logs.length ≤ 10
  log : ∀ l ∈ y.logs, 0 ≤ l.1 ∧ l.1 ≤ l.2 ∧ l.2 ≤ 100

/-! ## Rounded up -/
def up (n m : Int) : Int := (n + m - 1) / m
theorem up_le_iff {n m k : Int} (hm : 1 ≤ m) : up n m ≤ k ↔ n ≤ k * m := by
  unfold up
  rw [show (n + m - 1) / m ≤ k ↔ (n + m - 1) / m < k + 1 by omega, Int.ediv_lt_iff_lt_mul (by omega), Int.add_mul]
  omega
theorem up_zero {m : Int} (hm : 1 ≤ m) : up 0 m = 0 := by
  unfold up
  rw [Int.ediv_eq_zero_of_lt (by omega) (by omega)]
theorem le_up_mul {n m : Int} (hm : 1 ≤ m) : n ≤ up n m * m := (up_le_iff hm).1 (Int.le_refl _)
theorem up_mono {a b m : Int} (hm : 1 ≤ m) (h : a ≤ b) : up a m ≤ up b m := (up_le_iff hm).2 (Int.le_trans h (le_up_mul hm))
theorem up_add {a b m : Int} (hm : 1 ≤ m) : up (a + b) m ≤ up a m + up b m := by
  rw [up_le_iff hm, Int.add_mul]
  have h1 := le_up_mul (n := a) hm
  have h2 := le_up_mul (n := b) hm
  omega
theorem up_nonneg {n m : Int} (hm : 1 ≤ m) (h : 0 ≤ n) : 0 ≤ up n m := by
  have := up_mono hm h
  rwa [up_zero hm] at this
theorem up_pos {n m : Int} (hm : 1 ≤ m) (h : 1 ≤ n) : 1 ≤ up n m := by
  have h0 := up_nonneg hm (show 0 ≤ n by omega)
  rcases (by omega : up n m < 1 ∨ 1 ≤ up n m) with h1 | h1
  · have h2 := le_up_mul (n := n) hm
    rw [show up n m = 0 by omega] at h2
    omega
  · exact h1
theorem up_le_self {n m : Int} (hm : 1 ≤ m) (h : 0 ≤ n) : up n m ≤ n := by
  rw [up_le_iff hm]
  have := Int.mul_le_mul_of_nonneg_left hm h
  omega
theorem up_anti {n m m' : Int} (hm : 1 ≤ m) (hmm : m ≤ m') (h : 0 ≤ n) : up n m' ≤ up n m := by
  rw [up_le_iff (by omega)]
  exact Int.le_trans (le_up_mul hm) (Int.mul_le_mul_of_nonneg_left hmm (up_nonneg hm h))
theorem up_one (n : Int) : up n 1 = n := by unfold up; omega
theorem up_succ {n m : Int} (hm : 1 ≤ m) : up (n + 1) m ≤ up n m + 1 := by
  have h1 := up_add (a := n) (b := 1) hm
  have h2 := up_le_self (n := 1) hm (by omega)
  omega

/-! ## The greatest of some numbers -/
def mxL {α : Type} (f : α → Int) (xs : List α) (lo : Int) : Int := xs.foldl (fun m x => max m (f x)) lo
theorem mxL_snoc {α : Type} (f : α → Int) (xs : List α) (lo : Int) (x : α) : mxL f (xs ++ [x]) lo = max (mxL f xs lo) (f x) := by simp [mxL]
theorem mxL_nil {α : Type} (f : α → Int) (lo : Int) : mxL f [] lo = lo := rfl
theorem mxL_cons {α : Type} (f : α → Int) (x : α) (xs : List α) (lo : Int) : mxL f (x :: xs) lo = mxL f xs (max lo (f x)) := rfl
theorem mxL_lo {α : Type} (f : α → Int) : ∀ (xs : List α) (lo : Int), lo ≤ mxL f xs lo
  | [], _ => Int.le_refl _
  | x :: xs, lo => by
    have := mxL_lo f xs (max lo (f x))
    rw [mxL_cons]
    omega
theorem mxL_ge {α : Type} (f : α → Int) : ∀ (xs : List α) (lo : Int) (x : α), x ∈ xs → f x ≤ mxL f xs lo
  | y :: xs, lo, x, h => by
    rw [mxL_cons]
    rcases List.mem_cons.1 h with rfl | h
    · have := mxL_lo f xs (max lo (f x))
      omega
    · exact mxL_ge f xs _ x h
theorem mxL_cases {α : Type} (f : α → Int) : ∀ (xs : List α) (lo : Int), mxL f xs lo = lo ∨ ∃ x ∈ xs, mxL f xs lo = f x
  | [], _ => .inl rfl
  | y :: xs, lo => by
    rw [mxL_cons]
    rcases mxL_cases f xs (max lo (f y)) with h | ⟨x, hx, h⟩
    · rw [h]
      rcases Int.le_total lo (f y) with hl | hl
      · exact .inr ⟨y, List.mem_cons_self, by omega⟩
      · exact .inl (by omega)
    · exact .inr ⟨x, List.mem_cons_of_mem _ hx, h⟩
theorem mxL_congr {α : Type} {f g : α → Int} : ∀ {xs : List α} (lo : Int), (∀ x ∈ xs, f x = g x) → mxL f xs lo = mxL g xs lo
  | [], _, _ => rfl
  | y :: xs, lo, h => by
    rw [mxL_cons, mxL_cons, h y List.mem_cons_self]
    exact mxL_congr _ fun x hx => h x (List.mem_cons_of_mem _ hx)

/-! ## What windows need -/
def inW (a b : Int) (l : Int × Int) : Bool := decide (a ≤ l.1) && decide (l.2 ≤ b)
theorem inW_iff {a b : Int} {l : Int × Int} : inW a b l = true ↔ a ≤ l.1 ∧ l.2 ≤ b := by simp [inW]
def cnt (y : YardD) (a b : Int) : Int := (y.logs.countP (inW a b) : Int)
def need (y : YardD) (a b : Int) : Int := up (cnt y a b) y.load
theorem cnt_nonneg (y : YardD) (a b : Int) : 0 ≤ cnt y a b := Int.natCast_nonneg _
theorem need_nonneg {y : YardD} (h : 1 ≤ y.load) (a b : Int) : 0 ≤ need y a b := up_nonneg h (cnt_nonneg _ _ _)
theorem cnt_le {y : YardD} {a b a' b' : Int} (h : ∀ l ∈ y.logs, a ≤ l.1 → l.2 ≤ b → a' ≤ l.1 ∧ l.2 ≤ b') : cnt y a b ≤ cnt y a' b' := by
  unfold cnt
  have : y.logs.countP (inW a b) ≤ y.logs.countP (inW a' b') := List.countP_mono_left fun l hl h1 => by
    rw [inW_iff] at h1 ⊢
    exact h l hl h1.1 h1.2
  omega
theorem need_le {y : YardD} (h0 : 1 ≤ y.load) {a b a' b' : Int} (h : ∀ l ∈ y.logs, a ≤ l.1 → l.2 ≤ b → a' ≤ l.1 ∧ l.2 ≤ b') : need y a b ≤ need y a' b' := up_mono h0 (cnt_le h)
theorem cnt_len (y : YardD) (a b : Int) : cnt y a b ≤ y.logs.length := by
  unfold cnt
  have := List.countP_le_length (p := inW a b) (l := y.logs)
  omega
/-- The windows that end at an hour, if the range of a log does, and begin where that of a log does. -/
def wins (y : YardD) (h : Int) : List (Int × Int) := if y.logs.any (fun l => decide (l.2 = h)) = true then (y.logs.filter fun l => decide (l.1 ≤ h)).map fun l => (l.1, h) else []
theorem wins_iff {y : YardD} {h : Int} {w : Int × Int} : w ∈ wins y h ↔ (∃ l ∈ y.logs, l.2 = h) ∧ w.2 = h ∧ ∃ l ∈ y.logs, l.1 ≤ h ∧ w.1 = l.1 := by
  unfold wins
  split
  · rename_i c
    simp only [List.any_eq_true, decide_eq_true_eq] at c
    constructor
    · intro hw
      obtain ⟨l, hl, rfl⟩ := List.mem_map.1 hw
      rw [List.mem_filter] at hl
      exact ⟨c, rfl, l, hl.1, by simpa using hl.2, rfl⟩
    · rintro ⟨_, h2, l, hl, h3, h4⟩
      refine List.mem_map.2 ⟨l, List.mem_filter.2 ⟨hl, by simpa using h3⟩, ?_⟩
      rw [← h4, ← h2]
  · rename_i c
    simp only [List.any_eq_true, decide_eq_true_eq] at c
    constructor
    · intro h; cases h
    · rintro ⟨h1, _⟩; exact absurd h1 c

/-! ## How many loads there are at least before each hour -/
def stepU (y : YardD) (f : Nat → Int) (h : Nat) : Int := mxL (fun w => f w.1.toNat + need y w.1 w.2) (wins y h) (f h)
def tabU (y : YardD) : Nat → Nat → Int
  | 0, _ => 0
  | k + 1, h => if h = k + 1 then stepU y (tabU y k) k else tabU y k h
def U (y : YardD) (h : Nat) : Int := tabU y h h
theorem tabU_eq (y : YardD) : ∀ (k h : Nat), h ≤ k → tabU y k h = U y h
  | 0, h, hk => by obtain rfl : h = 0 := by omega
                   rfl
  | k + 1, h, hk => by
    by_cases e : h = k + 1
    · subst e; rfl
    · rw [tabU, if_neg e]
      exact tabU_eq y k h (by omega)
theorem U_zero (y : YardD) : U y 0 = 0 := rfl
theorem U_succ (y : YardD) (h : Nat) : U y (h + 1) = mxL (fun w => U y w.1.toNat + need y w.1 w.2) (wins y h) (U y h) := by
  show tabU y (h + 1) (h + 1) = _
  rw [tabU, if_pos rfl]
  unfold stepU
  rw [tabU_eq y h h (Nat.le_refl _)]
  refine mxL_congr _ fun w hw => ?_
  obtain ⟨_, _, l, _, h1, h2⟩ := wins_iff.1 hw
  rw [tabU_eq y h _ (by omega)]
theorem U_step (y : YardD) (h : Nat) : U y h ≤ U y (h + 1) := by
  rw [U_succ]
  exact mxL_lo _ _ _
theorem U_mono (y : YardD) {a b : Nat} (h : a ≤ b) : U y a ≤ U y b := by
  induction b with
  | zero => obtain rfl : a = 0 := by omega
            exact Int.le_refl _
  | succ b ih =>
    by_cases e : a = b + 1
    · subst e; exact Int.le_refl _
    · exact Int.le_trans (ih (by omega)) (U_step y b)
theorem U_nonneg (y : YardD) (h : Nat) : 0 ≤ U y h := U_mono y (Nat.zero_le h)
theorem U_win {y : YardD} {h : Nat} {w : Int × Int} (hw : w ∈ wins y h) : U y w.1.toNat + need y w.1 w.2 ≤ U y (h + 1) := by
  rw [U_succ]
  exact mxL_ge (fun w : Int × Int => U y w.1.toNat + need y w.1 w.2) _ _ _ hw
theorem U_cases (y : YardD) (h : Nat) : U y (h + 1) = U y h ∨ ∃ w ∈ wins y h, U y (h + 1) = U y w.1.toNat + need y w.1 w.2 := by
  rw [U_succ]
  exact mxL_cases (fun w : Int × Int => U y w.1.toNat + need y w.1 w.2) _ _
/-- The least and the greatest of a list that is not empty. -/
theorem exists_least {α : Type} (f : α → Int) : ∀ (l : List α), l ≠ [] → ∃ x ∈ l, ∀ z ∈ l, f x ≤ f z
  | [x], _ => ⟨x, List.mem_cons_self, fun z hz => by rw [List.mem_singleton.1 hz]; exact Int.le_refl _⟩
  | x :: y :: l, _ => by
    obtain ⟨m, hm, h⟩ := exists_least f (y :: l) (by simp)
    rcases Int.le_total (f x) (f m) with hx | hx
    · exact ⟨x, List.mem_cons_self, fun z hz => by
        rcases List.mem_cons.1 hz with rfl | hz
        · exact Int.le_refl _
        · exact Int.le_trans hx (h z hz)⟩
    · exact ⟨m, List.mem_cons_of_mem _ hm, fun z hz => by
        rcases List.mem_cons.1 hz with rfl | hz
        · exact hx
        · exact h z hz⟩
/-- Each window needs its loads behind those before it. -/
theorem U_need {y : YardD} (hy : y.Ok) {a b : Int} (h0 : 0 ≤ a) (hab : a ≤ b + 1) : U y a.toNat + need y a b ≤ U y (b + 1).toNat := by
  by_cases hc : y.logs.filter (inW a b) = []
  · have : need y a b = 0 := by
      have e : cnt y a b = 0 := by
        unfold cnt
        rw [List.countP_eq_length_filter, hc]
        rfl
      unfold need
      rw [e, up_zero hy.l1]
    rw [this, Int.add_zero]
    exact U_mono y (by omega)
  · obtain ⟨l1, m1, h1⟩ := exists_least (fun l : Int × Int => l.1) _ hc
    obtain ⟨l2, m2, h2⟩ := exists_least (fun l : Int × Int => - l.2) _ hc
    rw [List.mem_filter, inW_iff] at m1 m2
    obtain ⟨m1, i1, j1⟩ := m1
    obtain ⟨m2, i2, j2⟩ := m2
    have k1 := hy.log l1 m1
    have k2 := hy.log l2 m2
    have hq : ∀ l ∈ y.logs, a ≤ l.1 → l.2 ≤ b → l1.1 ≤ l.1 ∧ l.2 ≤ l2.2 := fun l hl x1 x2 => by
      have hf : l ∈ y.logs.filter (inW a b) := List.mem_filter.2 ⟨hl, inW_iff.2 ⟨x1, x2⟩⟩
      have := h1 l hf
      have := h2 l hf
      omega
    have hn := need_le hy.l1 (a := a) (b := b) (a' := l1.1) (b' := l2.2) hq
    have hin : l1 ∈ y.logs.filter (inW a b) := List.mem_filter.2 ⟨m1, inW_iff.2 ⟨i1, j1⟩⟩
    have e2 := h2 l1 hin
    have hw : (l1.1, l2.2) ∈ wins y ((l2.2.toNat : Nat) : Int) := wins_iff.2 ⟨⟨l2, m2, by omega⟩, by show l2.2 = _; omega, l1, m1, by omega, rfl⟩
    have hu := U_win hw
    have m3 := U_mono y (a := a.toNat) (b := l1.1.toNat) (by omega)
    have m4 := U_mono y (a := l2.2.toNat + 1) (b := (b + 1).toNat) (by omega)
    simp only at hu
    omega
/-- The least function for which windows get what they need. -/
theorem U_least {y : YardD} (f : Nat → Int) (h0 : 0 ≤ f 0) (hm : ∀ h, f h ≤ f (h + 1)) (hf : ∀ h : Nat, ∀ w ∈ wins y h, f w.1.toNat + need y w.1 w.2 ≤ f (h + 1)) (h : Nat) : U y h ≤ f h := by
  induction h using Nat.strongRecOn with
  | _ h ih =>
    cases h with
    | zero => exact h0
    | succ h =>
      rcases U_cases y h with e | ⟨w, hw, e⟩
      · have := ih h (by omega)
        have := hm h
        omega
      · obtain ⟨_, _, l, _, h1, h2⟩ := wins_iff.1 hw
        have := ih w.1.toNat (by omega)
        have := hf h w hw
        omega
/-- A yard whose windows need no more has no more loads. -/
theorem U_le {y z : YardD} (hy : y.Ok) (hz : z.Ok) (hn : ∀ a b : Int, need y a b ≤ need z a b) (h : Nat) : U y h ≤ U z h := by
  refine U_least (U z) (U_nonneg z 0) (U_step z) (fun h w hw => ?_) h
  obtain ⟨_, h2, l, hl, h3, h4⟩ := wins_iff.1 hw
  have hlo := (hy.log l hl).1
  have := U_need hz (a := w.1) (b := w.2) (by omega) (by omega)
  have := hn w.1 w.2
  rw [show (w.2 + 1).toNat = h + 1 by omega] at *
  omega
theorem U_eq {y z : YardD} (hy : y.Ok) (hz : z.Ok) (hn : ∀ a b : Int, need y a b = need z a b) (h : Nat) : U y h = U z h :=
  Int.le_antisymm (U_le hy hz (fun a b => Int.le_of_eq (hn a b)) h) (U_le hz hy (fun a b => Int.le_of_eq (hn a b).symm) h)
end Go.Vat

/-! The mathematics of layer 3: right hours have no fewer loads; hours with as few; hours that are counted back. No marks besides the import's. -/
namespace Go.Vat

/-! ## Right hours -/
def fit : List Int → List (Int × Int) → Prop
  | [], [] => True
  | x :: xs, l :: ls => (l.1 ≤ x ∧ x ≤ l.2) ∧ fit xs ls
  | _, _ => False
theorem fit_length : ∀ {xs : List Int} {ls : List (Int × Int)}, fit xs ls → xs.length = ls.length
  | [], [], _ => rfl
  | _ :: _, _ :: _, h => by simp only [List.length_cons, fit_length h.2]
theorem fit_get : ∀ {xs : List Int} {ls : List (Int × Int)}, fit xs ls → ∀ (i : Nat) (h : i < xs.length) (h' : i < ls.length), ls[i].1 ≤ xs[i] ∧ xs[i] ≤ ls[i].2
  | _ :: _, _ :: _, h, 0, _, _ => h.1
  | _ :: _, _ :: _, h, i + 1, _, _ => fit_get h.2 i _ _
theorem fit_of : ∀ {xs : List Int} {ls : List (Int × Int)}, xs.length = ls.length → (∀ (i : Nat) (h : i < xs.length) (h' : i < ls.length), ls[i].1 ≤ xs[i] ∧ xs[i] ≤ ls[i].2) → fit xs ls
  | [], [], _, _ => trivial
  | [], _ :: _, h, _ => by simp at h
  | _ :: _, [], h, _ => by simp at h
  | _ :: _, _ :: _, h, hf => ⟨hf 0 (by simp) (by simp), fit_of (by simpa using h) fun i hi hi' => hf (i + 1) (by simpa using hi) (by simpa using hi')⟩
def inR (a b : Int) (x : Int) : Bool := decide (a ≤ x) && decide (x ≤ b)
theorem fit_count {a b : Int} : ∀ {xs : List Int} {ls : List (Int × Int)}, fit xs ls → ls.countP (inW a b) ≤ xs.countP (inR a b)
  | [], [], _ => Nat.le_refl _
  | x :: xs, l :: ls, h => by
    have ih := fit_count (a := a) (b := b) h.2
    have h1 := h.1
    rw [List.countP_cons, List.countP_cons]
    by_cases c : inW a b l = true
    · rw [if_pos c, if_pos (by rw [inW_iff] at c; simp only [inR, Bool.and_eq_true, decide_eq_true_eq]; omega)]
      omega
    · rw [if_neg c]
      omega
/-- The loads of hours before each one. -/
def N (m : Int) (xs : List Int) : Nat → Int
  | 0 => 0
  | k + 1 => N m xs k + up (xs.count (k : Int)) m
theorem N_mono1 {m : Int} (hm : 1 ≤ m) (xs : List Int) (k : Nat) : N m xs k ≤ N m xs (k + 1) := by
  have := up_nonneg hm (Int.natCast_nonneg (xs.count (k : Int)))
  rw [N]
  omega
theorem N_mono {m : Int} (hm : 1 ≤ m) (xs : List Int) {a b : Nat} (h : a ≤ b) : N m xs a ≤ N m xs b := by
  induction b with
  | zero => obtain rfl : a = 0 := by omega
            exact Int.le_refl _
  | succ b ih =>
    by_cases e : a = b + 1
    · subst e; exact Int.le_refl _
    · exact Int.le_trans (ih (by omega)) (N_mono1 hm xs b)
theorem countP_inR_succ (a d : Nat) (xs : List Int) : xs.countP (inR a ((a : Int) + (d + 1 : Nat) - 1)) = xs.countP (inR a ((a : Int) + d - 1)) + xs.count (((a + d : Nat) : Int)) := by
  induction xs with
  | nil => rfl
  | cons x xs ih =>
    rw [List.countP_cons, List.countP_cons, List.count_cons, ih]
    by_cases e : x = ((a + d : Nat) : Int)
    · subst e
      rw [if_pos (by simp only [inR, Bool.and_eq_true, decide_eq_true_eq]; omega), if_neg (by simp only [inR, Bool.and_eq_true, decide_eq_true_eq]; omega), if_pos (by simp)]
      omega
    · rw [if_neg (c := (x == ((a + d : Nat) : Int)) = true) (by simpa using e)]
      by_cases c : inR a ((a : Int) + d - 1) x = true
      · rw [if_pos c, if_pos (by simp only [inR, Bool.and_eq_true, decide_eq_true_eq] at c ⊢; omega)]
        omega
      · rw [if_neg c, if_neg (by simp only [inR, Bool.and_eq_true, decide_eq_true_eq] at c ⊢; omega)]
        omega
theorem N_range {m : Int} (hm : 1 ≤ m) (xs : List Int) (a : Nat) : ∀ d : Nat, up (xs.countP (inR a ((a : Int) + d - 1))) m ≤ N m xs (a + d) - N m xs a
  | 0 => by
    have e : xs.countP (inR a ((a : Int) + (0 : Nat) - 1)) = 0 := by
      rw [List.countP_eq_zero]
      intro x _ h
      simp only [inR, Bool.and_eq_true, decide_eq_true_eq] at h
      omega
    rw [e, Int.natCast_zero, up_zero hm]
    simp
  | d + 1 => by
    have ih := N_range hm xs a d
    have h1 := up_add (a := (xs.countP (inR a ((a : Int) + d - 1)) : Int)) (b := (xs.count (((a + d : Nat) : Int)) : Int)) hm
    rw [countP_inR_succ, Int.natCast_add, show a + (d + 1) = (a + d) + 1 by omega, N]
    omega
theorem need_N {y : YardD} (hm : 1 ≤ y.load) {xs : List Int} (hf : fit xs y.logs) {a b : Int} (h0 : 0 ≤ a) (hab : a ≤ b + 1) : need y a b ≤ N y.load xs (b + 1).toNat - N y.load xs a.toNat := by
  have h1 := N_range hm xs a.toNat ((b + 1).toNat - a.toNat)
  rw [show ((a.toNat : Nat) : Int) = a by omega, show a + (((b + 1).toNat - a.toNat : Nat) : Int) - 1 = b by omega, show a.toNat + ((b + 1).toNat - a.toNat) = (b + 1).toNat by omega] at h1
  refine Int.le_trans (up_mono hm ?_) h1
  have := fit_count (a := a) (b := b) hf
  unfold cnt
  omega
/-- No right hours have fewer loads before an hour. -/
theorem U_le_N {y : YardD} (hy : y.Ok) {xs : List Int} (hf : fit xs y.logs) (h : Nat) : U y h ≤ N y.load xs h := by
  refine U_least (N y.load xs) (Int.le_refl _) (N_mono1 hy.l1 xs) (fun h w hw => ?_) h
  obtain ⟨_, h2, l, hl, h3, h4⟩ := wins_iff.1 hw
  have hlo := (hy.log l hl).1
  have := need_N hy.l1 hf (a := w.1) (b := w.2) (by omega) (by omega)
  rw [show (w.2 + 1).toNat = h + 1 by omega] at this
  omega

/-! ## Room for all logs -/
def psum (f : Nat → Int) (a : Nat) : Nat → Int
  | 0 => 0
  | n + 1 => psum f a n + f (a + n)
theorem psum_front (f : Nat → Int) (a : Nat) : ∀ n, psum f a (n + 1) = f a + psum f (a + 1) n
  | 0 => by simp [psum]
  | n + 1 => by
    rw [psum, psum_front f a n, psum, show a + (n + 1) = a + 1 + n by omega]
    omega
theorem psum_add (f : Nat → Int) (a n : Nat) : ∀ k, psum f a (n + k) = psum f a n + psum f (a + n) k
  | 0 => by simp [psum]
  | k + 1 => by
    rw [show n + (k + 1) = (n + k) + 1 by omega, psum, psum_add f a n k, psum, show a + (n + k) = a + n + k by omega]
    omega
theorem psum_nonneg {f : Nat → Int} (h : ∀ j, 0 ≤ f j) (a : Nat) : ∀ n, 0 ≤ psum f a n
  | 0 => Int.le_refl _
  | n + 1 => by
    have := psum_nonneg h a n
    have := h (a + n)
    rw [psum]
    omega
theorem psum_zero {f : Nat → Int} {a : Nat} : ∀ {n : Nat}, (∀ j, a ≤ j → j < a + n → f j = 0) → psum f a n = 0
  | 0, _ => rfl
  | n + 1, h => by rw [psum, psum_zero fun j h1 h2 => h j h1 (by omega), h (a + n) (by omega) (by omega)]; rfl
theorem psum_first {f : Nat → Int} (h : ∀ j, 0 ≤ f j) : ∀ (n a : Nat), 0 < psum f a n → ∃ u, a ≤ u ∧ u < a + n ∧ 0 < f u ∧ ∀ j, a ≤ j → j < u → f j = 0
  | 0, _, hp => by simp [psum] at hp
  | n + 1, a, hp => by
    by_cases c : 0 < f a
    · exact ⟨a, Nat.le_refl _, by omega, c, fun j h1 h2 => by omega⟩
    · have h0 := h a
      rw [psum_front] at hp
      obtain ⟨u, h1, h2, h3, h4⟩ := psum_first h n (a + 1) (by omega)
      refine ⟨u, by omega, by omega, h3, fun j h5 h6 => ?_⟩
      by_cases e : j = a
      · subst e; omega
      · exact h4 j (by omega) h6
def less1 (f : Nat → Int) (u : Nat) (j : Nat) : Int := if j = u then f j - 1 else f j
theorem psum_less (f : Nat → Int) (u a : Nat) : ∀ n, psum (less1 f u) a n = psum f a n - (if a ≤ u ∧ u < a + n then 1 else 0)
  | 0 => by rw [if_neg (by omega)]; rfl
  | n + 1 => by
    rw [psum, psum, psum_less f u a n, less1]
    by_cases e : a + n = u
    · rw [if_pos e, if_neg (by omega), if_pos (by omega)]; omega
    · rw [if_neg e]
      by_cases c : a ≤ u ∧ u < a + n
      · rw [if_pos c, if_pos (by omega)]; omega
      · rw [if_neg c, if_neg (by omega)]; omega
/-- All windows have room for the logs within them. -/
def Hall (f : Nat → Int) (ls : List (Int × Int)) : Prop := (∀ j, 0 ≤ f j) ∧ ∀ a n : Nat, (ls.countP (inW a ((a : Int) + n - 1)) : Int) ≤ psum f a n
theorem hall_first {f : Nat → Int} {l : Int × Int} {ls : List (Int × Int)} (h : Hall f (l :: ls)) (h0 : 0 ≤ l.1) (h1 : l.1 ≤ l.2) : ∃ u : Nat, l.1 ≤ u ∧ (u : Int) ≤ l.2 ∧ 0 < f u ∧ ∀ j : Nat, l.1 ≤ j → j < u → f j = 0 := by
  have hp := h.2 l.1.toNat (l.2 - l.1 + 1).toNat
  rw [List.countP_cons, if_pos (by rw [inW_iff]; omega)] at hp
  obtain ⟨u, h2, h3, h4, h5⟩ := psum_first h.1 _ _ (show 0 < psum f l.1.toNat (l.2 - l.1 + 1).toNat by omega)
  exact ⟨u, by omega, by omega, h4, fun j h6 h7 => h5 j (by omega) h7⟩
theorem hall_step {f : Nat → Int} {l : Int × Int} {ls : List (Int × Int)} (h : Hall f (l :: ls)) (h0 : 0 ≤ l.1) (hend : ∀ k ∈ ls, l.2 ≤ k.2) {u : Nat} (hu1 : l.1 ≤ u) (hu2 : (u : Int) ≤ l.2) (hu : 0 < f u) (hu0 : ∀ j : Nat, l.1 ≤ j → j < u → f j = 0) : Hall (less1 f u) ls := by
  have hnn : ∀ j, 0 ≤ less1 f u j := fun j => by
    unfold less1
    have := h.1 j
    split
    · rename_i e; subst e; omega
    · exact this
  refine ⟨hnn, fun a n => ?_⟩
  have hc := h.2 a n
  rw [List.countP_cons] at hc
  by_cases c : a ≤ u ∧ u < a + n
  · by_cases c1 : l.2 ≤ (a : Int) + n - 1
    · by_cases c2 : (a : Int) ≤ l.1
      · rw [if_pos (by rw [inW_iff]; exact ⟨c2, c1⟩)] at hc
        rw [psum_less, if_pos c]
        omega
      · have h3 := h.2 l.1.toNat (a + n - l.1.toNat)
        rw [List.countP_cons, if_pos (by rw [inW_iff]; omega)] at h3
        have h4 := psum_add f l.1.toNat (a - l.1.toNat) n
        rw [show l.1.toNat + (a - l.1.toNat) = a by omega, show a - l.1.toNat + n = a + n - l.1.toNat by omega, psum_zero (n := a - l.1.toNat) (fun j h5 h6 => hu0 j (by omega) (by omega))] at h4
        have h5 : ls.countP (inW a ((a : Int) + n - 1)) ≤ ls.countP (inW l.1.toNat (((l.1.toNat : Nat) : Int) + ((a + n - l.1.toNat : Nat) : Int) - 1)) := List.countP_mono_left fun k _ hk => by
          rw [inW_iff] at hk ⊢
          omega
        rw [psum_less, if_pos c]
        omega
    · have h3 : ls.countP (inW a ((a : Int) + n - 1)) = 0 := by
        rw [List.countP_eq_zero]
        intro k hk hw
        rw [inW_iff] at hw
        have := hend k hk
        omega
      rw [h3]
      exact psum_nonneg hnn _ _
  · rw [psum_less, if_neg c]
    split at hc <;> omega
/-- The room that the late loads have. -/
def roomU (y : YardD) (h : Nat) : Int := y.load * (U y (h + 1) - U y h)
theorem psum_room (y : YardD) (a : Nat) : ∀ n, psum (roomU y) a n = y.load * (U y (a + n) - U y a)
  | 0 => by simp [psum]
  | n + 1 => by
    rw [psum, psum_room y a n]
    unfold roomU
    rw [← Int.mul_add, show a + (n + 1) = a + n + 1 by omega]
    congr 1
    omega
theorem hall_room {y : YardD} (hy : y.Ok) {ls : List (Int × Int)} (hp : ls.Perm y.logs) : Hall (roomU y) ls := by
  refine ⟨fun j => Int.mul_nonneg (by have := hy.l1; omega) (by have := U_step y j; omega), fun a n => ?_⟩
  rw [psum_room, hp.countP_eq]
  have h1 := U_need hy (a := a) (b := (a : Int) + n - 1) (by omega) (by omega)
  rw [Int.toNat_natCast, show ((a : Int) + n - 1 + 1).toNat = a + n by omega] at h1
  have h2 := le_up_mul (n := cnt y a ((a : Int) + n - 1)) hy.l1
  have h3 := Int.mul_le_mul_of_nonneg_right (show need y a ((a : Int) + n - 1) ≤ U y (a + n) - U y a by omega) (show 0 ≤ y.load by have := hy.l1; omega)
  rw [Int.mul_comm y.load]
  unfold need at h3
  exact Int.le_trans h2 h3
/-- Logs are placed one after the other: what has been placed, and the hours. -/
structure Placed (y : YardD) (ord : List Nat) (k : Nat) (rt hv : Nat → Int) : Prop where
  fit : ∀ i ∈ ord.take k, ∀ h : i < y.logs.length, y.logs[i].1 ≤ rt i ∧ rt i ≤ y.logs[i].2
  cnt : ∀ h : Nat, hv h = (((ord.take k).map rt).count (h : Int) : Int)
  room : Hall (fun h => roomU y h - hv h) ((ord.drop k).map fun i => y.logs.getD i (0, 0))
def updI (f : Nat → Int) (i : Nat) (v : Int) (j : Nat) : Int := if j = i then v else f j
theorem placed_start {y : YardD} (hy : y.Ok) {ord : List Nat} (hp : ord.Perm (List.range y.logs.length)) (rt : Nat → Int) : Placed y ord 0 rt (fun _ => 0) := by
  refine ⟨fun i h => by simp at h, fun h => by simp, ?_⟩
  have e : (fun h => roomU y h - (fun _ : Nat => (0 : Int)) h) = roomU y := funext fun h => by simp
  rw [e]
  refine hall_room hy ?_
  rw [List.drop_zero]
  have h1 := hp.map fun i => y.logs.getD i (0, 0)
  refine h1.trans (List.Perm.of_eq (List.ext_getElem (by simp) fun i h1 h2 => ?_))
  simp only [List.getElem_map, List.getElem_range]
  rw [List.getD_eq_getElem?_getD, List.getElem?_eq_getElem h2]
  rfl
theorem placed_first {y : YardD} (hy : y.Ok) {ord : List Nat} {k : Nat} {rt hv : Nat → Int} (h : Placed y ord k rt hv) (hk : k < ord.length) (hi : ord[k] < y.logs.length) :
    ∃ u : Nat, y.logs[ord[k]].1 ≤ u ∧ (u : Int) ≤ y.logs[ord[k]].2 ∧ hv u < roomU y u ∧ ∀ j : Nat, y.logs[ord[k]].1 ≤ j → j < u → roomU y j ≤ hv j := by
  have hl := hy.log _ (List.getElem_mem hi)
  have hr := h.room
  rw [List.drop_eq_getElem_cons hk, List.map_cons] at hr
  have e : y.logs.getD ord[k] (0, 0) = y.logs[ord[k]] := by rw [List.getD_eq_getElem?_getD, List.getElem?_eq_getElem hi]; rfl
  rw [e] at hr
  obtain ⟨u, h1, h2, h3, h4⟩ := hall_first hr hl.1 hl.2.1
  exact ⟨u, h1, h2, by omega, fun j h5 h6 => by have := h4 j h5 h6; omega⟩
theorem placed_step {y : YardD} (hy : y.Ok) {ord : List Nat} (hp : ord.Perm (List.range y.logs.length)) (hs : ∀ a b, a < b → ∀ ha : a < ord.length, ∀ hb : b < ord.length, (y.logs.getD ord[a] (0, 0)).2 ≤ (y.logs.getD ord[b] (0, 0)).2)
    {k : Nat} {rt hv : Nat → Int} (h : Placed y ord k rt hv) (hk : k < ord.length) (hi : ord[k] < y.logs.length) {u : Nat} (h1 : y.logs[ord[k]].1 ≤ u) (h2 : (u : Int) ≤ y.logs[ord[k]].2) (h3 : hv u < roomU y u) (h4 : ∀ j : Nat, y.logs[ord[k]].1 ≤ j → j < u → roomU y j ≤ hv j) :
    Placed y ord (k + 1) (updI rt ord[k] u) (updI hv u (hv u + 1)) := by
  have hl := hy.log _ (List.getElem_mem hi)
  have hr := h.room
  rw [List.drop_eq_getElem_cons hk, List.map_cons] at hr
  have e : y.logs.getD ord[k] (0, 0) = y.logs[ord[k]] := by rw [List.getD_eq_getElem?_getD, List.getElem?_eq_getElem hi]; rfl
  rw [e] at hr
  have hnd : ord.Nodup := hp.nodup_iff.2 List.nodup_range
  have hne : ∀ i ∈ ord.take k, i ≠ ord[k] := fun i hm => by
    obtain ⟨j, hj, rfl⟩ := List.mem_take_iff_getElem.1 hm
    intro h5
    have := (List.getElem_inj hnd).1 h5
    omega
  have hmap : (ord.take k).map (updI rt ord[k] u) = (ord.take k).map rt := List.map_congr_left fun i hm => by unfold updI; rw [if_neg (hne i hm)]
  refine ⟨fun i hm hil => ?_, fun j => ?_, ?_⟩
  · rw [List.take_succ_eq_append_getElem hk, List.mem_append, List.mem_singleton] at hm
    rcases hm with hm | rfl
    · have := h.fit i hm hil
      unfold updI
      rw [if_neg (hne i hm)]
      exact this
    · unfold updI
      rw [if_pos rfl]
      exact ⟨h1, h2⟩
  · rw [List.take_succ_eq_append_getElem hk, List.map_append, hmap, List.count_append, List.map_singleton]
    have hc := h.cnt j
    have e2 : updI rt ord[k] u ord[k] = u := by unfold updI; rw [if_pos rfl]
    rw [e2, List.count_singleton]
    unfold updI
    by_cases c : j = u
    · subst c
      rw [if_pos rfl, if_pos (by simp)]
      omega
    · rw [if_neg c, if_neg (by simp; omega)]
      omega
  · have h0 : ∀ j : Nat, y.logs[ord[k]].1 ≤ j → j < u → (fun h => roomU y h - hv h) j = 0 := fun j h5 h6 => by
      have := h4 j h5 h6
      have h8 : 0 ≤ roomU y j - hv j := hr.1 j
      show roomU y j - hv j = 0
      omega
    have hst := hall_step hr hl.1 (fun q hq => by
      obtain ⟨j, hj, rfl⟩ := List.mem_map.1 hq
      obtain ⟨m, hm, rfl⟩ := List.mem_iff_getElem.1 hj
      rw [List.getElem_drop]
      rw [← e]
      exact hs k (k + 1 + m) (by omega) hk (by rw [List.length_drop] at hm; omega)) h1 h2 (by show 0 < roomU y u - hv u; omega) h0
    have e3 : less1 (fun h => roomU y h - hv h) u = fun h => roomU y h - updI hv u (hv u + 1) h := funext fun j => by
      unfold less1 updI
      by_cases c : j = u
      · subst c; rw [if_pos rfl, if_pos rfl]; show roomU y j - hv j - 1 = roomU y j - (hv j + 1); omega
      · rw [if_neg c, if_neg c]
    rwa [e3] at hst
theorem placed_end {y : YardD} (hy : y.Ok) {ord : List Nat} (hp : ord.Perm (List.range y.logs.length)) {rt hv : Nat → Int} (h : Placed y ord ord.length rt hv) :
    Vat.fit ((List.range y.logs.length).map rt) y.logs ∧ N y.load ((List.range y.logs.length).map rt) 101 = U y 101 := by
  have hf : Vat.fit ((List.range y.logs.length).map rt) y.logs := fit_of (by simp) fun i h1 h2 => by
    rw [List.getElem_map, List.getElem_range]
    exact h.fit i (by rw [List.take_length]; exact hp.mem_iff.2 (List.mem_range.2 h2)) h2
  refine ⟨hf, Int.le_antisymm ?_ (U_le_N hy hf 101)⟩
  have hc : ∀ j : Nat, (((List.range y.logs.length).map rt).count (j : Int) : Int) ≤ roomU y j := fun j => by
    have h1 := h.cnt j
    have h2 : 0 ≤ roomU y j - hv j := h.room.1 j
    rw [List.take_length, (hp.map rt).count_eq] at h1
    omega
  have key : ∀ k, N y.load ((List.range y.logs.length).map rt) k ≤ U y k := fun k => by
    induction k with
    | zero => exact Int.le_refl _
    | succ k ih =>
      rw [N]
      have : up ((((List.range y.logs.length).map rt).count (k : Int) : Int)) y.load ≤ U y (k + 1) - U y k := by
        rw [up_le_iff hy.l1, Int.mul_comm]
        exact hc k
      omega
  exact key 101
end Go.Vat

/-! The mathematics of layer 3: loads in their order; hours that are counted back, or later; one more log; yards one behind the other. No marks besides the import's. -/
namespace Go.Vat

/-! ## Hours that are counted back -/
def back (y : YardD) : YardD := ⟨y.load, y.logs.map fun l => (100 - l.2, 100 - l.1)⟩
theorem back_ok {y : YardD} (h : y.Ok) : (back y).Ok := ⟨h.l1, h.l2, by simp only [back, List.length_map]; exact h.count, fun l hl => by
  obtain ⟨k, hk, rfl⟩ := List.mem_map.1 hl
  have := h.log k hk
  simp only
  omega⟩
theorem back_back (y : YardD) : back (back y) = y := by
  obtain ⟨m, ls⟩ := y
  simp only [back, List.map_map]
  congr 1
  rw [show ((fun l : Int × Int => (100 - l.2, 100 - l.1)) ∘ fun l : Int × Int => (100 - l.2, 100 - l.1)) = id from funext fun l => by
    simp only [Function.comp, id]
    refine Prod.ext ?_ ?_ <;> simp only <;> omega, List.map_id]
theorem need_back (y : YardD) (a b : Int) : need (back y) a b = need y (100 - b) (100 - a) := by
  unfold need cnt
  have e : (back y).logs.countP (inW a b) = y.logs.countP (inW (100 - b) (100 - a)) := by
    simp only [back, List.countP_map]
    congr 1
    funext l
    simp only [Function.comp, inW]
    rw [show decide (a ≤ 100 - l.2) = decide (l.2 ≤ 100 - a) from decide_eq_decide.2 (by omega), show decide (100 - l.1 ≤ b) = decide (100 - b ≤ l.1) from decide_eq_decide.2 (by omega), Bool.and_comm]
  rw [e]
  rfl
/-- What stands behind an hour bounds what there is before it when it is counted back. -/
theorem U_back_le {y : YardD} (hy : y.Ok) (F : Nat → Int) (hm : ∀ a b, a ≤ b → F a ≤ F b) (hF : ∀ a b : Int, 0 ≤ a → a ≤ b + 1 → need y a b ≤ F (b + 1).toNat - F a.toNat) (k : Nat) : U (back y) k ≤ F 101 - F (101 - k) := by
  refine U_least (fun k => F 101 - F (101 - k)) (by simp) (fun h => by have := hm (101 - (h + 1)) (101 - h) (by omega); show F 101 - F (101 - h) ≤ F 101 - F (101 - (h + 1)); omega) (fun h w hw => ?_) k
  obtain ⟨⟨l, hl, hl2⟩, h2, l', hl', h3, h4⟩ := wins_iff.1 hw
  have g1 := (back_ok hy).log l hl
  have g2 := (back_ok hy).log l' hl'
  have := hF (100 - w.2) (100 - w.1) (by omega) (by omega)
  rw [need_back]
  rw [show (100 - w.1 + 1).toNat = 101 - w.1.toNat by omega, show (100 - w.2).toNat = 101 - (h + 1) by omega] at this
  show F 101 - F (101 - w.1.toNat) + need y (100 - w.2) (100 - w.1) ≤ F 101 - F (101 - (h + 1))
  omega
theorem U_back {y : YardD} (hy : y.Ok) (k : Nat) : U (back y) k ≤ U y 101 - U y (101 - k) :=
  U_back_le hy (U y) (fun _ _ h => U_mono y h) (fun a b h1 h2 => by have := U_need hy h1 h2; omega) k
theorem U_turn {y : YardD} (hy : y.Ok) : U (back y) 101 = U y 101 := by
  have h1 := U_back hy 101
  have h2 := U_back (back_ok hy) 101
  rw [back_back] at h2
  simp only [Nat.sub_self, U_zero] at h1 h2
  omega

/-! ## Loads in their order -/
def LL (F : Nat → Int) : Nat → List Int
  | 0 => []
  | n + 1 => LL F n ++ List.replicate (F (n + 1) - F n).toNat (n : Int)
theorem LL_length {F : Nat → Int} (hm : ∀ h, F h ≤ F (h + 1)) : ∀ n, ((LL F n).length : Int) = F n - F 0
  | 0 => by simp [LL]
  | n + 1 => by
    rw [LL, List.length_append, List.length_replicate, Int.natCast_add, LL_length hm n]
    have := hm n
    omega
theorem LL_get {F : Nat → Int} (h0 : F 0 = 0) (hm : ∀ h, F h ≤ F (h + 1)) : ∀ (n i : Nat) (h : i < (LL F n).length), ∃ u : Nat, u < n ∧ (LL F n)[i] = u ∧ F u ≤ i ∧ (i : Int) < F (u + 1)
  | 0, i, h => by simp [LL] at h
  | n + 1, i, h => by
    have hl := LL_length hm n
    have hl1 := LL_length hm (n + 1)
    by_cases c : i < (LL F n).length
    · obtain ⟨u, h1, h2, h3⟩ := LL_get h0 hm n i c
      exact ⟨u, by omega, by simp only [LL]; rw [List.getElem_append_left c]; exact h2, h3⟩
    · exact ⟨n, by omega, by simp only [LL]; rw [List.getElem_append_right (by omega), List.getElem_replicate], by omega, by omega⟩
/-- What comes sooner in one list comes sooner in the hours. -/
theorem LL_cmp {F G : Nat → Int} {u v j : Nat} (hG : ∀ a b, a ≤ b → G a ≤ G b) (h : ∀ k, G k ≤ F k) (hu : F u ≤ j) (h2 : (j : Int) < G (v + 1)) : u ≤ v := by
  rcases Nat.lt_or_ge v u with c | c
  · have := hG (v + 1) u (by omega)
    have := h u
    omega
  · exact c
def lateL (y : YardD) : List Int := LL (U y) 101
def earlyL (y : YardD) : List Int := ((lateL (back y)).map fun h => 100 - h).reverse
theorem lateL_length (y : YardD) : ((lateL y).length : Int) = U y 101 := by
  unfold lateL
  rw [LL_length (U_step y), U_zero]
  omega
theorem earlyL_length {y : YardD} (hy : y.Ok) : ((earlyL y).length : Int) = U y 101 := by
  unfold earlyL
  rw [List.length_reverse, List.length_map, lateL_length, U_turn hy]
theorem lateL_get {y : YardD} {i : Nat} (h : i < (lateL y).length) : ∃ u : Nat, u < 101 ∧ (lateL y)[i] = u ∧ U y u ≤ i ∧ (i : Int) < U y (u + 1) := LL_get (U_zero y) (U_step y) 101 i h
theorem lateL_sorted {y : YardD} {i j : Nat} (hij : i ≤ j) (h : j < (lateL y).length) : (lateL y)[i] ≤ (lateL y)[j] := by
  obtain ⟨u, _, e1, h1, h2⟩ := lateL_get (y := y) (i := i) (by omega)
  obtain ⟨v, _, e2, h3, h4⟩ := lateL_get h
  rw [e1, e2]
  have := LL_cmp (F := U y) (G := U y) (j := j) (u := u) (v := v) (fun _ _ => U_mono y) (fun _ => Int.le_refl _) (by omega) h4
  omega
theorem lateL_bd {y : YardD} {i : Nat} (h : i < (lateL y).length) : 0 ≤ (lateL y)[i] ∧ (lateL y)[i] ≤ 100 := by
  obtain ⟨u, h1, e, _⟩ := lateL_get h
  omega
theorem earlyL_len (y : YardD) : (earlyL y).length = (lateL (back y)).length := by simp [earlyL]
theorem earlyL_get {y : YardD} {i : Nat} (h : i < (earlyL y).length) : (earlyL y)[i] = 100 - (lateL (back y))[(lateL (back y)).length - 1 - i]'(by rw [earlyL_len] at h; omega) := by
  simp only [earlyL, List.getElem_reverse, List.getElem_map, List.length_map]
theorem earlyL_sorted {y : YardD} {i j : Nat} (hij : i ≤ j) (h : j < (earlyL y).length) : (earlyL y)[i] ≤ (earlyL y)[j] := by
  rw [earlyL_get (by omega), earlyL_get h]
  have h' := h
  rw [earlyL_len] at h'
  have := lateL_sorted (y := back y) (i := (lateL (back y)).length - 1 - j) (j := (lateL (back y)).length - 1 - i) (by omega) (by omega)
  omega
theorem earlyL_bd {y : YardD} {i : Nat} (h : i < (earlyL y).length) : 0 ≤ (earlyL y)[i] ∧ (earlyL y)[i] ≤ 100 := by
  rw [earlyL_get h]
  have h' := h
  rw [earlyL_len] at h'
  have := lateL_bd (y := back y) (i := (lateL (back y)).length - 1 - i) (by omega)
  omega
/-- The loads of hours, in order. -/
def orderL (y : YardD) (xs : List Int) : List Int := LL (N y.load xs) 101
theorem orderL_length {y : YardD} (hy : y.Ok) (xs : List Int) : ((orderL y xs).length : Int) = N y.load xs 101 := by
  unfold orderL
  rw [LL_length (N_mono1 hy.l1 xs)]
  simp [N]
/-- Each load is from the early one to the late one. -/
theorem order_between {y : YardD} (hy : y.Ok) {xs : List Int} (hf : fit xs y.logs) (hn : N y.load xs 101 = U y 101) {i : Nat} {a x b : Int} (ha : (earlyL y)[i]? = some a) (hx : (orderL y xs)[i]? = some x) (hb : (lateL y)[i]? = some b) : a ≤ x ∧ x ≤ b := by
  obtain ⟨h1, e5⟩ := List.getElem?_eq_some_iff.1 ha
  obtain ⟨h, e⟩ := List.getElem?_eq_some_iff.1 hx
  obtain ⟨h2, e6⟩ := List.getElem?_eq_some_iff.1 hb
  rw [← e5, ← e, ← e6]
  clear e5 e e6 ha hx hb
  unfold orderL at h ⊢
  obtain ⟨g, hg, e, g1, g2⟩ := LL_get (F := N y.load xs) rfl (N_mono1 hy.l1 xs) 101 i h
  obtain ⟨v, hv, e2, v1, v2⟩ := lateL_get h2
  rw [e, e2]
  constructor
  · rw [earlyL_get h1]
    have h1' := h1
    rw [earlyL_len] at h1'
    obtain ⟨u, hu, e3, u1, u2⟩ := lateL_get (y := back y) (i := (lateL (back y)).length - 1 - i) (by omega)
    rw [e3]
    have hl := lateL_length (back y)
    rw [U_turn hy] at hl
    have hb := U_back_le hy (N y.load xs) (fun _ _ hh => N_mono hy.l1 xs hh) (fun a b q1 q2 => need_N hy.l1 hf q1 q2) (100 - g)
    rw [show 101 - (100 - g) = g + 1 by omega] at hb
    rcases Nat.lt_or_ge g (100 - u) with c | c
    · have hm := U_mono (back y) (a := u + 1) (b := 100 - g) (by omega)
      omega
    · omega
  · have := LL_cmp (F := N y.load xs) (G := U y) (j := i) (u := g) (v := v) (fun _ _ => U_mono y) (fun k => U_le_N hy hf k) g1 v2
    omega

/-! ## No more loads than logs -/
theorem N_le_count {m : Int} (hm : 1 ≤ m) (xs : List Int) (k : Nat) : N m xs k ≤ xs.length := by
  have key : ∀ k : Nat, N m xs k ≤ (xs.countP (inR 0 ((k : Int) - 1)) : Int) := fun k => by
    induction k with
    | zero => exact Int.natCast_nonneg _
    | succ k ih =>
      have h1 := countP_inR_succ 0 k xs
      simp only [Int.natCast_zero, Int.zero_add, Nat.zero_add] at h1
      have h2 := up_le_self (n := (xs.count (k : Int) : Int)) hm (Int.natCast_nonneg _)
      rw [N, h1]
      omega
  have h1 := key k
  have h2 := List.countP_le_length (p := inR 0 ((k : Int) - 1)) (l := xs)
  omega
theorem getD_log {y : YardD} {i : Nat} (h : i < y.logs.length) : y.logs.getD i (0, 0) = y.logs[i] := by rw [List.getD_eq_getElem?_getD, List.getElem?_eq_getElem h]; rfl
/-- One more log: no fewer loads, and at most one more. -/
def more (y : YardD) (l : Int × Int) : YardD := ⟨y.load, y.logs ++ [l]⟩
theorem cnt_more (y : YardD) (l : Int × Int) (a b : Int) : cnt (more y l) a b = cnt y a b + (if a ≤ l.1 ∧ l.2 ≤ b then 1 else 0) := by
  unfold cnt more
  rw [List.countP_append, List.countP_cons, List.countP_nil]
  by_cases c : a ≤ l.1 ∧ l.2 ≤ b
  · rw [if_pos c, if_pos (inW_iff.2 c)]; omega
  · rw [if_neg c, if_neg (fun h => c (inW_iff.1 h))]; omega
theorem U_more {y : YardD} {l : Int × Int} (hy : y.Ok) (hz : (more y l).Ok) (h : Nat) : U y h ≤ U (more y l) h ∧ U (more y l) h ≤ U y h + 1 := by
  have hl := hz.log l (by simp [more])
  have key : U (more y l) h ≤ U y h + (if l.2 < h then 1 else 0) := by
    refine U_least (fun h : Nat => U y h + (if l.2 < h then 1 else 0)) (by rw [U_zero, if_neg (by omega)]; simp) (fun h => ?_) (fun h w hw => ?_) h
    · have := U_step y h
      show U y h + (if l.2 < (h : Int) then 1 else 0) ≤ U y (h + 1) + (if l.2 < ((h + 1 : Nat) : Int) then 1 else 0)
      split <;> split <;> omega
    · obtain ⟨_, h2, k, hk, h3, h4⟩ := wins_iff.1 hw
      have hk2 := hz.log k hk
      have hn := U_need hy (a := w.1) (b := w.2) (by omega) (by omega)
      have e : need (more y l) w.1 w.2 ≤ need y w.1 w.2 + (if w.1 ≤ l.1 ∧ l.2 ≤ w.2 then 1 else 0) := by
        unfold need
        rw [cnt_more]
        split
        · exact up_succ hy.l1
        · exact Int.le_of_eq (by simp [more])
      rw [show (w.2 + 1).toNat = h + 1 by omega] at hn
      show U y w.1.toNat + (if l.2 < ((w.1.toNat : Nat) : Int) then 1 else 0) + need (more y l) w.1 w.2 ≤ U y (h + 1) + (if l.2 < ((h + 1 : Nat) : Int) then 1 else 0)
      split at e <;> split <;> split <;> omega
  refine ⟨U_le hy hz (fun a b => up_mono hy.l1 (by rw [cnt_more]; split <;> omega)) h, ?_⟩
  split at key <;> omega
theorem U_len0 {m : Int} : ∀ (n : Nat) (ls : List (Int × Int)), ls.length = n → YardD.Ok ⟨m, ls⟩ → ∀ h, U ⟨m, ls⟩ h ≤ n
  | 0, ls, hl, _, h => by
    obtain rfl := List.length_eq_zero_iff.1 hl
    exact U_least (fun _ => 0) (Int.le_refl _) (fun _ => Int.le_refl _) (fun h w hw => by
      obtain ⟨_, _, k, hk, _⟩ := wins_iff.1 hw
      cases hk) h
  | n + 1, ls, hl, hy, h => by
    have hne : ls ≠ [] := fun e => by subst e; simp at hl
    obtain ⟨ks, l, rfl⟩ : ∃ ks l, ls = ks ++ [l] := ⟨ls.dropLast, ls.getLast hne, (List.dropLast_concat_getLast hne).symm⟩
    have hk : ks.length = n := by simpa using hl
    have hy' : YardD.Ok ⟨m, ks⟩ := ⟨hy.l1, hy.l2, by have := hy.count; simp at this ⊢; omega, fun k hk => hy.log k (by simp [hk])⟩
    have h1 := U_len0 n ks hk hy' h
    have h2 := (U_more (l := l) hy' hy h).2
    show U (more ⟨m, ks⟩ l) h ≤ _
    omega
theorem U_len {y : YardD} (hy : y.Ok) (h : Nat) : U y h ≤ y.logs.length := U_len0 _ y.logs rfl hy h
/-- More room in a load: no more loads. -/
theorem U_room {y : YardD} {m : Int} (hy : y.Ok) (hm : y.load ≤ m) (hm2 : m ≤ 10) (h : Nat) : U ⟨m, y.logs⟩ h ≤ U y h := by
  have h1 := hy.l1
  exact U_le (y := ⟨m, y.logs⟩) ⟨by show 1 ≤ m; omega, hm2, hy.count, hy.log⟩ hy (fun a b => up_anti hy.l1 hm (cnt_nonneg y a b)) h
theorem countP_le_get {p q : Int × Int → Bool} : ∀ {ls ks : List (Int × Int)}, ls.length = ks.length → (∀ (i : Nat) (h : i < ls.length) (h' : i < ks.length), p ls[i] = true → q ks[i] = true) → ls.countP p ≤ ks.countP q
  | [], [], _, _ => Nat.le_refl _
  | l :: ls, k :: ks, h, hf => by
    have ih := countP_le_get (p := p) (q := q) (ls := ls) (ks := ks) (by simpa using h) fun i hi hi' => hf (i + 1) (by simpa using hi) (by simpa using hi')
    rw [List.countP_cons, List.countP_cons]
    by_cases c : p l = true
    · have := hf 0 (by simp) (by simp) c
      simp only [List.getElem_cons_zero] at this
      rw [if_pos c, if_pos this]
      omega
    · rw [if_neg c]
      omega
/-- Wider ranges: no more loads. -/
theorem U_wider {y z : YardD} (hy : y.Ok) (hz : z.Ok) (hm : z.load = y.load) (hl : z.logs.length = y.logs.length) (h : ∀ (i : Nat) (h : i < z.logs.length) (h' : i < y.logs.length), z.logs[i].1 ≤ y.logs[i].1 ∧ y.logs[i].2 ≤ z.logs[i].2) (k : Nat) : U z k ≤ U y k := by
  refine U_le hz hy (fun a b => ?_) k
  unfold need
  rw [hm]
  refine up_mono hy.l1 ?_
  unfold cnt
  have := countP_le_get (p := inW a b) (q := inW a b) hl fun i h1 h2 h3 => by
    rw [inW_iff] at h3 ⊢
    have := h i h1 h2
    omega
  omega
/-- Fewer logs: no more loads. -/
theorem U_sub {y z : YardD} (hy : y.Ok) (hz : z.Ok) (hm : z.load = y.load) (hs : z.logs.Sublist y.logs) (k : Nat) : U z k ≤ U y k := by
  refine U_le hz hy (fun a b => ?_) k
  unfold need
  rw [hm]
  refine up_mono hy.l1 ?_
  unfold cnt
  have := hs.countP_le (p := inW a b)
  omega
theorem U_const {y : YardD} {m : Nat} (hm : ∀ l ∈ y.logs, l.2 < (m : Int)) : ∀ {h : Nat}, m ≤ h → U y h = U y m := fun {h} hh => by
  induction h with
  | zero => obtain rfl : m = 0 := by omega
            rfl
  | succ h ih =>
    by_cases e : m = h + 1
    · subst e; rfl
    · rcases U_cases y h with c | ⟨w, hw, c⟩
      · rw [c]; exact ih (by omega)
      · obtain ⟨⟨l, hl, h1⟩, _⟩ := wins_iff.1 hw
        have := hm l hl
        omega
theorem U_none {y : YardD} {m : Nat} (hm : ∀ l ∈ y.logs, (m : Int) ≤ l.1) : ∀ {h : Nat}, h ≤ m → U y h = 0 := fun {h} hh => by
  induction h with
  | zero => rfl
  | succ h ih =>
    rcases U_cases y h with c | ⟨w, hw, c⟩
    · rw [c]; exact ih (by omega)
    · obtain ⟨_, _, l, hl, h1, _⟩ := wins_iff.1 hw
      have := hm l hl
      omega
end Go.Vat

/-! The mathematics of layer 3: hours that are later; yards one behind the other; loads of one log, and of as many as there are. No marks besides the import's. -/
namespace Go.Vat

/-! ## Hours that are later -/
def shift (y : YardD) (d : Nat) : YardD := ⟨y.load, y.logs.map fun l => (l.1 + d, l.2 + d)⟩
theorem need_shift (y : YardD) (d : Nat) (a b : Int) : need (shift y d) a b = need y (a - d) (b - d) := by
  unfold need cnt
  have e : (shift y d).logs.countP (inW a b) = y.logs.countP (inW (a - d) (b - d)) := by
    simp only [shift, List.countP_map]
    congr 1
    funext l
    simp only [Function.comp, inW]
    rw [show decide (a ≤ l.1 + d) = decide (a - d ≤ l.1) from decide_eq_decide.2 (by omega), show decide (l.2 + d ≤ b) = decide (l.2 ≤ b - d) from decide_eq_decide.2 (by omega)]
  rw [e]
  rfl
theorem U_shift {y : YardD} {d : Nat} (hy : y.Ok) (hz : (shift y d).Ok) (h : Nat) : U (shift y d) (h + d) = U y h := by
  refine Int.le_antisymm ?_ ?_
  · have key : ∀ k, U (shift y d) k ≤ U y (k - d) := fun k => by
      refine U_least (fun k => U y (k - d)) (U_nonneg y _) (fun k => U_mono y (by omega)) (fun k w hw => ?_) k
      obtain ⟨_, h2, l, hl, h3, h4⟩ := wins_iff.1 hw
      obtain ⟨q, hq, rfl⟩ := List.mem_map.1 hl
      have hq1 := hy.log q hq
      simp only at h3 h4
      have hn := U_need hy (a := w.1 - d) (b := w.2 - d) (by omega) (by omega)
      rw [need_shift]
      rw [show (w.1 - (d : Int)).toNat = w.1.toNat - d by omega, show (w.2 - (d : Int) + 1).toNat = k + 1 - d by omega] at hn
      exact hn
    have := key (h + d)
    rwa [Nat.add_sub_cancel] at this
  · refine U_least (fun k => U (shift y d) (k + d)) (U_nonneg _ _) (fun k => U_mono _ (by omega)) (fun k w hw => ?_) h
    obtain ⟨_, h2, l, hl, h3, h4⟩ := wins_iff.1 hw
    have hl1 := hy.log l hl
    have hn := U_need hz (a := w.1 + d) (b := w.2 + d) (by omega) (by omega)
    rw [need_shift, show w.1 + (d : Int) - d = w.1 by omega, show w.2 + (d : Int) - d = w.2 by omega, show (w.1 + (d : Int)).toNat = w.1.toNat + d by omega, show (w.2 + (d : Int) + 1).toNat = k + 1 + d by omega] at hn
    exact hn
theorem LL_zero {F : Nat → Int} : ∀ {n : Nat}, (∀ k, k ≤ n → F k = 0) → LL F n = []
  | 0, _ => rfl
  | n + 1, h => by
    rw [LL, LL_zero fun k hk => h k (by omega), h (n + 1) (by omega), h n (by omega)]
    rfl
theorem LL_const {F : Nat → Int} {m : Nat} : ∀ {n : Nat}, m ≤ n → (∀ k, m ≤ k → k ≤ n → F k = F m) → LL F n = LL F m
  | 0, h, _ => by obtain rfl : m = 0 := by omega
                  rfl
  | n + 1, h, hF => by
    by_cases e : m = n + 1
    · subst e; rfl
    · rw [LL, LL_const (n := n) (by omega) fun k h1 h2 => hF k h1 (by omega), hF (n + 1) (by omega) (by omega), hF n (by omega) (by omega), Int.sub_self]
      simp
theorem LL_shift {F G : Nat → Int} {d : Nat} (h0 : ∀ k, k ≤ d → G k = 0) (h : ∀ k, G (k + d) = F k) : ∀ n, LL G (n + d) = (LL F n).map (· + (d : Int))
  | 0 => by rw [Nat.zero_add, LL_zero h0]; rfl
  | n + 1 => by
    rw [show n + 1 + d = (n + d) + 1 by omega, LL, LL_shift h0 h n, LL, List.map_append, List.map_replicate, h n, show n + d + 1 = (n + 1) + d by omega, h (n + 1)]
    rw [show ((n + d : Nat) : Int) = (n : Int) + (d : Int) by omega]
theorem U_empty {m : Int} (h : YardD.Ok ⟨m, []⟩) (k : Nat) : U ⟨m, []⟩ k = 0 := by
  have h1 := U_len h k
  have h2 := U_nonneg ⟨m, []⟩ k
  simp at h1
  omega
theorem lateL_shift {y : YardD} {d : Nat} (hy : y.Ok) (hz : (shift y d).Ok) : lateL (shift y d) = (lateL y).map (· + (d : Int)) := by
  unfold lateL
  by_cases e : y.logs = []
  · have ey : y = ⟨y.load, []⟩ := by rw [← e]
    have ez : shift y d = ⟨y.load, []⟩ := by unfold shift; rw [e]; rfl
    rw [ez, ey, LL_zero fun k _ => U_empty (by rw [← ey]; exact hy) k]
    rfl
  · obtain ⟨l, hl⟩ := List.exists_mem_of_ne_nil _ e
    have h1 := hz.log (l.1 + d, l.2 + d) (List.mem_map.2 ⟨l, hl, rfl⟩)
    have h2 := hy.log l hl
    simp only at h1
    have hs := LL_shift (F := U y) (G := U (shift y d)) (d := d) (fun k hk => by
      have h3 := U_mono (shift y d) hk
      have h4 := U_shift hy hz 0
      rw [Nat.zero_add, U_zero] at h4
      have h5 := U_nonneg (shift y d) k
      omega) (U_shift hy hz) (101 - d)
    rw [show 101 - d + d = 101 by omega] at hs
    rw [hs]
    have hm : ∀ q ∈ y.logs, q.2 < ((101 - d : Nat) : Int) := fun q hq => by
      have := hz.log (q.1 + d, q.2 + d) (List.mem_map.2 ⟨q, hq, rfl⟩)
      simp only at this
      omega
    rw [LL_const (F := U y) (m := 101 - d) (n := 101) (by omega) fun k h3 _ => U_const hm h3]
theorem U_later {y : YardD} {d : Nat} (hy : y.Ok) (hz : (shift y d).Ok) : U (shift y d) 101 = U y 101 := by
  have h1 := lateL_length (shift y d)
  have h2 := lateL_length y
  rw [lateL_shift hy hz, List.length_map] at h1
  omega
theorem back_shift (y : YardD) (d : Nat) : shift (back (shift y d)) d = back y := by
  obtain ⟨m, ls⟩ := y
  simp only [back, shift, List.map_map]
  congr 1
  refine List.map_congr_left fun l _ => ?_
  simp only [Function.comp]
  refine Prod.ext ?_ ?_ <;> simp only <;> omega
theorem earlyL_shift {y : YardD} {d : Nat} (hy : y.Ok) (hz : (shift y d).Ok) : earlyL (shift y d) = (earlyL y).map (· + (d : Int)) := by
  have h1 := lateL_shift (y := back (shift y d)) (d := d) (back_ok hz) (by rw [back_shift]; exact back_ok hy)
  rw [back_shift] at h1
  unfold earlyL
  rw [h1, List.map_map, List.map_reverse, List.map_map]
  refine congrArg List.reverse (List.map_congr_left fun x _ => ?_)
  simp only [Function.comp]
  omega

/-! ## Yards one behind the other -/
section
variable {y z w : YardD} {m : Nat}
theorem cnt_two (hp : w.logs.Perm (y.logs ++ z.logs)) (a b : Int) : cnt w a b = cnt y a b + cnt z a b := by
  unfold cnt
  rw [hp.countP_eq, List.countP_append]
  omega
theorem U_apart (hy : y.Ok) (hz : z.Ok) (hw : w.Ok) (e1 : w.load = y.load) (e2 : w.load = z.load) (hp : w.logs.Perm (y.logs ++ z.logs)) (ha : ∀ l ∈ y.logs, l.2 < (m : Int)) (hb : ∀ l ∈ z.logs, (m : Int) ≤ l.1) (h : Nat) : U w h = U y h + U z h := by
  refine Int.le_antisymm ?_ ?_
  · refine U_least (fun h => U y h + U z h) (by rw [U_zero, U_zero]; exact Int.le_refl _) (fun h => by have := U_step y h; have := U_step z h; show U y h + U z h ≤ U y (h + 1) + U z (h + 1); omega) (fun k v hv => ?_) h
    obtain ⟨_, h2, l, hl, h3, h4⟩ := wins_iff.1 hv
    have hl1 := hw.log l hl
    have n1 := U_need hy (a := v.1) (b := v.2) (by omega) (by omega)
    have n2 := U_need hz (a := v.1) (b := v.2) (by omega) (by omega)
    have n3 : need w v.1 v.2 ≤ need y v.1 v.2 + need z v.1 v.2 := by
      unfold need
      rw [cnt_two hp, ← e1, ← e2]
      exact up_add hw.l1
    rw [show (v.2 + 1).toNat = k + 1 by omega] at n1 n2
    show U y v.1.toNat + U z v.1.toNat + need w v.1 v.2 ≤ U y (k + 1) + U z (k + 1)
    omega
  · have q1 : ∀ k, U y k ≤ U w k := fun k => U_le hy hw (fun a b => by
      unfold need
      rw [cnt_two hp, e1]
      exact up_mono hy.l1 (by have := cnt_nonneg z a b; omega)) k
    rcases Nat.le_total h m with c | c
    · rw [U_none hb c]
      have := q1 h
      omega
    · have key : ∀ k, U z k ≤ U w (max k m) - U y m := fun k => by
        refine U_least (fun k => U w (max k m) - U y m) (by have := q1 m; simp; omega) (fun k => by have := U_mono w (a := max k m) (b := max (k + 1) m) (by omega); show U w (max k m) - U y m ≤ U w (max (k + 1) m) - U y m; omega) (fun k v hv => ?_) k
        obtain ⟨⟨l', hl', h5⟩, h2, l, hl, h3, h4⟩ := wins_iff.1 hv
        have hl1 := hb l hl
        have hl2 := hb l' hl'
        have hl3 := hz.log l' hl'
        have n1 := U_need hw (a := v.1) (b := v.2) (by omega) (by omega)
        have n2 : need z v.1 v.2 ≤ need w v.1 v.2 := by
          unfold need
          rw [cnt_two hp, e2]
          exact up_mono hz.l1 (by have := cnt_nonneg y v.1 v.2; omega)
        rw [show (v.2 + 1).toNat = k + 1 by omega] at n1
        show U w (max v.1.toNat m) - U y m + need z v.1 v.2 ≤ U w (max (k + 1) m) - U y m
        rw [show max v.1.toNat m = v.1.toNat by omega, show max (k + 1) m = k + 1 by omega]
        omega
      have h1 := key h
      rw [show max h m = h by omega] at h1
      rw [U_const ha c]
      omega
theorem LL_apart {F G : Nat → Int} (hF : ∀ k, m ≤ k → F k = F m) (hG : ∀ k, k ≤ m → G k = 0) : ∀ n, LL (fun k => F k + G k) n = LL F n ++ LL G n
  | 0 => rfl
  | n + 1 => by
    rw [LL, LL_apart hF hG n, LL, LL]
    rcases Nat.lt_or_ge n m with c | c
    · rw [LL_zero (F := G) (n := n) fun k hk => hG k (by omega), hG (n + 1) (by omega), hG n (by omega)]
      simp
    · rw [hF (n + 1) (by omega), hF n c]
      simp only [Int.sub_self, Int.toNat_zero, List.replicate_zero, List.append_nil, List.append_assoc]
      congr 3
      omega
theorem lateL_apart (hy : y.Ok) (hz : z.Ok) (hw : w.Ok) (e1 : w.load = y.load) (e2 : w.load = z.load) (hp : w.logs.Perm (y.logs ++ z.logs)) (ha : ∀ l ∈ y.logs, l.2 < (m : Int)) (hb : ∀ l ∈ z.logs, (m : Int) ≤ l.1) : lateL w = lateL y ++ lateL z := by
  unfold lateL
  rw [show U w = fun k => U y k + U z k from funext fun k => U_apart hy hz hw e1 e2 hp ha hb k]
  exact LL_apart (F := U y) (G := U z) (m := m) (fun k hk => U_const ha hk) (fun k hk => U_none hb hk) 101
theorem earlyL_apart (hy : y.Ok) (hz : z.Ok) (hw : w.Ok) (e1 : w.load = y.load) (e2 : w.load = z.load) (hp : w.logs.Perm (y.logs ++ z.logs)) (hm : m ≤ 101) (ha : ∀ l ∈ y.logs, l.2 < (m : Int)) (hb : ∀ l ∈ z.logs, (m : Int) ≤ l.1) : earlyL w = earlyL y ++ earlyL z := by
  have h := lateL_apart (y := back z) (z := back y) (w := back w) (m := 101 - m) (back_ok hz) (back_ok hy) (back_ok hw) e2 e1 ((hp.map _).trans (by rw [List.map_append]; exact List.perm_append_comm)) (fun l hl => by
    obtain ⟨q, hq, rfl⟩ := List.mem_map.1 hl
    have := hb q hq
    simp only
    omega) (fun l hl => by
    obtain ⟨q, hq, rfl⟩ := List.mem_map.1 hl
    have := ha q hq
    simp only
    omega)
  unfold earlyL
  rw [h, List.map_append, List.reverse_append]
end

/-! ## Loads of one log, and of as many as there are -/
theorem U_one {m : Int} {ls : List (Int × Int)} (h : YardD.Ok ⟨m, ls⟩) : U ⟨1, ls⟩ 101 = ls.length := by
  have h1 : YardD.Ok ⟨1, ls⟩ := ⟨Int.le_refl _, by show (1 : Int) ≤ 10; omega, h.count, h.log⟩
  have h2 := U_len h1 101
  have h3 := U_need h1 (a := 0) (b := 100) (by omega) (by omega)
  have h4 : need ⟨1, ls⟩ 0 100 = ls.length := by
    unfold need cnt
    rw [up_one, List.countP_eq_length.2]
    intro l hl
    have := h.log l hl
    rw [inW_iff]
    omega
  rw [h4] at h3
  simp only [Int.toNat_zero, U_zero] at h3
  rw [show ((100 : Int) + 1).toNat = 101 from rfl] at h3
  simp only at h2
  omega
/-- How many logs there are of which no two have a common hour, among those that end before an hour, and when the last of them ends. -/
def manyS (ls : List (Int × Int)) : Nat → Int × Int
  | 0 => (0, -1)
  | h + 1 => if ls.any (fun l => decide (l.2 = (h : Int)) && decide (l.1 > (manyS ls h).2)) = true then ((manyS ls h).1 + 1, (h : Int)) else manyS ls h
theorem need_ten {ls : List (Int × Int)} (h : YardD.Ok ⟨10, ls⟩) (a b : Int) : need ⟨10, ls⟩ a b = 0 ∧ (∀ l ∈ ls, ¬ (a ≤ l.1 ∧ l.2 ≤ b)) ∨ need ⟨10, ls⟩ a b = 1 ∧ ∃ l ∈ ls, a ≤ l.1 ∧ l.2 ≤ b := by
  have hc := cnt_len ⟨10, ls⟩ a b
  have hn := cnt_nonneg ⟨10, ls⟩ a b
  have h10 := h.count
  simp only at hc h10
  by_cases c : ∃ l ∈ ls, a ≤ l.1 ∧ l.2 ≤ b
  · right
    refine ⟨?_, c⟩
    have hp : 0 < (ls.countP (inW a b)) := List.countP_pos_iff.2 (let ⟨l, hl, h1⟩ := c; ⟨l, hl, inW_iff.2 h1⟩)
    have e1 := up_pos (n := cnt ⟨10, ls⟩ a b) (m := 10) (by omega) (by unfold cnt; simp only; omega)
    have e2 := (up_le_iff (n := cnt ⟨10, ls⟩ a b) (m := 10) (k := 1) (by omega)).2 (by omega)
    unfold need
    simp only
    omega
  · left
    have hq : ∀ l ∈ ls, ¬ (a ≤ l.1 ∧ l.2 ≤ b) := fun l hl h1 => c ⟨l, hl, h1⟩
    refine ⟨?_, hq⟩
    have e : cnt ⟨10, ls⟩ a b = 0 := by
      unfold cnt
      rw [List.countP_eq_zero.2]
      · rfl
      · intro l hl h1
        exact hq l hl (inW_iff.1 h1)
    unfold need
    rw [e]
    exact up_zero (by show (1 : Int) ≤ 10; omega)
theorem U_ten {ls : List (Int × Int)} (h : YardD.Ok ⟨10, ls⟩) : ∀ k : Nat, U ⟨10, ls⟩ k = (manyS ls k).1 ∧ -1 ≤ (manyS ls k).2 ∧ (manyS ls k).2 < k ∧ U ⟨10, ls⟩ ((manyS ls k).2 + 1).toNat = (manyS ls k).1 ∧ ((manyS ls k).2 = -1 ∨ U ⟨10, ls⟩ (manyS ls k).2.toNat = (manyS ls k).1 - 1) ∧ ∀ l ∈ ls, l.2 < k → l.1 ≤ (manyS ls k).2
  | 0 => ⟨rfl, by simp [manyS], by simp [manyS], rfl, .inl rfl, fun l hl h1 => by have := h.log l hl; omega⟩
  | k + 1 => by
    obtain ⟨h1, h2, h3, h4, h5, h6⟩ := U_ten h k
    have hs := U_step ⟨10, ls⟩ k
    rw [manyS]
    split
    · rename_i c
      obtain ⟨l, hl, hc⟩ := List.any_eq_true.1 c
      simp only [Bool.and_eq_true, decide_eq_true_eq] at hc
      have hlo := h.log l hl
      have n1 := U_need h (a := l.1) (b := l.2) (by omega) (by omega)
      have n2 : need ⟨10, ls⟩ l.1 l.2 = 1 := by
        rcases need_ten h l.1 l.2 with ⟨_, q⟩ | ⟨q, _⟩
        · exact absurd ⟨Int.le_refl _, Int.le_refl _⟩ (q l hl)
        · exact q
      have n3 := U_mono ⟨10, ls⟩ (a := ((manyS ls k).2 + 1).toNat) (b := l.1.toNat) (by omega)
      rw [show (l.2 + 1).toNat = k + 1 by omega] at n1
      have hu : U ⟨10, ls⟩ (k + 1) = (manyS ls k).1 + 1 := by
        rcases U_cases ⟨10, ls⟩ k with e | ⟨w, hw, e⟩
        · omega
        · obtain ⟨_, g2, q, hq, g3, g4⟩ := wins_iff.1 hw
          have hq1 := h.log q hq
          have := U_mono ⟨10, ls⟩ (a := w.1.toNat) (b := k) (by omega)
          rcases need_ten h w.1 w.2 with ⟨g, _⟩ | ⟨g, _⟩ <;> omega
      refine ⟨hu, by show (-1 : Int) ≤ k; omega, by show (k : Int) < ((k + 1 : Nat) : Int); omega, ?_, .inr ?_, fun q hq hq2 => ?_⟩
      · show U ⟨10, ls⟩ ((k : Int) + 1).toNat = _
        rw [show ((k : Int) + 1).toNat = k + 1 by omega]
        exact hu
      · show U ⟨10, ls⟩ (k : Int).toNat = (manyS ls k).1 + 1 - 1
        rw [Int.toNat_natCast]
        omega
      · have := h.log q hq
        show q.1 ≤ (k : Int)
        omega
    · rename_i c
      have hno : ∀ l ∈ ls, l.2 = (k : Int) → l.1 ≤ (manyS ls k).2 := fun l hl e => by
        rcases Int.lt_or_le (manyS ls k).2 l.1 with g | g
        · exact absurd (List.any_eq_true.2 ⟨l, hl, by simp only [Bool.and_eq_true, decide_eq_true_eq]; exact ⟨e, g⟩⟩) c
        · exact g
      refine ⟨?_, h2, by omega, h4, h5, fun l hl hl2 => ?_⟩
      · rcases U_cases ⟨10, ls⟩ k with e | ⟨w, hw, e⟩
        · omega
        · obtain ⟨_, g2, q, hq, g3, g4⟩ := wins_iff.1 hw
          have hq1 := h.log q hq
          have hm := U_mono ⟨10, ls⟩ (a := w.1.toNat) (b := k) (by omega)
          rcases need_ten h w.1 w.2 with ⟨g, _⟩ | ⟨g, l, hl, g5, g6⟩
          · omega
          · have hl0 := h.log l hl
            by_cases hk : l.2 = (k : Int)
            · have g7 := hno l hl hk
              have hm2 := U_mono ⟨10, ls⟩ (a := w.1.toNat) (b := (manyS ls k).2.toNat) (by omega)
              rcases h5 with g8 | g8
              · omega
              · omega
            · have n1 := U_need h (a := w.1) (b := (k : Int) - 1) (by omega) (by omega)
              have n2 : need ⟨10, ls⟩ w.1 ((k : Int) - 1) = 1 := by
                rcases need_ten h w.1 ((k : Int) - 1) with ⟨_, q⟩ | ⟨q, _⟩
                · exact absurd ⟨g5, by omega⟩ (q l hl)
                · exact q
              rw [show ((k : Int) - 1 + 1).toNat = k by omega] at n1
              omega
      · by_cases hk : l.2 = (k : Int)
        · exact hno l hl hk
        · exact h6 l hl (by omega)
end Go.Vat

/-! The longest lists that are right, the first one of them; loads in order that are enough. No marks besides the import's. -/
namespace Go.Vat

/-! ## The longest lists -/
def lng (ok : List Nat → Bool) (N : Nat) : Nat → List Nat → List Nat → List Nat
  | 0, _, best => best
  | m + 1, begun, best =>
    if begun.length + (m + 1) ≤ best.length ∨ ok (begun ++ [N - (m + 1)]) = false then lng ok N m begun best
    else lng ok N m begun (if best.length < (lng ok N m (begun ++ [N - (m + 1)]) (begun ++ [N - (m + 1)])).length then lng ok N m (begun ++ [N - (m + 1)]) (begun ++ [N - (m + 1)]) else best)
theorem lng_skip {ok : List Nat → Bool} {N m : Nat} {begun best : List Nat} (h : begun.length + (m + 1) ≤ best.length ∨ ok (begun ++ [N - (m + 1)]) = false) : lng ok N (m + 1) begun best = lng ok N m begun best := by
  rw [lng, if_pos h]
theorem lng_take {ok : List Nat → Bool} {N m : Nat} {begun best : List Nat} (h1 : best.length < begun.length + (m + 1)) (h2 : ok (begun ++ [N - (m + 1)]) = true) : lng ok N (m + 1) begun best = lng ok N m begun (if best.length < (lng ok N m (begun ++ [N - (m + 1)]) (begun ++ [N - (m + 1)])).length then lng ok N m (begun ++ [N - (m + 1)]) (begun ++ [N - (m + 1)]) else best) := by
  rw [lng, if_neg (by rw [h2]; simp; omega)]
theorem lng_done {ok : List Nat → Bool} {N : Nat} : ∀ {m : Nat} {begun best : List Nat}, begun.length + m ≤ best.length → lng ok N m begun best = best
  | 0, _, _, _ => rfl
  | m + 1, begun, best, h => by rw [lng_skip (.inl h)]; exact lng_done (by omega)
theorem lng_ge {ok : List Nat → Bool} {N : Nat} : ∀ (m : Nat) (begun best : List Nat), best.length ≤ (lng ok N m begun best).length
  | 0, _, _ => Nat.le_refl _
  | m + 1, begun, best => by
    rw [lng]
    split
    · exact lng_ge m begun best
    · refine Nat.le_trans ?_ (lng_ge m begun _)
      split <;> omega
structure GoodL (ok : List Nat → Bool) (N : Nat) (l : List Nat) : Prop where
  inc : l.Pairwise (· < ·)
  lt : ∀ x ∈ l, x < N
  ok : l = [] ∨ ok l = true
theorem snoc_inc {l : List Nat} {n : Nat} (h : l.Pairwise (· < ·)) (hl : ∀ x ∈ l, x < n) : (l ++ [n]).Pairwise (· < ·) := by
  rw [List.pairwise_append]
  exact ⟨h, List.pairwise_singleton _ _, fun a ha b hb => by rw [List.mem_singleton.1 hb]; exact hl a ha⟩
theorem lng_good {ok : List Nat → Bool} {N : Nat} : ∀ {m : Nat} {begun best : List Nat}, m ≤ N → begun.Pairwise (· < ·) → (∀ x ∈ begun, x < N - m) → GoodL ok N best → GoodL ok N (lng ok N m begun best)
  | 0, _, _, _, _, _, h => h
  | m + 1, begun, best, hm, h1, h2, h => by
    have h3 : ∀ x ∈ begun, x < N - m := fun x hx => by have := h2 x hx; omega
    rw [lng]
    split
    · exact lng_good (by omega) h1 h3 h
    · rename_i c
      have hi := snoc_inc h1 h2
      have hl : ∀ x ∈ begun ++ [N - (m + 1)], x < N - m := fun x hx => by
        rcases List.mem_append.1 hx with hx | hx
        · exact h3 x hx
        · rw [List.mem_singleton.1 hx]; omega
      have hg : GoodL ok N (begun ++ [N - (m + 1)]) := ⟨hi, fun x hx => by have := hl x hx; omega, .inr (by
        cases e : ok (begun ++ [N - (m + 1)]) with
        | true => rfl
        | false => exact absurd (.inr e) c)⟩
      refine lng_good (by omega) h1 h3 ?_
      split
      · exact lng_good (by omega) hi hl hg
      · exact h
theorem inc_len : ∀ {t : List Nat} {a b : Nat}, t.Pairwise (· < ·) → (∀ x ∈ t, a ≤ x ∧ x < b) → t.length ≤ b - a
  | [], _, _, _, _ => Nat.zero_le _
  | x :: t, a, b, h, hr => by
    rw [List.pairwise_cons] at h
    have h1 := inc_len (a := x + 1) (b := b) h.2 fun z hz => ⟨h.1 z hz, (hr z (List.mem_cons_of_mem _ hz)).2⟩
    have h2 := hr x List.mem_cons_self
    rw [List.length_cons]
    omega
theorem lng_max {ok : List Nat → Bool} {N : Nat} : ∀ {m : Nat} {begun best t : List Nat}, m ≤ N → t.Pairwise (· < ·) → (∀ x ∈ t, N - m ≤ x ∧ x < N) → (∀ p, p <+: t → p ≠ [] → ok (begun ++ p) = true) → begun.length ≤ best.length → begun.length + t.length ≤ (lng ok N m begun best).length
  | 0, begun, best, t, _, ht, hr, _, hb => by
    have h1 := inc_len (a := N) (b := N) ht fun x hx => by have := hr x hx; omega
    rw [lng]
    omega
  | m + 1, begun, best, t, hm, ht, hr, hp, hb => by
    by_cases hf : ∃ t', t = (N - (m + 1)) :: t'
    · obtain ⟨t', rfl⟩ := hf
      have hok : ok (begun ++ [N - (m + 1)]) = true := hp [N - (m + 1)] ⟨t', rfl⟩ (by simp)
      have hlen := inc_len (a := N - (m + 1)) (b := N) ht hr
      rw [List.pairwise_cons] at ht
      by_cases hc : begun.length + (m + 1) ≤ best.length
      · rw [lng_skip (.inl hc)]
        have := lng_ge (ok := ok) (N := N) m begun best
        omega
      · rw [lng_take (by omega) hok]
        have ih := lng_max (ok := ok) (N := N) (m := m) (begun := begun ++ [N - (m + 1)]) (best := begun ++ [N - (m + 1)]) (t := t') (by omega) ht.2 (fun x hx => ⟨by have := ht.1 x hx; omega, (hr x (List.mem_cons_of_mem _ hx)).2⟩) (fun p hpt hne => by
          rw [List.append_assoc]
          exact hp _ (by simpa using hpt) (by simp)) (Nat.le_refl _)
        rw [List.length_append, List.length_singleton] at ih
        rw [List.length_cons]
        refine Nat.le_trans ?_ (lng_ge m begun _)
        split <;> omega
    · have hr' : ∀ x ∈ t, N - m ≤ x ∧ x < N := fun x hx => by
        have h1 := hr x hx
        refine ⟨?_, h1.2⟩
        rcases Nat.lt_or_ge x (N - m) with c | c
        · exfalso
          cases t with
          | nil => cases hx
          | cons z t' =>
            have h2 := hr z List.mem_cons_self
            have hz : z ≤ x := by
              rcases List.mem_cons.1 hx with rfl | hx'
              · exact Nat.le_refl _
              · exact Nat.le_of_lt ((List.pairwise_cons.1 ht).1 x hx')
            exact hf ⟨t', by rw [show z = N - (m + 1) by omega]⟩
        · exact c
      rw [lng]
      split
      · exact lng_max (by omega) ht hr' hp hb
      · refine lng_max (by omega) ht hr' hp ?_
        split <;> omega
theorem inc_full : ∀ {l : List Nat} {a n : Nat}, l.Pairwise (· < ·) → (∀ x ∈ l, a ≤ x ∧ x < a + n) → l.length = n → l = List.range' a n
  | [], a, n, _, _, h => by
    obtain rfl : n = 0 := by simpa using h.symm
    rfl
  | x :: l, a, n, h, hr, hl => by
    obtain ⟨n, rfl⟩ : ∃ n', n = n' + 1 := ⟨n - 1, by simp at hl; omega⟩
    have h1 := List.pairwise_cons.1 h
    have hx := hr x List.mem_cons_self
    have h2 := inc_len (a := x + 1) (b := a + (n + 1)) h1.2 fun z hz => ⟨h1.1 z hz, (hr z (List.mem_cons_of_mem _ hz)).2⟩
    rw [List.length_cons] at hl
    obtain rfl : x = a := by omega
    rw [List.range'_succ, inc_full (a := x + 1) (n := n) h1.2 (fun z hz => ⟨h1.1 z hz, by have := (hr z (List.mem_cons_of_mem _ hz)).2; omega⟩) (by omega)]

/-! ## Loads in order: each one takes the logs that end first, of those that it can take -/
/-- A load at an hour before which there is no room: none can be taken. -/
theorem hall_none {f : Nat → Int} {ls : List (Int × Int)} {t : Nat} (h : Hall f ls) (hok : ∀ l ∈ ls, 0 ≤ l.1 ∧ l.1 ≤ l.2) (h0 : ∀ j, j < t → f j = 0) (ht : 0 < f t) (hno : ∀ l ∈ ls, ¬ (l.1 ≤ t ∧ (t : Int) ≤ l.2)) : Hall (less1 f t) ls := by
  have hnn : ∀ j, 0 ≤ less1 f t j := fun j => by
    unfold less1
    have := h.1 j
    split
    · rename_i e; subst e; omega
    · exact this
  have hlate : ∀ l ∈ ls, (t : Int) < l.1 := fun l hl => by
    have h1 := hok l hl
    rcases Int.lt_or_le (t : Int) l.1 with c | c
    · exact c
    · exfalso
      have h2 : l.2 < t := by
        have := hno l hl
        omega
      have h3 := h.2 l.1.toNat (l.2 - l.1 + 1).toNat
      rw [psum_zero fun j h4 h5 => h0 j (by omega)] at h3
      have h4 : 0 < ls.countP (inW (l.1.toNat : Nat) (((l.1.toNat : Nat) : Int) + ((l.2 - l.1 + 1).toNat : Nat) - 1)) := List.countP_pos_iff.2 ⟨l, hl, inW_iff.2 (by omega)⟩
      omega
  refine ⟨hnn, fun a n => ?_⟩
  rw [psum_less]
  split
  · rename_i c
    have h5 := h.2 (t + 1) (a + n - (t + 1))
    have h6 : ls.countP (inW a ((a : Int) + n - 1)) ≤ ls.countP (inW ((t + 1 : Nat) : Int) (((t + 1 : Nat) : Int) + ((a + n - (t + 1) : Nat) : Int) - 1)) := List.countP_mono_left fun l hl hw => by
      rw [inW_iff] at hw ⊢
      have := hlate l hl
      omega
    have h7 := psum_add f a (t - a + 1) (a + n - (t + 1))
    rw [show t - a + 1 + (a + n - (t + 1)) = n by omega, show a + (t - a + 1) = t + 1 by omega] at h7
    have h8 : psum f a (t - a + 1) = psum f a (t - a) + f t := by rw [psum, show a + (t - a) = t by omega]
    have h9 := psum_nonneg h.1 a (t - a)
    omega
  · have := h.2 a n
    omega
theorem hall_take {f : Nat → Int} {l : Int × Int} {ls : List (Int × Int)} {t : Nat} (h : Hall f (l :: ls)) (hok : ∀ q ∈ l :: ls, 0 ≤ q.1 ∧ q.1 ≤ q.2) (h0 : ∀ j, j < t → f j = 0) (ht : 0 < f t) (hl : l.1 ≤ t ∧ (t : Int) ≤ l.2) (hmin : ∀ q ∈ ls, q.1 ≤ t → (t : Int) ≤ q.2 → l.2 ≤ q.2) : Hall (less1 f t) ls := by
  have hnn : ∀ j, 0 ≤ less1 f t j := fun j => by
    unfold less1
    have := h.1 j
    split
    · rename_i e; subst e; omega
    · exact this
  have hl0 := hok l List.mem_cons_self
  refine ⟨hnn, fun a n => ?_⟩
  have hc := h.2 a n
  rw [List.countP_cons] at hc
  rw [psum_less]
  split
  · rename_i c
    by_cases c1 : inW (a : Int) ((a : Int) + n - 1) l = true
    · rw [if_pos c1] at hc
      omega
    · rw [inW_iff] at c1
      by_cases c2 : l.2 ≤ (a : Int) + n - 1
      · -- it begins before the window: what is before t is empty
        have h3 := h.2 l.1.toNat (a + n - l.1.toNat)
        rw [List.countP_cons, if_pos (by rw [inW_iff]; omega)] at h3
        have h4 := psum_add f l.1.toNat (a - l.1.toNat) n
        rw [show l.1.toNat + (a - l.1.toNat) = a by omega, show a - l.1.toNat + n = a + n - l.1.toNat by omega, psum_zero (n := a - l.1.toNat) (fun j h5 h6 => h0 j (by omega))] at h4
        have h5 : ls.countP (inW a ((a : Int) + n - 1)) ≤ ls.countP (inW l.1.toNat (((l.1.toNat : Nat) : Int) + ((a + n - l.1.toNat : Nat) : Int) - 1)) := List.countP_mono_left fun k _ hk => by
          rw [inW_iff] at hk ⊢
          omega
        omega
      · -- it ends behind the window: those within it begin behind t
        have hlate : ∀ q ∈ ls, inW (a : Int) ((a : Int) + n - 1) q = true → (t : Int) < q.1 := fun q hq hw => by
          rw [inW_iff] at hw
          have h1 := hok q (List.mem_cons_of_mem _ hq)
          rcases Int.lt_or_le (t : Int) q.1 with c3 | c3
          · exact c3
          · exfalso
            rcases Int.lt_or_le q.2 (t : Int) with c4 | c4
            · have h3 := h.2 q.1.toNat (q.2 - q.1 + 1).toNat
              rw [psum_zero fun j h4 h5 => h0 j (by omega)] at h3
              have h4 : 0 < (l :: ls).countP (inW (q.1.toNat : Nat) (((q.1.toNat : Nat) : Int) + ((q.2 - q.1 + 1).toNat : Nat) - 1)) := List.countP_pos_iff.2 ⟨q, List.mem_cons_of_mem _ hq, inW_iff.2 (by omega)⟩
              omega
            · have := hmin q hq c3 c4
              omega
        have h5 := h.2 (t + 1) (a + n - (t + 1))
        rw [List.countP_cons] at h5
        have h6 : ls.countP (inW a ((a : Int) + n - 1)) ≤ ls.countP (inW ((t + 1 : Nat) : Int) (((t + 1 : Nat) : Int) + ((a + n - (t + 1) : Nat) : Int) - 1)) := List.countP_mono_left fun q hq hw => by
          have h7 := hlate q hq hw
          rw [inW_iff] at hw ⊢
          omega
        have h7 := psum_add f a (t - a + 1) (a + n - (t + 1))
        rw [show t - a + 1 + (a + n - (t + 1)) = n by omega, show a + (t - a + 1) = t + 1 by omega] at h7
        have h8 : psum f a (t - a + 1) = psum f a (t - a) + f t := by rw [psum, show a + (t - a) = t by omega]
        have h9 := psum_nonneg h.1 a (t - a)
        split at h5 <;> omega
  · split at hc <;> omega
/-- What is left when all room is spent: nothing. -/
theorem hall_end {f : Nat → Int} {ls : List (Int × Int)} (h : Hall f ls) (hok : ∀ l ∈ ls, 0 ≤ l.1 ∧ l.1 ≤ l.2) (h0 : ∀ j, f j = 0) : ls = [] := by
  cases ls with
  | nil => rfl
  | cons l ls =>
    exfalso
    have h1 := hok l List.mem_cons_self
    have h2 := h.2 l.1.toNat (l.2 - l.1 + 1).toNat
    rw [List.countP_cons, if_pos (by rw [inW_iff]; omega), psum_zero fun j _ _ => h0 j] at h2
    omega
end Go.Vat

/-! Loads in order that are enough: each takes the logs that have to be steamed first, of those that can be. No marks besides the import's. -/
namespace Go.Vat

/-! ## Rooms by loads -/
theorem perm_hall {f : Nat → Int} {a b : List (Int × Int)} (h : Hall f a) (hp : a.Perm b) : Hall f b :=
  ⟨h.1, fun x n => by rw [← hp.countP_eq]; exact h.2 x n⟩
theorem psum_F {f F : Nat → Int} {m : Int} (hf : ∀ j, f j = m * (F (j + 1) - F j)) (a : Nat) : ∀ n, psum f a n = m * (F (a + n) - F a)
  | 0 => by simp [psum]
  | n + 1 => by
    rw [psum, psum_F hf a n, hf, ← Int.mul_add]
    congr 1
    rw [Nat.add_assoc]
    omega
theorem hall_F {y : YardD} (hy : y.Ok) {f F : Nat → Int} (hf : ∀ j, f j = y.load * (F (j + 1) - F j)) (hm : ∀ j, F j ≤ F (j + 1)) (hn : ∀ a n : Nat, need y a ((a : Int) + n - 1) ≤ F (a + n) - F a) : Hall f y.logs := by
  refine ⟨fun j => ?_, fun a n => ?_⟩
  · rw [hf]
    exact Int.mul_nonneg (by have := hy.l1; omega) (by have := hm j; omega)
  · rw [psum_F hf]
    have h1 := le_up_mul (n := cnt y a ((a : Int) + n - 1)) hy.l1
    have h2 := Int.mul_le_mul_of_nonneg_right (hn a n) (show 0 ≤ y.load by have := hy.l1; omega)
    rw [Int.mul_comm y.load]
    exact Int.le_trans h1 h2
theorem LL_cnt {F : Nat → Int} (hm : ∀ h, F h ≤ F (h + 1)) : ∀ (n h : Nat), ((LL F n).count (h : Int) : Int) = if h < n then F (h + 1) - F h else 0
  | 0, h => by simp [LL]
  | n + 1, h => by
    have := hm n
    rw [LL, List.count_append, Int.natCast_add, LL_cnt hm n h, List.count_replicate]
    by_cases e : h = n
    · subst e
      rw [if_neg (Nat.lt_irrefl _), if_pos (by simp), if_pos (by omega)]
      omega
    · rw [if_neg (show ¬ ((n : Int) == (h : Int)) = true by rw [beq_iff_eq]; omega)]
      by_cases c : h < n
      · rw [if_pos c, if_pos (by omega)]; simp
      · rw [if_neg c, if_neg (by omega)]; simp
theorem count_sub (a j : Int) : ∀ l : List Int, (l.map fun h => a - h).count j = l.count (a - j)
  | [] => rfl
  | x :: l => by
    rw [List.map_cons, List.count_cons, List.count_cons, count_sub a j l]
    congr 1
    by_cases e : x = a - j
    · rw [if_pos (by rw [beq_iff_eq]; omega), if_pos (by rw [beq_iff_eq]; exact e)]
    · rw [if_neg (by rw [beq_iff_eq]; omega), if_neg (by rw [beq_iff_eq]; exact e)]
/-- how much room there is in some loads -/
def fL (m : Int) (L : List Int) (j : Nat) : Int := m * (L.count (j : Int) : Int)
theorem U_top {y : YardD} (hy : y.Ok) {h : Nat} (hh : 101 ≤ h) : U y h = U y 101 :=
  U_const (m := 101) (fun l hl => by have := hy.log l hl; omega) hh
theorem hall_late {y : YardD} (hy : y.Ok) : Hall (fL y.load (lateL y)) y.logs := by
  refine hall_F hy (F := U y) (fun j => ?_) (U_step y) (fun a n => ?_)
  · unfold fL lateL
    rw [LL_cnt (U_step y)]
    split
    · rfl
    · rw [U_top hy (h := j + 1) (by omega), U_top hy (h := j) (by omega), Int.sub_self]
  · have := U_need hy (a := (a : Int)) (b := (a : Int) + n - 1) (by omega) (by omega)
    rw [show (a : Int).toNat = a by omega, show ((a : Int) + n - 1 + 1).toNat = a + n by omega] at this
    omega
theorem need_early {y : YardD} (hy : y.Ok) (a n : Nat) : need y a ((a : Int) + n - 1) ≤ U (back y) (101 - a) - U (back y) (101 - (a + n)) := by
  have h := U_need (back_ok hy) (a := ((101 - (a + n) : Nat) : Int)) (b := 100 - ((min a 101 : Nat) : Int)) (by omega) (by omega)
  rw [need_back] at h
  have l : need y a ((a : Int) + n - 1) ≤ need y (100 - (100 - ((min a 101 : Nat) : Int))) (100 - ((101 - (a + n) : Nat) : Int)) := need_le hy.l1 (fun l hl h1 h2 => by have := hy.log l hl; omega)
  rw [show ((101 - (a + n) : Nat) : Int).toNat = 101 - (a + n) by omega, show (100 - ((min a 101 : Nat) : Int) + 1).toNat = 101 - a by omega] at h
  omega
theorem count_early (y : YardD) {j : Nat} (hj : j ≤ 100) : (earlyL y).count (j : Int) = (lateL (back y)).count ((100 - j : Nat) : Int) := by
  unfold earlyL
  rw [List.count_reverse]
  rw [count_sub, show ((100 - j : Nat) : Int) = 100 - (j : Int) by omega]
theorem hall_early {y : YardD} (hy : y.Ok) : Hall (fL y.load (earlyL y)) y.logs := by
  refine hall_F hy (F := fun h => U y 101 - U (back y) (101 - h)) (fun j => ?_) (fun j => ?_) (fun a n => ?_)
  · unfold fL
    by_cases c : j ≤ 100
    · rw [count_early y c]
      unfold lateL
      rw [LL_cnt (U_step _), if_pos (by omega), show 100 - j + 1 = 101 - j by omega, show 101 - (j + 1) = 100 - j by omega]
      congr 1
      omega
    · have h0 : (earlyL y).count (j : Int) = 0 := by
        rw [List.count_eq_zero]
        intro hm
        obtain ⟨i, hi, e⟩ := List.getElem_of_mem hm
        have := earlyL_bd hi
        omega
      rw [h0, show 101 - (j + 1) = 0 by omega, show 101 - j = 0 by omega, Int.sub_self]
      rfl
  · have := U_mono (back y) (show 101 - (j + 1) ≤ 101 - j by omega)
    omega
  · have := need_early hy a n
    omega

/-! ## What is left -/
def leftN (D : Nat → Int) (n : Nat) : List Nat := (List.range n).filter fun i => decide (D i = 0)
def leftL (D : Nat → Int) (ls : List (Int × Int)) : List (Int × Int) := (leftN D ls.length).map fun i => ls.getD i (0, 0)
theorem leftN_upd {D : Nat → Int} {n b : Nat} (hb : b < n) (h0 : D b = 0) (v : Int) (hv : v ≠ 0) : (leftN D n).Perm (b :: leftN (fun j => if j = b then v else D j) n) := by
  have hm : b ∈ leftN D n := List.mem_filter.2 ⟨List.mem_range.2 hb, decide_eq_true h0⟩
  have hnd : (leftN D n).Nodup := List.Pairwise.filter _ List.nodup_range
  have e : leftN (fun j => if j = b then v else D j) n = (leftN D n).erase b := by
    rw [hnd.erase_eq_filter]
    unfold leftN
    rw [List.filter_filter]
    refine List.filter_congr fun i _ => ?_
    by_cases c : i = b
    · subst c; simp [hv]
    · simp [c]
  rw [e]
  exact List.perm_cons_erase hm
theorem leftL_upd {D : Nat → Int} {ls : List (Int × Int)} {b : Nat} (hb : b < ls.length) (h0 : D b = 0) (v : Int) (hv : v ≠ 0) : (leftL D ls).Perm (ls[b] :: leftL (fun j => if j = b then v else D j) ls) := by
  have h := (leftN_upd hb h0 v hv).map fun i => ls.getD i (0, 0)
  rw [List.map_cons] at h
  have e : ls.getD b (0, 0) = ls[b] := by rw [List.getD_eq_getElem?_getD, List.getElem?_eq_getElem hb]; rfl
  rw [e] at h
  exact h
theorem mem_leftL {D : Nat → Int} {ls : List (Int × Int)} {q : Int × Int} (h : q ∈ leftL D ls) : ∃ i, ∃ hi : i < ls.length, D i = 0 ∧ q = ls[i] := by
  obtain ⟨i, hi, e⟩ := List.mem_map.1 h
  obtain ⟨h1, h2⟩ := List.mem_filter.1 hi
  have hlt := List.mem_range.1 h1
  refine ⟨i, hlt, of_decide_eq_true h2, ?_⟩
  rw [← e, List.getD_eq_getElem?_getD, List.getElem?_eq_getElem hlt]; rfl
theorem leftL_zero (ls : List (Int × Int)) : leftL (fun _ => 0) ls = ls := by
  have e : leftN (fun _ => 0) ls.length = List.range ls.length := List.filter_eq_self.2 fun _ _ => rfl
  unfold leftL
  rw [e]
  refine List.ext_getElem (by simp) fun i h1 h2 => ?_
  simp only [List.getElem_map, List.getElem_range]
  rw [List.getD_eq_getElem?_getD, List.getElem?_eq_getElem h2]; rfl

/-! ## The one that has to be steamed first -/
def avail (D : Nat → Int) (ls : List (Int × Int)) (t : Int) (j : Nat) : Prop := D j = 0 ∧ (ls.getD j (0, 0)).1 ≤ t ∧ t ≤ (ls.getD j (0, 0)).2
def Pick (D : Nat → Int) (ls : List (Int × Int)) (t : Int) (i : Nat) (b : Int) : Prop :=
  (b = -1 ∧ ∀ j, j < i → ¬ avail D ls t j) ∨ ∃ k : Nat, k < i ∧ b = k ∧ avail D ls t k ∧ ∀ j, j < i → avail D ls t j → (ls.getD k (0, 0)).2 ≤ (ls.getD j (0, 0)).2
theorem Pick.zero (D : Nat → Int) (ls : List (Int × Int)) (t : Int) : Pick D ls t 0 (-1) := Or.inl ⟨rfl, fun _ h => absurd h (Nat.not_lt_zero _)⟩
theorem Pick.skip {D : Nat → Int} {ls : List (Int × Int)} {t b : Int} {i : Nat} (h : Pick D ls t i b) (hn : avail D ls t i → ∃ k : Nat, b = k ∧ (ls.getD k (0, 0)).2 ≤ (ls.getD i (0, 0)).2) : Pick D ls t (i + 1) b := by
  rcases h with ⟨rfl, h⟩ | ⟨k, hk, rfl, ha, h⟩
  · refine Or.inl ⟨rfl, fun j hj ha => ?_⟩
    by_cases e : j = i
    · subst e
      obtain ⟨k, e, _⟩ := hn ha
      omega
    · exact h j (by omega) ha
  · refine Or.inr ⟨k, by omega, rfl, ha, fun j hj ha' => ?_⟩
    by_cases e : j = i
    · subst e
      obtain ⟨k', e, h2⟩ := hn ha'
      obtain rfl : k = k' := by omega
      exact h2
    · exact h j (by omega) ha'
theorem Pick.take {D : Nat → Int} {ls : List (Int × Int)} {t b : Int} {i : Nat} (h : Pick D ls t i b) (ha : avail D ls t i) (hn : b = -1 ∨ ∃ k : Nat, b = k ∧ (ls.getD i (0, 0)).2 ≤ (ls.getD k (0, 0)).2) : Pick D ls t (i + 1) (i : Int) := by
  refine Or.inr ⟨i, by omega, rfl, ha, fun j hj ha' => ?_⟩
  by_cases e : j = i
  · subst e; exact Int.le_refl _
  rcases h with ⟨rfl, h⟩ | ⟨k, hk, rfl, hak, h⟩
  · exact absurd ha' (h j (by omega))
  · rcases hn with e2 | ⟨k', e2, h2⟩
    · omega
    · obtain rfl : k = k' := by omega
      exact Int.le_trans h2 (h j (by omega) ha')

/-! ## Room that is left in the midst of a load -/
def roomAt (m : Int) (L : List Int) (k : Nat) (t : Nat) (n : Int) (j : Nat) : Int := fL m (L.drop k) j - if j = t then n else 0
theorem roomAt_zero (m : Int) (L : List Int) (k t : Nat) : roomAt m L k t 0 = fL m (L.drop k) := by
  funext j
  unfold roomAt
  split <;> omega
theorem roomAt_next (m : Int) (L : List Int) (k t : Nat) (n : Int) : less1 (roomAt m L k t n) t = roomAt m L k t (n + 1) := by
  funext j
  unfold less1 roomAt
  split <;> omega
theorem roomAt_end {m : Int} {L : List Int} {k t : Nat} (hk : k < L.length) (ht : L[k] = (t : Int)) : roomAt m L k t m = fL m (L.drop (k + 1)) := by
  funext j
  unfold roomAt fL
  rw [List.drop_eq_getElem_cons hk, List.count_cons, ht]
  by_cases e : j = t
  · subst e
    simp only [beq_self_eq_true, if_true, Int.natCast_add, Int.mul_add]
    simp
  · rw [if_neg e, if_neg (by simp; omega)]
    simp
theorem roomAt_pos {m : Int} {L : List Int} {k t : Nat} {n : Int} (hk : k < L.length) (ht : L[k] = (t : Int)) (hm : 1 ≤ m) (hn : n < m) : 0 < roomAt m L k t n t := by
  unfold roomAt fL
  rw [if_pos rfl, List.drop_eq_getElem_cons hk, List.count_cons, ht]
  simp only [beq_self_eq_true, if_true, Int.natCast_add, Int.mul_add]
  have : 0 ≤ m * ((List.drop (k + 1) L).count (t : Int) : Int) := Int.mul_nonneg (by omega) (Int.natCast_nonneg _)
  simp
  omega
theorem roomAt_low {m : Int} {L : List Int} {k t : Nat} {n : Int} (hk : k < L.length) (ht : L[k] = (t : Int)) (hs : ∀ i j (hij : i ≤ j) (h : j < L.length), L[i]'(Nat.lt_of_le_of_lt hij h) ≤ L[j]'h) (j : Nat) (hj : j < t) : roomAt m L k t n j = 0 := by
  unfold roomAt fL
  rw [if_neg (by omega)]
  have : (L.drop k).count (j : Int) = 0 := by
    rw [List.count_eq_zero]
    intro hm
    obtain ⟨i, hi, e⟩ := List.getElem_of_mem hm
    rw [List.getElem_drop] at e
    have := hs k (k + i) (by omega) (by rw [List.length_drop] at hi; omega)
    omega
  rw [this]
  simp
/-- One log more, or none: in each place of a load. -/
theorem pick_step {m : Int} {L : List Int} {k t : Nat} {n : Int} {D : Nat → Int} {ls : List (Int × Int)} {b : Int} (hH : Hall (roomAt m L k t n) (leftL D ls)) (hok : ∀ l ∈ ls, 0 ≤ l.1 ∧ l.1 ≤ l.2) (hk : k < L.length) (ht : L[k] = (t : Int)) (hs : ∀ i j (hij : i ≤ j) (h : j < L.length), L[i]'(Nat.lt_of_le_of_lt hij h) ≤ L[j]'h) (hm : 1 ≤ m) (hn : n < m) (hp : Pick D ls t ls.length b) :
    (b = -1 ∧ Hall (roomAt m L k t (n + 1)) (leftL D ls)) ∨ ∃ p : Nat, b = p ∧ p < ls.length ∧ Hall (roomAt m L k t (n + 1)) (leftL (fun j => if j = p then 1 else D j) ls) ∧ (leftL D ls).length = (leftL (fun j => if j = p then 1 else D j) ls).length + 1 := by
  have gd : ∀ {i} (hi : i < ls.length), ls.getD i (0, 0) = ls[i] := fun hi => by rw [List.getD_eq_getElem?_getD, List.getElem?_eq_getElem hi]; rfl
  have hmem : ∀ q ∈ leftL D ls, 0 ≤ q.1 ∧ q.1 ≤ q.2 := fun q hq => by
    obtain ⟨i, hi, _, rfl⟩ := mem_leftL hq
    exact hok _ (List.getElem_mem hi)
  rw [← roomAt_next]
  rcases hp with ⟨rfl, h⟩ | ⟨p, hpl, rfl, ha, h⟩
  · refine Or.inl ⟨rfl, hall_none hH hmem (roomAt_low hk ht hs) (roomAt_pos hk ht hm hn) fun l hl => ?_⟩
    obtain ⟨i, hi, h0, rfl⟩ := mem_leftL hl
    intro hc
    exact h i hi ⟨h0, by rw [gd hi]; exact hc.1, by rw [gd hi]; exact hc.2⟩
  · have hperm := leftL_upd hpl ha.1 1 (by decide)
    refine Or.inr ⟨p, rfl, hpl, ?_, by rw [hperm.length_eq]; rfl⟩
    have hin : ∀ q ∈ leftL (fun j => if j = p then 1 else D j) ls, q ∈ leftL D ls := fun q hq => hperm.symm.subset (List.mem_cons_of_mem _ hq)
    refine hall_take (perm_hall hH hperm) (fun q hq => hmem q (hperm.symm.subset hq)) (roomAt_low hk ht hs) (roomAt_pos hk ht hm hn) ?_ fun q hq h1 h2 => ?_
    · have := ha.2
      rw [gd hpl] at this
      exact this
    · obtain ⟨i, hi, h0, rfl⟩ := mem_leftL (hin q hq)
      have := h i hi ⟨h0, by rw [gd hi]; exact h1, by rw [gd hi]; exact h2⟩
      rw [gd hpl, gd hi] at this
      exact this
theorem hall_done {m : Int} {L : List Int} {D : Nat → Int} {ls : List (Int × Int)} (hH : Hall (fL m (L.drop L.length)) (leftL D ls)) (hok : ∀ l ∈ ls, 0 ≤ l.1 ∧ l.1 ≤ l.2) : leftL D ls = [] := by
  refine hall_end hH (fun q hq => ?_) fun j => ?_
  · obtain ⟨i, hi, _, rfl⟩ := mem_leftL hq
    exact hok _ (List.getElem_mem hi)
  · unfold fL
    rw [List.drop_length]
    simp
end Go.Vat
