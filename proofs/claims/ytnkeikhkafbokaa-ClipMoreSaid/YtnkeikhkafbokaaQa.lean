import Derived.Lib.Hide
/-! The mathematics of layer 2: places in a row, sheets from a place to a later one; what the best cuts up to a place are worth, and those behind it; how many there are. No marks: plain mathematics. -/
namespace Go.Dag

/-- A ribbon of L units, K kinds with widths and prices; whether a sheet of a kind can be cut from a place on. -/
structure Tab where
  L : Nat
  K : Nat
  W : Nat → Nat
  P : Nat → Int
  can : Nat → Nat → Bool
structure Tab.Ok (t : Tab) : Prop where
  w : ∀ i, i < t.K → 1 ≤ t.W i
  p : ∀ i, i < t.K → 1 ≤ t.P i
  fit : ∀ a i, i < t.K → t.can a i = true → a + t.W i ≤ t.L

/-! ## Sums and greatest ones over a list -/
def isum {α : Type} (xs : List α) (f : α → Int) : Int := (xs.map f).sum
theorem isum_cons {α : Type} (x : α) (xs : List α) (f : α → Int) : isum (x :: xs) f = f x + isum xs f := by simp [isum]
theorem isum_nonneg {α : Type} {xs : List α} {f : α → Int} (h : ∀ x ∈ xs, 0 ≤ f x) : 0 ≤ isum xs f := by
  induction xs with
  | nil => simp [isum]
  | cons x xs ih =>
    rw [isum_cons]
    have h1 := h x List.mem_cons_self
    have h2 := ih fun y hy => h y (List.mem_cons_of_mem _ hy)
    omega
theorem isum_le {α : Type} {xs : List α} {f : α → Int} (h : ∀ x ∈ xs, 0 ≤ f x) {x : α} (hx : x ∈ xs) : f x ≤ isum xs f := by
  induction xs with
  | nil => cases hx
  | cons y xs ih =>
    rw [isum_cons]
    have h1 := h y List.mem_cons_self
    have h2 := isum_nonneg fun z hz => h z (List.mem_cons_of_mem _ hz)
    rcases List.mem_cons.1 hx with rfl | hx
    · omega
    · have := ih (fun z hz => h z (List.mem_cons_of_mem _ hz)) hx
      omega
theorem isum_same {α : Type} {xs : List α} {f g : α → Int} (h : ∀ x ∈ xs, f x = g x) : isum xs f = isum xs g := by
  induction xs with
  | nil => rfl
  | cons x xs ih => rw [isum_cons, isum_cons, h x List.mem_cons_self, ih fun y hy => h y (List.mem_cons_of_mem _ hy)]
theorem isum_zero {α : Type} {xs : List α} {f : α → Int} (h : ∀ x ∈ xs, f x = 0) : isum xs f = 0 := by
  rw [isum_same (g := fun _ => 0) h]
  induction xs with
  | nil => rfl
  | cons x xs ih => rw [isum_cons, ih fun y hy => h y (List.mem_cons_of_mem _ hy)]; rfl
theorem isum_mul {α : Type} (xs : List α) (f : α → Int) (c : Int) : isum xs f * c = isum xs fun x => f x * c := by
  induction xs with
  | nil => simp [isum]
  | cons x xs ih => rw [isum_cons, isum_cons, Int.add_mul, ih]
theorem isum_add {α : Type} (xs : List α) (f g : α → Int) : isum xs (fun x => f x + g x) = isum xs f + isum xs g := by
  induction xs with
  | nil => simp [isum]
  | cons x xs ih => rw [isum_cons, isum_cons, isum_cons, ih]; omega
theorem isum_pos {α : Type} {xs : List α} {f : α → Int} (h : ∀ x ∈ xs, 0 ≤ f x) (hp : 0 < isum xs f) : ∃ x ∈ xs, 0 < f x := by
  induction xs with
  | nil => simp [isum] at hp
  | cons x xs ih =>
    rw [isum_cons] at hp
    by_cases hx : 0 < f x
    · exact ⟨x, List.mem_cons_self, hx⟩
    · obtain ⟨y, hy, hy2⟩ := ih (fun y hy => h y (List.mem_cons_of_mem _ hy)) (by have := h x List.mem_cons_self; omega)
      exact ⟨y, List.mem_cons_of_mem _ hy, hy2⟩
theorem foldl_same {α β : Type} (f g : β → α → β) : ∀ (xs : List α) (s : β), (∀ s x, x ∈ xs → f s x = g s x) → xs.foldl f s = xs.foldl g s
  | [], _, _ => rfl
  | x :: xs, s, h => by
    rw [List.foldl_cons, List.foldl_cons, h s x List.mem_cons_self]
    exact foldl_same f g xs _ (fun s y hy => h s y (List.mem_cons_of_mem _ hy))
/-- The greatest worth so far, and in how many ways: one more way of worth v, which is c ways. -/
def upd (s : Int × Int) (v c : Int) : Int × Int := if s.1 < v then (v, c) else if v = s.1 then (s.1, s.2 + c) else s
def updL {α : Type} (q : α → Bool) (v c : α → Int) (xs : List α) (s : Int × Int) : Int × Int := xs.foldl (fun s i => if q i = true then upd s (v i) (c i) else s) s
theorem updL_spec {α : Type} (q : α → Bool) (v c : α → Int) : ∀ (xs : List α) (s : Int × Int),
    s.1 ≤ (updL q v c xs s).1 ∧ (∀ i ∈ xs, q i = true → v i ≤ (updL q v c xs s).1) ∧ ((updL q v c xs s).1 = s.1 ∨ ∃ i ∈ xs, q i = true ∧ v i = (updL q v c xs s).1) ∧
    (updL q v c xs s).2 = (if s.1 = (updL q v c xs s).1 then s.2 else 0) + isum xs fun i => if q i = true ∧ v i = (updL q v c xs s).1 then c i else 0
  | [], s => ⟨Int.le_refl _, fun i hi => by (cases hi), .inl rfl, by simp [updL, isum]⟩
  | x :: xs, s => by
    have e : updL q v c (x :: xs) s = updL q v c xs (if q x = true then upd s (v x) (c x) else s) := rfl
    rw [e]
    generalize hs : (if q x = true then upd s (v x) (c x) else s) = s1
    obtain ⟨h1, h2, h3, h4⟩ := updL_spec q v c xs s1
    generalize hr : updL q v c xs s1 = r at h1 h2 h3 h4
    rw [isum_cons]
    generalize (isum xs fun i => if q i = true ∧ v i = r.1 then c i else 0) = z at h4
    have memx : ∀ {p : α → Prop}, (∃ i ∈ xs, p i) → ∃ i ∈ x :: xs, p i := fun ⟨i, hi, hp⟩ => ⟨i, List.mem_cons_of_mem _ hi, hp⟩
    by_cases hq : q x = true
    · rw [if_pos hq] at hs
      unfold upd at hs
      by_cases c1 : s.1 < v x
      · rw [if_pos c1] at hs
        subst hs
        simp only at h1 h3 h4
        refine ⟨by omega, fun i hi hqi => ?_, ?_, ?_⟩
        · rcases List.mem_cons.1 hi with rfl | hi
          · exact h1
          · exact h2 i hi hqi
        · rcases h3 with h3 | h3
          · exact .inr ⟨x, List.mem_cons_self, hq, h3.symm⟩
          · exact .inr (memx h3)
        · rw [h4, if_neg (by omega : ¬ s.1 = r.1)]
          by_cases c2 : v x = r.1
          · rw [if_pos c2, if_pos ⟨hq, c2⟩]; omega
          · rw [if_neg c2, if_neg (fun h => c2 h.2)]; omega
      · rw [if_neg c1] at hs
        by_cases c2 : v x = s.1
        · rw [if_pos c2] at hs
          subst hs
          simp only at h1 h3 h4
          refine ⟨h1, fun i hi hqi => ?_, ?_, ?_⟩
          · rcases List.mem_cons.1 hi with rfl | hi
            · omega
            · exact h2 i hi hqi
          · rcases h3 with h3 | h3
            · exact .inl h3
            · exact .inr (memx h3)
          · rw [h4]
            by_cases c3 : s.1 = r.1
            · rw [if_pos c3, if_pos c3, if_pos ⟨hq, by omega⟩]; omega
            · rw [if_neg c3, if_neg c3, if_neg (fun h => c3 (by omega))]; omega
        · rw [if_neg c2] at hs
          subst hs
          refine ⟨h1, fun i hi hqi => ?_, ?_, ?_⟩
          · rcases List.mem_cons.1 hi with rfl | hi
            · omega
            · exact h2 i hi hqi
          · rcases h3 with h3 | h3
            · exact .inl h3
            · exact .inr (memx h3)
          · rw [h4, if_neg (fun h => c2 (by omega) : ¬ (q x = true ∧ v x = r.1))]; omega
    · rw [if_neg hq] at hs
      subst hs
      refine ⟨h1, fun i hi hqi => ?_, ?_, ?_⟩
      · rcases List.mem_cons.1 hi with rfl | hi
        · exact absurd hqi hq
        · exact h2 i hi hqi
      · rcases h3 with h3 | h3
        · exact .inl h3
        · exact .inr (memx h3)
      · rw [h4, if_neg (fun h => hq h.1 : ¬ (q x = true ∧ v x = r.1))]; omega
def maxL {α : Type} (q : α → Bool) (v : α → Int) (xs : List α) (s : Int) : Int := xs.foldl (fun s i => if q i = true then max s (v i) else s) s
theorem maxL_spec {α : Type} (q : α → Bool) (v : α → Int) : ∀ (xs : List α) (s : Int),
    s ≤ maxL q v xs s ∧ (∀ i ∈ xs, q i = true → v i ≤ maxL q v xs s) ∧ (maxL q v xs s = s ∨ ∃ i ∈ xs, q i = true ∧ v i = maxL q v xs s)
  | [], s => ⟨Int.le_refl _, fun i hi => by (cases hi), .inl rfl⟩
  | x :: xs, s => by
    have e : maxL q v (x :: xs) s = maxL q v xs (if q x = true then max s (v x) else s) := rfl
    rw [e]
    obtain ⟨h1, h2, h3⟩ := maxL_spec q v xs (if q x = true then max s (v x) else s)
    generalize maxL q v xs (if q x = true then max s (v x) else s) = r at h1 h2 h3
    have memx : ∀ {p : α → Prop}, (∃ i ∈ xs, p i) → ∃ i ∈ x :: xs, p i := fun ⟨i, hi, hp⟩ => ⟨i, List.mem_cons_of_mem _ hi, hp⟩
    by_cases hq : q x = true
    · rw [if_pos hq] at h1 h3
      refine ⟨by omega, fun i hi hqi => ?_, ?_⟩
      · rcases List.mem_cons.1 hi with rfl | hi
        · omega
        · exact h2 i hi hqi
      · rcases h3 with h3 | h3
        · by_cases c : s ≤ v x
          · exact .inr ⟨x, List.mem_cons_self, hq, by omega⟩
          · exact .inl (by omega)
        · exact .inr (memx h3)
    · rw [if_neg hq] at h1 h3
      refine ⟨h1, fun i hi hqi => ?_, ?_⟩
      · rcases List.mem_cons.1 hi with rfl | hi
        · exact absurd hqi hq
        · exact h2 i hi hqi
      · rcases h3 with h3 | h3
        · exact .inl h3
        · exact .inr (memx h3)

/-! ## What is behind a place: worth and number -/
def bkF (t : Tab) : Nat → Nat → Int × Int
  | 0, _ => (0, 1)
  | f + 1, n => if n < t.L then updL (t.can n) (fun i => t.P i + (bkF t f (n + t.W i)).1) (fun i => (bkF t f (n + t.W i)).2) (List.range t.K) (bkF t f (n + 1)) else (0, 1)
def bk (t : Tab) (n : Nat) : Int × Int := bkF t (t.L - n) n
def dn (t : Tab) (n : Nat) : Int := (bk t n).1
def many (t : Tab) (n : Nat) : Int := (bk t n).2
theorem bkF_same {t : Tab} (h : t.Ok) : ∀ (f m n : Nat), t.L - n ≤ f → t.L - n ≤ m → bkF t f n = bkF t m n
  | 0, 0, _, _, _ => rfl
  | 0, m + 1, n, h1, _ => by rw [bkF, bkF, if_neg (by omega)]
  | f + 1, 0, n, _, h2 => by rw [bkF, bkF, if_neg (by omega)]
  | f + 1, m + 1, n, h1, h2 => by
    rw [bkF, bkF]
    by_cases hn : n < t.L
    · rw [if_pos hn, if_pos hn, bkF_same h f m (n + 1) (by omega) (by omega)]
      unfold updL
      refine foldl_same _ _ _ _ fun s i hi => ?_
      have hw := h.w i (List.mem_range.1 hi)
      dsimp only
      rw [bkF_same h f m (n + t.W i) (by omega) (by omega)]
    · rw [if_neg hn, if_neg hn]
theorem bk_step {t : Tab} (h : t.Ok) {n : Nat} (hn : n < t.L) : bk t n = updL (t.can n) (fun i => t.P i + dn t (n + t.W i)) (fun i => many t (n + t.W i)) (List.range t.K) (bk t (n + 1)) := by
  obtain ⟨m, hm⟩ : ∃ m, t.L - n = m + 1 := ⟨t.L - n - 1, by omega⟩
  rw [bk, hm, bkF, if_pos hn, bk, show t.L - (n + 1) = m by omega]
  unfold updL
  refine foldl_same _ _ _ _ fun s i hi => ?_
  have hw := h.w i (List.mem_range.1 hi)
  unfold dn many bk
  dsimp only
  rw [bkF_same h m (t.L - (n + t.W i)) (n + t.W i) (by omega) (Nat.le_refl _)]
theorem bk_end (t : Tab) {n : Nat} (hn : t.L ≤ n) : bk t n = (0, 1) := by rw [bk, show t.L - n = 0 by omega, bkF]
theorem dn_end (t : Tab) {n : Nat} (hn : t.L ≤ n) : dn t n = 0 := by rw [dn, bk_end t hn]
theorem many_end (t : Tab) {n : Nat} (hn : t.L ≤ n) : many t n = 1 := by rw [many, bk_end t hn]
theorem dn_waste {t : Tab} (h : t.Ok) {n : Nat} (hn : n < t.L) : dn t (n + 1) ≤ dn t n := by
  have := (updL_spec (t.can n) (fun i => t.P i + dn t (n + t.W i)) (fun i => many t (n + t.W i)) (List.range t.K) (bk t (n + 1))).1
  rw [← bk_step h hn] at this
  exact this
theorem dn_sheet {t : Tab} (h : t.Ok) {n i : Nat} (hn : n < t.L) (hi : i < t.K) (hc : t.can n i = true) : t.P i + dn t (n + t.W i) ≤ dn t n := by
  have := (updL_spec (t.can n) (fun i => t.P i + dn t (n + t.W i)) (fun i => many t (n + t.W i)) (List.range t.K) (bk t (n + 1))).2.1 i (List.mem_range.2 hi) hc
  rw [← bk_step h hn] at this
  exact this
theorem dn_reach {t : Tab} (h : t.Ok) {n : Nat} (hn : n < t.L) : dn t n = dn t (n + 1) ∨ ∃ i, i < t.K ∧ t.can n i = true ∧ t.P i + dn t (n + t.W i) = dn t n := by
  have := (updL_spec (t.can n) (fun i => t.P i + dn t (n + t.W i)) (fun i => many t (n + t.W i)) (List.range t.K) (bk t (n + 1))).2.2.1
  rw [← bk_step h hn] at this
  rcases this with h1 | ⟨i, hi, h1, h2⟩
  · exact .inl h1
  · exact .inr ⟨i, List.mem_range.1 hi, h1, h2⟩
theorem many_step {t : Tab} (h : t.Ok) {n : Nat} (hn : n < t.L) : many t n = (if dn t (n + 1) = dn t n then many t (n + 1) else 0) + isum (List.range t.K) fun i => if t.can n i = true ∧ t.P i + dn t (n + t.W i) = dn t n then many t (n + t.W i) else 0 := by
  have := (updL_spec (t.can n) (fun i => t.P i + dn t (n + t.W i)) (fun i => many t (n + t.W i)) (List.range t.K) (bk t (n + 1))).2.2.2
  rw [← bk_step h hn] at this
  exact this
theorem many_pos {t : Tab} (h : t.Ok) : ∀ (d n : Nat), t.L - n = d → 1 ≤ many t n := by
  intro d
  induction d using Nat.strongRecOn with
  | _ d ih =>
    intro n hd
    by_cases hn : n < t.L
    · have h0 : ∀ i ∈ List.range t.K, 0 ≤ (if t.can n i = true ∧ t.P i + dn t (n + t.W i) = dn t n then many t (n + t.W i) else 0) := fun i hi => by
        split
        · have hw := h.w i (List.mem_range.1 hi)
          have := ih _ (by omega) (n + t.W i) rfl
          omega
        · omega
      have h1 := ih _ (by omega) (n + 1) rfl
      have h2 := isum_nonneg h0
      rw [many_step h hn]
      rcases dn_reach h hn with e | ⟨i, hi, hc, e⟩
      · rw [if_pos e.symm]; omega
      · have h3 := isum_le h0 (List.mem_range.2 hi)
        simp only [hc, e, and_self, if_true] at h3
        have hw := h.w i hi
        have h4 := ih _ (by omega) (n + t.W i) rfl
        have h5 : 0 ≤ (if dn t (n + 1) = dn t n then many t (n + 1) else 0) := by split <;> omega
        omega
    · rw [many_end t (by omega)]; omega
theorem dn_nonneg {t : Tab} (h : t.Ok) : ∀ (d n : Nat), t.L - n = d → 0 ≤ dn t n
  | 0, n, hd => by rw [dn_end t (by omega)]; omega
  | d + 1, n, hd => by
    have := dn_waste h (n := n) (by omega)
    have := dn_nonneg h d (n + 1) (by omega)
    omega

/-! ## What is before a place -/
def canTo (t : Tab) (n i : Nat) : Bool := decide (t.W i ≤ n) && t.can (n - t.W i) i
def upF (t : Tab) : Nat → Nat → Int
  | 0, _ => 0
  | _ + 1, 0 => 0
  | f + 1, n + 1 => maxL (canTo t (n + 1)) (fun i => upF t f (n + 1 - t.W i) + t.P i) (List.range t.K) (upF t f n)
def up (t : Tab) (n : Nat) : Int := upF t n n
theorem upF_same {t : Tab} (h : t.Ok) : ∀ (f m n : Nat), n ≤ f → n ≤ m → upF t f n = upF t m n
  | 0, 0, _, _, _ => rfl
  | 0, m + 1, n, h1, _ => by obtain rfl : n = 0 := by omega
                             rfl
  | f + 1, 0, n, _, h2 => by obtain rfl : n = 0 := by omega
                             rfl
  | f + 1, m + 1, 0, _, _ => rfl
  | f + 1, m + 1, n + 1, h1, h2 => by
    rw [upF, upF, upF_same h f m n (by omega) (by omega)]
    unfold maxL
    refine foldl_same _ _ _ _ fun s i hi => ?_
    have hw := h.w i (List.mem_range.1 hi)
    dsimp only
    rw [upF_same h f m (n + 1 - t.W i) (by omega) (by omega)]
theorem up_zero (t : Tab) : up t 0 = 0 := rfl
theorem up_step {t : Tab} (h : t.Ok) (n : Nat) : up t (n + 1) = maxL (canTo t (n + 1)) (fun i => up t (n + 1 - t.W i) + t.P i) (List.range t.K) (up t n) := by
  rw [up, upF]
  unfold maxL up
  refine foldl_same _ _ _ _ fun s i hi => ?_
  have hw := h.w i (List.mem_range.1 hi)
  dsimp only
  rw [upF_same h n (n + 1 - t.W i) (n + 1 - t.W i) (by omega) (Nat.le_refl _)]
theorem up_waste {t : Tab} (h : t.Ok) (n : Nat) : up t n ≤ up t (n + 1) := by
  rw [up_step h n]; exact (maxL_spec _ _ _ _).1
theorem up_sheet {t : Tab} (h : t.Ok) {a i : Nat} (hi : i < t.K) (hc : t.can a i = true) : up t a + t.P i ≤ up t (a + t.W i) := by
  have hw := h.w i hi
  obtain ⟨n, hn⟩ : ∃ n, a + t.W i = n + 1 := ⟨a + t.W i - 1, by omega⟩
  have := (maxL_spec (canTo t (n + 1)) (fun i => up t (n + 1 - t.W i) + t.P i) (List.range t.K) (up t n)).2.1 i (List.mem_range.2 hi) (by
    unfold canTo
    rw [show n + 1 - t.W i = a by omega, hc]
    simp; omega)
  rw [← up_step h n] at this
  rw [hn]
  rwa [show n + 1 - t.W i = a by omega] at this
theorem up_reach {t : Tab} (h : t.Ok) (n : Nat) : up t (n + 1) = up t n ∨ ∃ a i, i < t.K ∧ t.can a i = true ∧ a + t.W i = n + 1 ∧ up t a + t.P i = up t (n + 1) := by
  have := (maxL_spec (canTo t (n + 1)) (fun i => up t (n + 1 - t.W i) + t.P i) (List.range t.K) (up t n)).2.2
  rw [← up_step h n] at this
  rcases this with h1 | ⟨i, hi, h1, h2⟩
  · exact .inl h1
  · unfold canTo at h1
    simp only [Bool.and_eq_true, decide_eq_true_eq] at h1
    exact .inr ⟨n + 1 - t.W i, i, List.mem_range.1 hi, h1.2, by omega, h2⟩
theorem up_nonneg {t : Tab} (h : t.Ok) : ∀ n, 0 ≤ up t n
  | 0 => by rw [up_zero]; omega
  | n + 1 => by have := up_waste h n; have := up_nonneg h n; omega

/-! ## Both ways are worth the same -/
theorem both_le {t : Tab} (h : t.Ok) : ∀ n, n ≤ t.L → up t n + dn t n ≤ dn t 0 := by
  intro n
  induction n using Nat.strongRecOn with
  | _ n ih =>
    intro hn
    match n, hn, ih with
    | 0, _, _ => rw [up_zero]; omega
    | n + 1, hn, ih =>
      rcases up_reach h n with e | ⟨a, i, hi, hc, ea, e⟩
      · have := ih n (by omega) (by omega)
        have := dn_waste h (n := n) (by omega)
        omega
      · have hw := h.w i hi
        have := ih a (by omega) (by omega)
        have := dn_sheet h (n := a) (by omega) hi hc
        rw [ea] at this
        omega
theorem le_both {t : Tab} (h : t.Ok) : ∀ (d n : Nat), t.L - n = d → n ≤ t.L → up t n + dn t n ≤ up t t.L := by
  intro d
  induction d using Nat.strongRecOn with
  | _ d ih =>
    intro n hd hn
    by_cases hl : n < t.L
    · rcases dn_reach h hl with e | ⟨i, hi, hc, e⟩
      · have := ih _ (by omega) (n + 1) rfl (by omega)
        have := up_waste h n
        omega
      · have hw := h.w i hi
        have hf := h.fit n i hi hc
        have := ih _ (by omega) (n + t.W i) rfl hf
        have := up_sheet h hi hc
        omega
    · obtain rfl : n = t.L := by omega
      rw [dn_end t (Nat.le_refl _)]; omega
theorem up_all {t : Tab} (h : t.Ok) : up t t.L = dn t 0 := by
  have h1 := both_le h t.L (Nat.le_refl _)
  have h2 := le_both h _ 0 rfl (Nat.zero_le _)
  rw [dn_end t (Nat.le_refl _)] at h1
  rw [up_zero] at h2
  omega
/-- A place that best cuts pass. -/
def On (t : Tab) (n : Nat) : Prop := up t n + dn t n = dn t 0
instance (t : Tab) (n : Nat) : Decidable (On t n) := inferInstanceAs (Decidable (_ = _))
theorem on_zero (t : Tab) : On t 0 := by unfold On; rw [up_zero]; omega
theorem on_end {t : Tab} (h : t.Ok) : On t t.L := by unfold On; rw [dn_end t (Nat.le_refl _), up_all h]; omega
/-- The unit behind a place is waste in best cuts that pass it. -/
theorem waste_iff {t : Tab} (h : t.Ok) {n : Nat} (hn : n < t.L) : (up t n = up t (n + 1) ∧ On t (n + 1)) ↔ (On t n ∧ dn t (n + 1) = dn t n) := by
  unfold On
  have h1 := both_le h n (by omega)
  have h2 := both_le h (n + 1) (by omega)
  have h3 := up_waste h n
  have h4 := dn_waste h hn
  omega
/-- A sheet is one of best cuts. -/
theorem sheet_iff {t : Tab} (h : t.Ok) {n i : Nat} (hi : i < t.K) (hc : t.can n i = true) : (up t n + t.P i = up t (n + t.W i) ∧ On t (n + t.W i)) ↔ (On t n ∧ t.P i + dn t (n + t.W i) = dn t n) := by
  unfold On
  have hw := h.w i hi
  have hf := h.fit n i hi hc
  have h1 := both_le h n (by omega)
  have h2 := both_le h (n + t.W i) hf
  have h3 := up_sheet h hi hc
  have h4 := dn_sheet h (n := n) (by omega) hi hc
  omega
/-- In how many ways best cuts go on at a place: 0 if none part it. -/
def ways (t : Tab) (n : Nat) : Int := if On t n then many t n else 0
theorem ways_zero {t : Tab} (h : t.Ok) (n : Nat) : ways t n = 0 ↔ ¬ On t n := by
  unfold ways
  have := many_pos h _ n rfl
  split <;> simp_all <;> omega
theorem ways_step {t : Tab} (h : t.Ok) {n : Nat} (hn : n < t.L) : ways t n = (if up t n = up t (n + 1) then ways t (n + 1) else 0) + isum (List.range t.K) fun i => if t.can n i = true ∧ up t n + t.P i = up t (n + t.W i) then ways t (n + t.W i) else 0 := by
  by_cases ho : On t n
  · rw [ways, if_pos ho, many_step h hn]
    congr 1
    · have := waste_iff h hn
      unfold ways
      by_cases c1 : dn t (n + 1) = dn t n
      · obtain ⟨c2, c3⟩ := this.2 ⟨ho, c1⟩
        rw [if_pos c1, if_pos c2, if_pos c3]
      · rw [if_neg c1]
        by_cases c2 : up t n = up t (n + 1)
        · rw [if_pos c2, if_neg (fun c3 => c1 (this.1 ⟨c2, c3⟩).2)]
        · rw [if_neg c2]
    · refine isum_same fun i hi => ?_
      by_cases hc : t.can n i = true
      · have := sheet_iff h (List.mem_range.1 hi) hc
        unfold ways
        by_cases c1 : t.P i + dn t (n + t.W i) = dn t n
        · obtain ⟨c2, c3⟩ := this.2 ⟨ho, c1⟩
          rw [if_pos ⟨hc, c1⟩, if_pos ⟨hc, c2⟩, if_pos c3]
        · rw [if_neg (fun c => c1 c.2)]
          by_cases c2 : up t n + t.P i = up t (n + t.W i)
          · rw [if_pos ⟨hc, c2⟩, if_neg (fun c3 => c1 (this.1 ⟨c2, c3⟩).2)]
          · rw [if_neg (fun c => c2 c.2)]
      · rw [if_neg (fun c => hc c.1), if_neg (fun c => hc c.1)]
  · rw [ways, if_neg ho, isum_zero fun i hi => ?_]
    · by_cases c2 : up t n = up t (n + 1)
      · rw [if_pos c2, ways, if_neg (fun c3 => ho ((waste_iff h hn).1 ⟨c2, c3⟩).1)]; rfl
      · rw [if_neg c2]; rfl
    · by_cases c : t.can n i = true ∧ up t n + t.P i = up t (n + t.W i)
      · rw [if_pos c, ways, if_neg (fun c3 => ho ((sheet_iff h (List.mem_range.1 hi) c.1).1 ⟨c.2, c3⟩).1)]
      · rw [if_neg c]
/-- A sheet that the table keeps: one of best cuts. -/
def Best (t : Tab) (a i : Nat) : Prop := i < t.K ∧ t.can a i = true ∧ up t a + t.P i = up t (a + t.W i) ∧ On t (a + t.W i)
theorem best_on {t : Tab} (h : t.Ok) {a i : Nat} (hb : Best t a i) : On t a ∧ t.P i + dn t (a + t.W i) = dn t a := (sheet_iff h hb.1 hb.2.1).1 hb.2.2
theorem best_iff {t : Tab} (h : t.Ok) {a i : Nat} (ho : On t a) (hi : i < t.K) (hc : t.can a i = true) : Best t a i ↔ t.P i + dn t (a + t.W i) = dn t a :=
  ⟨fun hb => (best_on h hb).2, fun e => ⟨hi, hc, (sheet_iff h hi hc).2 ⟨ho, e⟩⟩⟩
/-- If nothing can be cut, nothing is worth anything. -/
theorem up_none {t : Tab} (h : t.Ok) (hz : ∀ n, n ≤ t.L → up t n = 0) (a i : Nat) (hi : i < t.K) : t.can a i = false := by
  rcases hc : t.can a i with _ | _
  · rfl
  · have h1 := up_sheet h hi hc
    have h2 := h.fit a i hi hc
    have h3 := h.p i hi
    rw [hz a (by omega), hz (a + t.W i) h2] at h1
    omega
end Go.Dag

/-! The mathematics of layer 2: a place that is parted: the ribbon before it and the one behind it, and the best cuts with a sheet that lies across. No marks besides the import's. -/
namespace Go.Dag

/-- The table of the ribbon up to a place. -/
def pre (t : Tab) (m : Nat) : Tab := { t with L := m, can := fun a i => t.can a i && decide (a + t.W i ≤ m) }
/-- The table of the ribbon from a place on. -/
def suf (t : Tab) (m : Nat) : Tab := { t with L := t.L - m, can := fun a i => t.can (a + m) i }
theorem pre_can {t : Tab} {m a i : Nat} : (pre t m).can a i = true ↔ t.can a i = true ∧ a + t.W i ≤ m := by simp [pre]
theorem pre_ok {t : Tab} (h : t.Ok) (m : Nat) : (pre t m).Ok := ⟨h.w, h.p, fun _ _ _ hc => (pre_can.1 hc).2⟩
theorem suf_ok {t : Tab} (h : t.Ok) (m : Nat) : (suf t m).Ok := ⟨h.w, h.p, fun a i hi hc => by
  have := h.fit (a + m) i hi hc
  simp only [suf]
  omega⟩
theorem up_pre {t : Tab} (h : t.Ok) (m : Nat) : ∀ n, n ≤ m → up (pre t m) n = up t n := by
  intro n
  induction n using Nat.strongRecOn with
  | _ n ih =>
    intro hn
    match n, hn, ih with
    | 0, _, _ => rfl
    | n + 1, hn, ih =>
      rw [up_step (pre_ok h m) n, up_step h n, ih n (by omega) (by omega)]
      unfold maxL
      refine foldl_same _ _ _ _ fun s i hi => ?_
      have hw := h.w i (List.mem_range.1 hi)
      by_cases hl : t.W i ≤ n + 1
      · have e : canTo (pre t m) (n + 1) i = canTo t (n + 1) i := by
          unfold canTo pre
          simp only
          rw [show n + 1 - t.W i + t.W i = n + 1 by omega, decide_eq_true hn, Bool.and_true]
        dsimp only
        rw [e, show (pre t m).W i = t.W i from rfl, show (pre t m).P i = t.P i from rfl, ih (n + 1 - t.W i) (by omega) (by omega)]
      · have e1 : canTo (pre t m) (n + 1) i = false := by
          unfold canTo
          rw [show (pre t m).W i = t.W i from rfl, decide_eq_false hl, Bool.false_and]
        have e2 : canTo t (n + 1) i = false := by
          unfold canTo
          rw [decide_eq_false hl, Bool.false_and]
        rw [e1, e2]
        rfl
theorem bk_suf {t : Tab} (h : t.Ok) {m : Nat} (hm : m ≤ t.L) : ∀ (d n : Nat), t.L - (n + m) = d → bk (suf t m) n = bk t (n + m) := by
  intro d
  induction d using Nat.strongRecOn with
  | _ d ih =>
    intro n hd
    by_cases hn : n + m < t.L
    · have hn2 : n < (suf t m).L := by simp only [suf]; omega
      rw [bk_step (suf_ok h m) hn2, bk_step h hn, ih _ (by omega) (n + 1) rfl, show n + 1 + m = n + m + 1 by omega]
      unfold updL
      refine foldl_same _ _ _ _ fun s i hi => ?_
      have hw := h.w i (List.mem_range.1 hi)
      have e := ih _ (by omega) (n + t.W i) rfl
      rw [show n + t.W i + m = n + m + t.W i by omega] at e
      unfold dn many
      dsimp only
      rw [show (suf t m).W i = t.W i from rfl, show (suf t m).P i = t.P i from rfl, e]
      rfl
    · rw [bk_end t (by omega), bk_end (suf t m) (by simp only [suf]; omega)]
theorem dn_suf {t : Tab} (h : t.Ok) {m : Nat} (hm : m ≤ t.L) : dn (suf t m) 0 = dn t m ∧ many (suf t m) 0 = many t m := by
  have e := bk_suf h hm _ 0 rfl
  rw [Nat.zero_add] at e
  unfold dn many
  rw [e]
  exact ⟨rfl, rfl⟩
theorem dn_pre {t : Tab} (h : t.Ok) (m : Nat) : dn (pre t m) 0 = up t m := by
  have := up_all (pre_ok h m)
  rw [show (pre t m).L = m from rfl, up_pre h m m (Nat.le_refl _)] at this
  exact this.symm
theorem dn_pre_le {t : Tab} (h : t.Ok) {m : Nat} (hm : m ≤ t.L) : ∀ (d n : Nat), m - n = d → n ≤ m → dn (pre t m) n + dn t m ≤ dn t n := by
  intro d
  induction d using Nat.strongRecOn with
  | _ d ih =>
    intro n hd hn
    by_cases hl : n < m
    · rcases dn_reach (pre_ok h m) (n := n) hl with e | ⟨i, hi, hc, e⟩
      · have := ih _ (by omega) (n + 1) rfl (by omega)
        have := dn_waste h (n := n) (by omega)
        omega
      · obtain ⟨hc1, hc2⟩ := pre_can.1 hc
        have hw := h.w i hi
        have := ih _ (by omega) (n + t.W i) rfl hc2
        have := dn_sheet h (n := n) (by omega) hi hc1
        rw [show (pre t m).W i = t.W i from rfl, show (pre t m).P i = t.P i from rfl] at e
        omega
    · obtain rfl : n = m := by omega
      rw [dn_end (pre t n) (n := n) (Nat.le_refl _)]; omega
/-- How many best cuts from a place on pass another one. -/
def thru (t : Tab) (m n : Nat) : Int := if dn (pre t m) n + dn t m = dn t n then many (pre t m) n * many t m else 0
theorem thru_nonneg {t : Tab} (h : t.Ok) (m n : Nat) : 0 ≤ thru t m n := by
  unfold thru
  split
  · have h1 := many_pos (pre_ok h m) _ n rfl
    have h2 := many_pos h _ m rfl
    exact Int.mul_nonneg (by omega) (by omega)
  · omega
theorem thru_step {t : Tab} (h : t.Ok) {m : Nat} (hm : m ≤ t.L) {n : Nat} (hn : n < m) :
    thru t m n = (if dn t (n + 1) = dn t n then thru t m (n + 1) else 0) + isum (List.range t.K) fun i => if t.can n i = true ∧ t.P i + dn t (n + t.W i) = dn t n then (if n + t.W i ≤ m then thru t m (n + t.W i) else 0) else 0 := by
  have hp := pre_ok h m
  have hnL : n < t.L := by omega
  have l1 := dn_pre_le h hm _ n rfl (by omega)
  have l2 := dn_pre_le h hm _ (n + 1) rfl (by omega)
  have w1 := dn_waste hp (n := n) hn
  have w2 := dn_waste h hnL
  by_cases c : dn (pre t m) n + dn t m = dn t n
  · have e0 : thru t m n = many (pre t m) n * many t m := if_pos c
    rw [e0, many_step hp (n := n) hn, Int.add_mul, isum_mul]
    congr 1
    · by_cases c1 : dn (pre t m) (n + 1) = dn (pre t m) n
      · rw [if_pos c1, if_pos (by omega : dn t (n + 1) = dn t n), thru, if_pos (by omega)]
      · rw [if_neg c1, Int.zero_mul]
        by_cases c2 : dn t (n + 1) = dn t n
        · rw [if_pos c2, thru, if_neg (by omega)]
        · rw [if_neg c2]
    · refine isum_same fun i hi => ?_
      have hi' := List.mem_range.1 hi
      have hw := h.w i hi'
      rw [show (pre t m).W i = t.W i from rfl, show (pre t m).P i = t.P i from rfl]
      by_cases hc : t.can n i = true
      · by_cases hl : n + t.W i ≤ m
        · have l3 := dn_pre_le h hm _ (n + t.W i) rfl hl
          have s1 := dn_sheet hp (n := n) (i := i) hn hi' (pre_can.2 ⟨hc, hl⟩)
          have s2 := dn_sheet h hnL hi' hc
          rw [show (pre t m).W i = t.W i from rfl, show (pre t m).P i = t.P i from rfl] at s1
          by_cases c1 : t.P i + dn (pre t m) (n + t.W i) = dn (pre t m) n
          · rw [if_pos ⟨pre_can.2 ⟨hc, hl⟩, c1⟩, if_pos ⟨hc, by omega⟩, if_pos hl, thru, if_pos (by omega)]
          · rw [if_neg (fun c2 => c1 c2.2), Int.zero_mul]
            by_cases c2 : t.P i + dn t (n + t.W i) = dn t n
            · rw [if_pos ⟨hc, c2⟩, if_pos hl, thru, if_neg (by omega)]
            · rw [if_neg (fun c3 => c2 c3.2)]
        · rw [if_neg (fun c2 => hl (pre_can.1 c2.1).2), Int.zero_mul]
          by_cases c2 : t.P i + dn t (n + t.W i) = dn t n
          · rw [if_pos ⟨hc, c2⟩, if_neg hl]
          · rw [if_neg (fun c3 => c2 c3.2)]
      · rw [if_neg (fun c2 => hc (pre_can.1 c2.1).1), Int.zero_mul, if_neg (fun c2 => hc c2.1)]
  · have e0 : thru t m n = 0 := if_neg c
    rw [e0, isum_zero fun i hi => ?_]
    · by_cases c2 : dn t (n + 1) = dn t n
      · rw [if_pos c2, thru, if_neg (by omega)]; rfl
      · rw [if_neg c2]; rfl
    · have hi' := List.mem_range.1 hi
      by_cases c2 : t.can n i = true ∧ t.P i + dn t (n + t.W i) = dn t n
      · rw [if_pos c2]
        by_cases hl : n + t.W i ≤ m
        · have s1 := dn_sheet hp (n := n) (i := i) hn hi' (pre_can.2 ⟨c2.1, hl⟩)
          rw [show (pre t m).W i = t.W i from rfl, show (pre t m).P i = t.P i from rfl] at s1
          rw [if_pos hl, thru, if_neg (by omega)]
        · rw [if_neg hl]
      · rw [if_neg c2]
/-- Best cuts from a place on can have a sheet across another one. -/
inductive Cr (t : Tab) (m : Nat) : Nat → Prop where
  | here {n i : Nat} : n < m → i < t.K → t.can n i = true → m < n + t.W i → t.P i + dn t (n + t.W i) = dn t n → Cr t m n
  | waste {n : Nat} : n < m → dn t (n + 1) = dn t n → Cr t m (n + 1) → Cr t m n
  | sheet {n i : Nat} : n < m → i < t.K → t.can n i = true → n + t.W i ≤ m → t.P i + dn t (n + t.W i) = dn t n → Cr t m (n + t.W i) → Cr t m n
theorem Cr.lt {t : Tab} {m n : Nat} (h : Cr t m n) : n < m := by cases h <;> assumption
theorem split_spec {t : Tab} (h : t.Ok) {m : Nat} (hm : m ≤ t.L) : ∀ (d n : Nat), m - n = d → n ≤ m → thru t m n ≤ many t n ∧ (thru t m n < many t n ↔ Cr t m n) := by
  intro d
  induction d using Nat.strongRecOn with
  | _ d ih =>
    intro n hd hn
    by_cases hl : n < m
    · have hnL : n < t.L := by omega
      have i1 := ih _ (by omega) (n + 1) rfl (by omega)
      have i2 : ∀ i, i < t.K → n + t.W i ≤ m → thru t m (n + t.W i) ≤ many t (n + t.W i) ∧ (thru t m (n + t.W i) < many t (n + t.W i) ↔ Cr t m (n + t.W i)) := fun i hi hw2 => by
        have := h.w i hi
        exact ih _ (by omega) (n + t.W i) rfl hw2
      have hd1 : isum (List.range t.K) (fun i => if t.can n i = true ∧ t.P i + dn t (n + t.W i) = dn t n then many t (n + t.W i) else 0) =
          isum (List.range t.K) (fun i => if t.can n i = true ∧ t.P i + dn t (n + t.W i) = dn t n then (if n + t.W i ≤ m then thru t m (n + t.W i) else 0) else 0) +
          isum (List.range t.K) (fun i => if t.can n i = true ∧ t.P i + dn t (n + t.W i) = dn t n then (if n + t.W i ≤ m then many t (n + t.W i) - thru t m (n + t.W i) else many t (n + t.W i)) else 0) := by
        rw [← isum_add]
        refine isum_same fun i _ => ?_
        split
        · split <;> omega
        · omega
      rw [many_step h hnL, thru_step h hm hl, hd1]
      have g0 : ∀ i ∈ List.range t.K, 0 ≤ (if t.can n i = true ∧ t.P i + dn t (n + t.W i) = dn t n then (if n + t.W i ≤ m then many t (n + t.W i) - thru t m (n + t.W i) else many t (n + t.W i)) else 0) := fun i hi => by
        split
        · split
          · rename_i hw2
            have := (i2 i (List.mem_range.1 hi) hw2).1
            omega
          · have := many_pos h _ (n + t.W i) rfl
            omega
        · omega
      have gp := isum_nonneg g0
      have gl := fun i (hi : i ∈ List.range t.K) => isum_le g0 hi
      have gq := isum_pos g0
      generalize (isum (List.range t.K) fun i => if t.can n i = true ∧ t.P i + dn t (n + t.W i) = dn t n then (if n + t.W i ≤ m then many t (n + t.W i) - thru t m (n + t.W i) else many t (n + t.W i)) else 0) = D at *
      generalize (isum (List.range t.K) fun i => if t.can n i = true ∧ t.P i + dn t (n + t.W i) = dn t n then (if n + t.W i ≤ m then thru t m (n + t.W i) else 0) else 0) = T at *
      have e1 : (if dn t (n + 1) = dn t n then thru t m (n + 1) else 0) ≤ (if dn t (n + 1) = dn t n then many t (n + 1) else 0) := by
        split
        · exact i1.1
        · omega
      refine ⟨by omega, fun hlt => ?_, fun hc => ?_⟩
      · by_cases c : dn t (n + 1) = dn t n ∧ thru t m (n + 1) < many t (n + 1)
        · exact .waste hl c.1 (i1.2.1 c.2)
        · have hD : 0 < D := by
            by_cases c1 : dn t (n + 1) = dn t n
            · rw [if_pos c1, if_pos c1] at hlt
              have : ¬ thru t m (n + 1) < many t (n + 1) := fun c2 => c ⟨c1, c2⟩
              omega
            · rw [if_neg c1, if_neg c1] at hlt
              omega
          obtain ⟨i, hi, hp⟩ := gq hD
          have hi' := List.mem_range.1 hi
          by_cases c1 : t.can n i = true ∧ t.P i + dn t (n + t.W i) = dn t n
          · rw [if_pos c1] at hp
            by_cases c2 : n + t.W i ≤ m
            · rw [if_pos c2] at hp
              exact .sheet hl hi' c1.1 c2 c1.2 ((i2 i hi' c2).2.1 (by omega))
            · exact .here hl hi' c1.1 (by omega) c1.2
          · rw [if_neg c1] at hp; omega
      · rcases hc with ⟨hx, hi, hc, hlt, e⟩ | ⟨hx, e, hc⟩ | ⟨hx, hi, hc, hle, e, hr⟩
        · rename_i i
          have := gl i (List.mem_range.2 hi)
          rw [if_pos ⟨hc, e⟩, if_neg (by omega)] at this
          have := many_pos h _ (n + t.W i) rfl
          omega
        · have := i1.2.2 hc
          rw [if_pos e, if_pos e]
          omega
        · rename_i i
          have := gl i (List.mem_range.2 hi)
          rw [if_pos ⟨hc, e⟩, if_pos hle] at this
          have := (i2 i hi hle).2.2 hr
          omega
    · obtain rfl : n = m := by omega
      have e : thru t n n = many t n := by
        rw [thru, dn_end (pre t n) (n := n) (Nat.le_refl _), if_pos (by omega), many_end (pre t n) (n := n) (Nat.le_refl _), Int.one_mul]
      rw [e]
      exact ⟨Int.le_refl _, fun hlt => by omega, fun hc => absurd hc.lt hl⟩
theorem cr_best {t : Tab} (h : t.Ok) {m n : Nat} (hm : m ≤ t.L) (hc : Cr t m n) (ho : On t n) : ∃ a i, Best t a i ∧ a < m ∧ m < a + t.W i := by
  induction hc with
  | here h1 h2 h3 h4 h5 => exact ⟨_, _, (best_iff h ho h2 h3).2 h5, h1, h4⟩
  | waste h1 h2 _ ih => exact ih ((waste_iff h (by omega)).2 ⟨ho, h2⟩).2
  | sheet h1 h2 h3 h4 h5 _ ih => exact ih ((sheet_iff h h2 h3).2 ⟨ho, h5⟩).2
theorem best_cr {t : Tab} (h : t.Ok) {m : Nat} (hm : m ≤ t.L) : ∀ (n : Nat), On t n → Cr t m n → Cr t m 0 := by
  intro n
  induction n using Nat.strongRecOn with
  | _ n ih =>
    intro ho hc
    match n, ho, hc, ih with
    | 0, _, hc, _ => exact hc
    | n + 1, ho, hc, ih =>
      have hl := hc.lt
      rcases up_reach h n with e | ⟨a, i, hi, ha, ea, e⟩
      · obtain ⟨o1, e1⟩ := (waste_iff h (n := n) (by omega)).1 ⟨e.symm, ho⟩
        exact ih n (by omega) o1 (.waste (by omega) e1 hc)
      · have hw := h.w i hi
        rw [← ea] at ho hc e
        obtain ⟨o1, e1⟩ := (sheet_iff h hi ha).1 ⟨e, ho⟩
        exact ih a (by omega) o1 (.sheet (by omega) hi ha (by omega) e1 hc)
/-- A place within: what its parts are worth, and how many best cuts they have. -/
theorem parted_spec {t : Tab} (h : t.Ok) {m : Nat} (hm : m ≤ t.L) :
    (dn (pre t m) 0 + dn (suf t m) 0 < dn t 0 ↔ ¬ On t m) ∧ dn (pre t m) 0 + dn (suf t m) 0 ≤ dn t 0 ∧
    (On t m → (many (pre t m) 0 * many (suf t m) 0 < many t 0 ↔ ∃ a i, Best t a i ∧ a < m ∧ m < a + t.W i) ∧ many (pre t m) 0 * many (suf t m) 0 ≤ many t 0) := by
  rw [dn_pre h m, (dn_suf h hm).1, (dn_suf h hm).2]
  have hb := both_le h m hm
  refine ⟨by unfold On; omega, hb, fun ho => ?_⟩
  have hs := split_spec h hm _ 0 rfl (Nat.zero_le _)
  have e : thru t m 0 = many (pre t m) 0 * many t m := by
    rw [thru, if_pos]
    rw [dn_pre h m]
    exact ho
  rw [e] at hs
  refine ⟨hs.2.trans ⟨fun hc => cr_best h hm hc (on_zero t), fun ⟨a, i, hbst, h1, h2⟩ => ?_⟩, hs.1⟩
  obtain ⟨o1, e1⟩ := best_on h hbst
  exact best_cr h hm a o1 (.here h1 hbst.1 hbst.2.1 h2 e1)
end Go.Dag

/-! The mathematics of layer 2: cuts as lists of sheets; the first best ones; two of them are two ways. No marks besides the import's. -/
namespace Go.Dag

/-- Cuts from a place on: sheets that can be cut, one behind the other. -/
def IsCuts (t : Tab) : Nat → List (Nat × Nat) → Prop
  | _, [] => True
  | n, (a, i) :: g => n ≤ a ∧ i < t.K ∧ t.can a i = true ∧ IsCuts t (a + t.W i) g
def wth (t : Tab) (g : List (Nat × Nat)) : Int := isum g fun s => t.P s.2
theorem wth_cons (t : Tab) (s : Nat × Nat) (g : List (Nat × Nat)) : wth t (s :: g) = t.P s.2 + wth t g := isum_cons _ _ _
theorem dn_mono {t : Tab} (h : t.Ok) {n : Nat} : ∀ (a : Nat), n ≤ a → dn t a ≤ dn t n := by
  intro a ha
  obtain ⟨e, rfl⟩ : ∃ e, a = n + e := ⟨a - n, by omega⟩
  clear ha
  induction e with
  | zero => exact Int.le_refl _
  | succ e ih =>
    by_cases hl : n + e < t.L
    · have := dn_waste h hl
      rw [← Nat.add_assoc]
      omega
    · rw [dn_end t (n := n + (e + 1)) (by omega)]
      rw [dn_end t (n := n + e) (by omega)] at ih
      exact ih
theorem IsCuts.le {t : Tab} (h : t.Ok) : ∀ {g : List (Nat × Nat)} {n : Nat}, IsCuts t n g → wth t g ≤ dn t n
  | [], n, _ => by simp only [wth, isum, List.map_nil, List.sum_nil]; exact dn_nonneg h _ n rfl
  | (a, i) :: g, n, hc => by
    obtain ⟨h1, h2, h3, h4⟩ := hc
    have hw := h.w i h2
    have hf := h.fit a i h2 h3
    have h5 := IsCuts.le h h4
    have h6 := dn_sheet h (n := a) (by omega) h2 h3
    have h7 := dn_mono h a h1
    rw [wth_cons]
    simp only
    omega
theorem IsCuts.later {t : Tab} {g : List (Nat × Nat)} {n m : Nat} (hc : IsCuts t n g) (h : ∀ a i g', g = (a, i) :: g' → m ≤ a) : IsCuts t m g := by
  match g, hc with
  | [], _ => trivial
  | (a, i) :: g', hc => exact ⟨h a i g' rfl, hc.2⟩
/-- Best cuts from a place on. -/
def IsBest (t : Tab) (n : Nat) (g : List (Nat × Nat)) : Prop := IsCuts t n g ∧ wth t g = dn t n
theorem IsBest.cons {t : Tab} (h : t.Ok) {n a i : Nat} {g : List (Nat × Nat)} (hb : IsBest t n ((a, i) :: g)) :
    n ≤ a ∧ a < t.L ∧ dn t a = dn t n ∧ i < t.K ∧ t.can a i = true ∧ t.P i + dn t (a + t.W i) = dn t a ∧ IsBest t (a + t.W i) g := by
  obtain ⟨⟨h1, h2, h3, h4⟩, h5⟩ := hb
  have hw := h.w i h2
  have hf := h.fit a i h2 h3
  have h6 := IsCuts.le h h4
  have h7 := dn_sheet h (n := a) (by omega) h2 h3
  have h8 := dn_mono h a h1
  rw [wth_cons] at h5
  simp only at h5
  exact ⟨h1, by omega, by omega, h2, h3, by omega, h4, by omega⟩
theorem IsBest.nil {t : Tab} (h : t.Ok) {n : Nat} (hb : IsBest t n []) : dn t n = 0 ∧ ∀ a i, n ≤ a → i < t.K → t.can a i = false := by
  have h0 : dn t n = 0 := by
    have := hb.2
    simp only [wth, isum, List.map_nil, List.sum_nil] at this
    exact this.symm
  refine ⟨h0, fun a i ha hi => ?_⟩
  rcases hc : t.can a i with _ | _
  · rfl
  · have hw := h.w i hi
    have hf := h.fit a i hi hc
    have h7 := dn_sheet h (n := a) (by omega) hi hc
    have h8 := dn_mono h a ha
    have h9 := dn_nonneg h _ (a + t.W i) rfl
    have hp := h.p i hi
    omega
theorem IsBest.waste {t : Tab} (h : t.Ok) {n : Nat} {g : List (Nat × Nat)} (hn : n < t.L) (hb : IsBest t n g) (hg : ∀ a i g', g = (a, i) :: g' → n + 1 ≤ a) : dn t (n + 1) = dn t n ∧ IsBest t (n + 1) g := by
  have h1 := hb.1.later hg
  have h2 := IsCuts.le h h1
  have h3 := dn_waste h hn
  have h4 := hb.2
  exact ⟨by omega, h1, by omega⟩
theorem isum_two {α : Type} [DecidableEq α] {xs : List α} {f : α → Int} (h : ∀ x ∈ xs, 0 ≤ f x) {x y : α} (hx : x ∈ xs) (hy : y ∈ xs) (hne : x ≠ y) : f x + f y ≤ isum xs f := by
  induction xs with
  | nil => cases hx
  | cons z xs ih =>
    rw [isum_cons]
    have h1 := h z List.mem_cons_self
    have h2 : ∀ z ∈ xs, 0 ≤ f z := fun z hz => h z (List.mem_cons_of_mem _ hz)
    rcases List.mem_cons.1 hx with ex | hx1
    · rcases List.mem_cons.1 hy with ey | hy1
      · exact absurd (ex.trans ey.symm) hne
      · have := isum_le h2 hy1
        rw [ex]
        omega
    · rcases List.mem_cons.1 hy with ey | hy1
      · have := isum_le h2 hx1
        rw [ey]
        omega
      · have := ih h2 hx1 hy1
        omega
/-- Two best cuts from a place on: there are at least two ways. -/
theorem two_ways {t : Tab} (h : t.Ok) : ∀ (d n : Nat), t.L - n = d → ∀ {g g' : List (Nat × Nat)}, IsBest t n g → IsBest t n g' → g ≠ g' → 2 ≤ many t n := by
  intro d
  induction d using Nat.strongRecOn with
  | _ d ih =>
    intro n hd g g' hb hb' hne
    have n0 : ∀ i ∈ List.range t.K, 0 ≤ (if t.can n i = true ∧ t.P i + dn t (n + t.W i) = dn t n then many t (n + t.W i) else 0) := fun i _ => by
      split
      · have := many_pos h _ (n + t.W i) rfl
        omega
      · omega
    have key : ∀ {g : List (Nat × Nat)}, IsBest t n g → (∃ i g1, g = (n, i) :: g1) ∨ ∀ a i g1, g = (a, i) :: g1 → n + 1 ≤ a := fun {g} hb => by
      match g, hb with
      | [], _ => exact .inr fun a i g1 e => by cases e
      | (a, i) :: g1, hb =>
        by_cases e : a = n
        · subst e; exact .inl ⟨i, g1, rfl⟩
        · have := (hb.cons h).1
          exact .inr fun a' i' g1' e' => by cases e'; omega
    by_cases hn : n < t.L
    · have hm := many_step h hn
      have z0 := isum_nonneg n0
      have z1 := fun i (hi : i ∈ List.range t.K) => isum_le n0 hi
      have p1 := many_pos h _ (n + 1) rfl
      rcases key hb with ⟨i, g1, rfl⟩ | k1 <;> rcases key hb' with ⟨j, g2, rfl⟩ | k2
      · obtain ⟨_, _, _, hi, hc, e1, b1⟩ := hb.cons h
        obtain ⟨_, _, _, hj, hc', e2, b2⟩ := hb'.cons h
        have hw := h.w i hi
        have q0 : 0 ≤ (if dn t (n + 1) = dn t n then many t (n + 1) else 0) := by split <;> omega
        by_cases eij : i = j
        · subst eij
          have := ih _ (by omega) (n + t.W i) rfl b1 b2 (fun e => hne (by rw [e]))
          have q1 := z1 i (List.mem_range.2 hi)
          rw [if_pos ⟨hc, e1⟩] at q1
          omega
        · have q1 := many_pos h _ (n + t.W i) rfl
          have q2 := many_pos h _ (n + t.W j) rfl
          have q3 := isum_two n0 (List.mem_range.2 hi) (List.mem_range.2 hj) eij
          rw [if_pos ⟨hc, e1⟩, if_pos ⟨hc', e2⟩] at q3
          omega
      · obtain ⟨_, _, _, hi, hc, e1, b1⟩ := hb.cons h
        obtain ⟨e2, b2⟩ := hb'.waste h hn k2
        have q1 := z1 i (List.mem_range.2 hi)
        have q2 := many_pos h _ (n + t.W i) rfl
        rw [if_pos ⟨hc, e1⟩] at q1
        rw [if_pos e2] at hm
        omega
      · obtain ⟨_, _, _, hi, hc, e1, b1⟩ := hb'.cons h
        obtain ⟨e2, b2⟩ := hb.waste h hn k1
        have q1 := z1 j (List.mem_range.2 hi)
        have q2 := many_pos h _ (n + t.W j) rfl
        rw [if_pos ⟨hc, e1⟩] at q1
        rw [if_pos e2] at hm
        omega
      · obtain ⟨e1, b1⟩ := hb.waste h hn k1
        obtain ⟨e2, b2⟩ := hb'.waste h hn k2
        have := ih _ (by omega) (n + 1) rfl b1 b2 hne
        rw [if_pos e1] at hm
        omega
    · match g, g', hb, hb', hne with
      | [], [], _, _, hne => exact absurd rfl hne
      | (a, i) :: g1, _, hb, _, _ => have := hb.cons h; omega
      | [], (a, i) :: g1, _, hb', _ => have := hb'.cons h; omega
/-- The first best cuts: the least kind of a sheet that best cuts can have, as soon as they can have one. -/
def firstF (t : Tab) : Nat → Nat → List (Nat × Nat)
  | 0, _ => []
  | f + 1, n => if n < t.L then
      match (List.range t.K).find? fun i => t.can n i && decide (t.P i + dn t (n + t.W i) = dn t n) with
      | some i => (n, i) :: firstF t f (n + t.W i)
      | none => firstF t f (n + 1)
    else []
theorem first_best {t : Tab} (h : t.Ok) : ∀ (f n : Nat), t.L - n ≤ f → IsBest t n (firstF t f n)
  | 0, n, hf => ⟨trivial, by rw [dn_end t (by omega)]; rfl⟩
  | f + 1, n, hf => by
    rw [firstF]
    by_cases hn : n < t.L
    · rw [if_pos hn]
      rcases hq : (List.range t.K).find? fun i => t.can n i && decide (t.P i + dn t (n + t.W i) = dn t n) with _ | i
      · simp only
        have hb := first_best h f (n + 1) (by omega)
        have hno := List.find?_eq_none.1 hq
        have e : dn t n = dn t (n + 1) := by
          rcases dn_reach h hn with e | ⟨i, hi, hc, e⟩
          · exact e
          · have := hno i (List.mem_range.2 hi)
            simp only [hc, e, decide_true, Bool.and_true, not_true_eq_false] at this
        refine ⟨hb.1.later fun a i g' eg => ?_, by rw [hb.2, e]⟩
        have h1 := hb.1
        rw [eg] at h1
        exact Nat.le_of_succ_le h1.1
      · simp only
        have hi := List.mem_range.1 (List.mem_of_find?_eq_some hq)
        have hp := List.find?_some hq
        simp only [Bool.and_eq_true, decide_eq_true_eq] at hp
        have hw := h.w i hi
        have hb := first_best h f (n + t.W i) (by omega)
        exact ⟨⟨Nat.le_refl _, hi, hp.1, hb.1⟩, by rw [wth_cons, hb.2]; exact hp.2⟩
    · rw [if_neg hn]
      exact ⟨trivial, by rw [dn_end t (by omega)]; rfl⟩
end Go.Dag

/-! The mathematics of layer 2: no best cuts come before the first ones; unit prices; more sheets, greater prices. No marks besides the import's. -/
namespace Go.Dag

/-- The first list of sheets comes no later than the second one: at their first difference it begins first, or has the lesser kind; and none ends before the other one. -/
def NotBefore : List (Nat × Nat) → List (Nat × Nat) → Prop
  | [], [] => True
  | [], _ :: _ => False
  | _ :: _, [] => False
  | (a, i) :: c, (b, j) :: g => (a = b ∧ i = j ∧ NotBefore c g) ∨ a < b ∨ (a = b ∧ i < j)
theorem first_first {t : Tab} (h : t.Ok) : ∀ (f n : Nat), t.L - n ≤ f → ∀ {g : List (Nat × Nat)}, IsBest t n g → NotBefore (firstF t f n) g
  | 0, n, hf, [], _ => trivial
  | 0, n, hf, (b, j) :: g, hb => by have := hb.cons h; omega
  | f + 1, n, hf, g, hb => by
    rw [firstF]
    by_cases hn : n < t.L
    · rw [if_pos hn]
      rcases hq : (List.range t.K).find? fun i => t.can n i && decide (t.P i + dn t (n + t.W i) = dn t n) with _ | i
      · simp only
        have hno := List.find?_eq_none.1 hq
        have hb' := (hb.waste h hn fun b j g' eg => by
          subst eg
          obtain ⟨h1, _, _, h4, h5, h6, _⟩ := hb.cons h
          rcases Nat.lt_or_ge n b with h7 | h7
          · exact h7
          · obtain rfl : b = n := by omega
            have := hno j (List.mem_range.2 h4)
            simp only [h5, h6, decide_true, Bool.and_true, not_true_eq_false] at this).2
        exact first_first h f (n + 1) (by omega) hb'
      · simp only
        have hi := List.mem_range.1 (List.mem_of_find?_eq_some hq)
        have hp := List.find?_some hq
        simp only [Bool.and_eq_true, decide_eq_true_eq] at hp
        have hw := h.w i hi
        match g, hb with
        | [], hb =>
          have := (hb.nil h).2 n i (Nat.le_refl _) hi
          rw [hp.1] at this
          cases this
        | (b, j) :: g', hb =>
          obtain ⟨h1, _, _, h4, h5, h6, h7⟩ := hb.cons h
          rcases Nat.lt_or_ge n b with h8 | h8
          · exact .inr (.inl h8)
          · obtain rfl : b = n := by omega
            rcases Nat.lt_or_ge j i with h9 | h9
            · have := (List.find?_range_eq_some.1 hq).2.2 j h9
              simp only [h5, h6, decide_true, Bool.and_true, Bool.not_true] at this
              cases this
            · by_cases e : i = j
              · subst e
                exact .inl ⟨rfl, rfl, first_first h f (b + t.W i) (by omega) h7⟩
              · exact .inr (.inr ⟨rfl, by omega⟩)
    · rw [if_neg hn]
      match g, hb with
      | [], _ => trivial
      | (b, j) :: g', hb => have := hb.cons h; omega

/-! ## Unit prices -/
/-- What n units from a place on have together. -/
def psum (l : Nat → Int) (a n : Nat) : Int := isum (List.range n) fun u => l (a + u)
theorem psum_succ (l : Nat → Int) (a n : Nat) : psum l a (n + 1) = psum l a n + l (a + n) := by
  unfold psum isum
  rw [List.range_succ, List.map_append, List.sum_append]
  simp
theorem psum_add (l : Nat → Int) (a n m : Nat) : psum l a (n + m) = psum l a n + psum l (a + n) m := by
  induction m with
  | zero => simp [psum, isum]
  | succ m ih => rw [← Nat.add_assoc, psum_succ, psum_succ, ih, Nat.add_assoc]; omega
theorem psum_nonneg {l : Nat → Int} {a n : Nat} (h : ∀ u, u < n → 0 ≤ l (a + u)) : 0 ≤ psum l a n := isum_nonneg fun u hu => h u (List.mem_range.1 hu)
/-- Unit prices that cover each sheet: no cuts are worth more than the units behind their beginning have together. -/
theorem cover_le {t : Tab} (h : t.Ok) {l : Nat → Int} (h0 : ∀ u, u < t.L → 0 ≤ l u) (hc : ∀ a i, i < t.K → t.can a i = true → t.P i ≤ psum l a (t.W i)) :
    ∀ {g : List (Nat × Nat)} {n : Nat}, n ≤ t.L → IsCuts t n g → wth t g ≤ psum l n (t.L - n)
  | [], n, hn, _ => by
    simp only [wth, isum, List.map_nil, List.sum_nil]
    exact psum_nonneg fun u hu => h0 _ (by omega)
  | (a, i) :: g, n, hn, hcut => by
    obtain ⟨h1, h2, h3, h4⟩ := hcut
    have hf := h.fit a i h2 h3
    have h5 := cover_le h h0 hc hf h4
    have h6 := hc a i h2 h3
    have e : t.L - n = (a - n) + (t.W i + (t.L - (a + t.W i))) := by omega
    rw [e, psum_add, psum_add, show n + (a - n) = a by omega, wth_cons]
    have h7 : 0 ≤ psum l n (a - n) := psum_nonneg fun u hu => h0 _ (by omega)
    simp only
    omega
/-- The prices that the program tells. -/
def priceV (t : Tab) (n : Nat) : Int := up t (n + 1) - up t n
theorem psum_price (t : Tab) (a n : Nat) : psum (priceV t) a n = up t (a + n) - up t a := by
  induction n with
  | zero => simp [psum, isum]
  | succ n ih => rw [psum_succ, ih, priceV, Nat.add_assoc]; omega
theorem price_nonneg {t : Tab} (h : t.Ok) (n : Nat) : 0 ≤ priceV t n := by
  have := up_waste h n
  unfold priceV
  omega
theorem price_cover {t : Tab} (h : t.Ok) (a i : Nat) (hi : i < t.K) (hc : t.can a i = true) : t.P i ≤ psum (priceV t) a (t.W i) := by
  rw [psum_price]
  have := up_sheet h hi hc
  omega
theorem price_all {t : Tab} (h : t.Ok) : psum (priceV t) 0 t.L = dn t 0 := by
  rw [psum_price, Nat.zero_add, up_all h, up_zero]; omega
/-- Waste has no price, each sheet's units are its price together. -/
def TightFrom (t : Tab) : Nat → List (Nat × Nat) → Prop
  | n, [] => ∀ u, n ≤ u → u < t.L → priceV t u = 0
  | n, (a, i) :: g => (∀ u, n ≤ u → u < a → priceV t u = 0) ∧ psum (priceV t) a (t.W i) = t.P i ∧ TightFrom t (a + t.W i) g
theorem on_waste {t : Tab} (h : t.Ok) : ∀ (d n : Nat), n + d ≤ t.L → On t n → dn t (n + d) = dn t n → On t (n + d) ∧ ∀ u, n ≤ u → u < n + d → priceV t u = 0
  | 0, n, _, ho, _ => ⟨ho, fun u h1 h2 => by omega⟩
  | d + 1, n, hl, ho, e => by
    have m1 := dn_waste h (n := n) (by omega)
    have m2 := dn_mono h (n := n + 1) (n + (d + 1)) (by omega)
    obtain ⟨e1, o1⟩ := (waste_iff h (n := n) (by omega)).2 ⟨ho, by omega⟩
    obtain ⟨o2, z⟩ := on_waste h d (n + 1) (by omega) o1 (by rw [show n + 1 + d = n + (d + 1) by omega]; omega)
    rw [show n + 1 + d = n + (d + 1) by omega] at o2 z
    refine ⟨o2, fun u h1 h2 => ?_⟩
    by_cases hu : u = n
    · subst hu; unfold priceV; omega
    · exact z u (by omega) h2
theorem best_tight {t : Tab} (h : t.Ok) : ∀ {g : List (Nat × Nat)} {n : Nat}, n ≤ t.L → On t n → IsBest t n g → TightFrom t n g
  | [], n, hn, ho, hb => by
    have h0 := (hb.nil h).1
    have e : dn t (n + (t.L - n)) = dn t n := by rw [dn_end t (by omega), h0]
    have := (on_waste h (t.L - n) n (by omega) ho e).2
    exact fun u h1 h2 => this u h1 (by omega)
  | (a, i) :: g, n, hn, ho, hb => by
    obtain ⟨h1, h2, h3, h4, h5, h6, h7⟩ := hb.cons h
    have hf := h.fit a i h4 h5
    have e : n + (a - n) = a := by omega
    obtain ⟨o1, z⟩ := on_waste h (a - n) n (by omega) ho (by rw [e]; exact h3)
    rw [e] at o1 z
    obtain ⟨s1, s2⟩ := (sheet_iff h h4 h5).2 ⟨o1, h6⟩
    exact ⟨z, by rw [psum_price]; omega, best_tight h hf s2 h7⟩

/-! ## More sheets, greater prices -/
theorem dn_more {t t' : Tab} (h : t.Ok) (h' : t'.Ok) (hL : t'.L = t.L) (hs : ∀ a i, i < t.K → t.can a i = true → ∃ j, j < t'.K ∧ t'.can a j = true ∧ t'.W j = t.W i ∧ t.P i ≤ t'.P j) :
    ∀ (d n : Nat), t.L - n = d → dn t n ≤ dn t' n := by
  intro d
  induction d using Nat.strongRecOn with
  | _ d ih =>
    intro n hd
    by_cases hn : n < t.L
    · rcases dn_reach h hn with e | ⟨i, hi, hc, e⟩
      · have := ih _ (by omega) (n + 1) rfl
        have := dn_waste h' (n := n) (by omega)
        omega
      · obtain ⟨j, hj, hc', hw, hp⟩ := hs n i hi hc
        have hw1 := h.w i hi
        have h1 := ih _ (by omega) (n + t.W i) rfl
        have h2 := dn_sheet h' (n := n) (by omega) hj hc'
        rw [hw] at h2
        omega
    · rw [dn_end t (by omega), dn_end t' (by omega)]; omega
/-- All prices as many times as great: so is what is best, and the ways stay. -/
theorem bk_times {t t' : Tab} (h : t.Ok) (h' : t'.Ok) (c : Int) (hc : 1 ≤ c) (hL : t'.L = t.L) (hK : t'.K = t.K) (hW : t'.W = t.W) (hcan : t'.can = t.can) (hP : ∀ i, t'.P i = c * t.P i) :
    ∀ (d n : Nat), t.L - n = d → bk t' n = (c * dn t n, many t n) := by
  intro d
  induction d using Nat.strongRecOn with
  | _ d ih =>
    intro n hd
    by_cases hn : n < t.L
    · rw [bk_step h' (by omega), hK, hcan, hW, ih _ (by omega) (n + 1) rfl]
      have e0 : (dn t n, many t n) = updL (t.can n) (fun i => t.P i + dn t (n + t.W i)) (fun i => many t (n + t.W i)) (List.range t.K) (dn t (n + 1), many t (n + 1)) := bk_step h hn
      have key : ∀ (xs : List Nat) (s : Int × Int), (∀ i ∈ xs, i < t.K) → updL (t.can n) (fun i => t'.P i + dn t' (n + t.W i)) (fun i => many t' (n + t.W i)) xs (c * s.1, s.2) =
          (c * (updL (t.can n) (fun i => t.P i + dn t (n + t.W i)) (fun i => many t (n + t.W i)) xs s).1, (updL (t.can n) (fun i => t.P i + dn t (n + t.W i)) (fun i => many t (n + t.W i)) xs s).2) := by
        intro xs
        induction xs with
        | nil => intro s _; rfl
        | cons i xs ihx =>
          intro s hx
          unfold updL at ihx ⊢
          rw [List.foldl_cons, List.foldl_cons]
          dsimp only at ihx ⊢
          have hw := h.w i (hx i List.mem_cons_self)
          have e1 := ih _ (by omega) (n + t.W i) rfl
          have e2 : dn t' (n + t.W i) = c * dn t (n + t.W i) := congrArg Prod.fst e1
          have e3 : many t' (n + t.W i) = many t (n + t.W i) := by
            show (bk t' (n + t.W i)).2 = _
            rw [e1]
          rw [← ihx _ fun j hj => hx j (List.mem_cons_of_mem _ hj)]
          congr 1
          by_cases hci : t.can n i = true
          · rw [if_pos hci, if_pos hci, hP, e2, e3, ← Int.mul_add]
            generalize t.P i + dn t (n + t.W i) = v
            unfold upd
            dsimp only
            have l1 : c * s.1 < c * v ↔ s.1 < v := ⟨fun q => Int.lt_of_mul_lt_mul_left q (by omega), fun q => Int.mul_lt_mul_of_pos_left q (by omega)⟩
            have l2 : c * v = c * s.1 ↔ v = s.1 := ⟨fun q => Int.eq_of_mul_eq_mul_left (by omega) q, fun q => by rw [q]⟩
            by_cases q1 : s.1 < v
            · rw [if_pos q1, if_pos (l1.2 q1)]
            · rw [if_neg q1, if_neg (fun q => q1 (l1.1 q))]
              by_cases q2 : v = s.1
              · rw [if_pos q2, if_pos (l2.2 q2)]
              · rw [if_neg q2, if_neg (fun q => q2 (l2.1 q))]
          · rw [if_neg hci, if_neg hci]
      have := key (List.range t.K) (dn t (n + 1), many t (n + 1)) fun i hi => List.mem_range.1 hi
      rw [← e0] at this
      exact this
    · rw [bk_end t' (by omega), dn_end t (by omega), many_end t (by omega), Int.mul_zero]
end Go.Dag

/-! The mathematics of layer 2: all best cuts as a list, and the ribbon seen from its other end. No marks besides the import's. -/
namespace Go.Dag

/-! ## All best cuts -/
def bestsF (t : Tab) : Nat → Nat → List (List (Nat × Nat))
  | 0, _ => [[]]
  | f + 1, n => if n < t.L then (if dn t (n + 1) = dn t n then bestsF t f (n + 1) else []) ++
      (List.range t.K).flatMap fun i => if t.can n i = true ∧ t.P i + dn t (n + t.W i) = dn t n then (bestsF t f (n + t.W i)).map fun g => (n, i) :: g else []
    else [[]]
theorem flat_len {α : Type} (xs : List Nat) (f : Nat → List α) : ((xs.flatMap f).length : Int) = isum xs fun i => ((f i).length : Int) := by
  induction xs with
  | nil => rfl
  | cons x xs ih => rw [List.flatMap_cons, List.length_append, isum_cons, Int.natCast_add, ih]
theorem bests_len {t : Tab} (h : t.Ok) : ∀ (f n : Nat), t.L - n ≤ f → ((bestsF t f n).length : Int) = many t n
  | 0, n, hf => by rw [many_end t (by omega)]; rfl
  | f + 1, n, hf => by
    rw [bestsF]
    by_cases hn : n < t.L
    · rw [if_pos hn, List.length_append, Int.natCast_add, flat_len, many_step h hn]
      congr 1
      · by_cases c : dn t (n + 1) = dn t n
        · rw [if_pos c, if_pos c, bests_len h f (n + 1) (by omega)]
        · rw [if_neg c, if_neg c]; rfl
      · refine isum_same fun i hi => ?_
        have hw := h.w i (List.mem_range.1 hi)
        by_cases c : t.can n i = true ∧ t.P i + dn t (n + t.W i) = dn t n
        · rw [if_pos c, if_pos c, List.length_map, bests_len h f (n + t.W i) (by omega)]
        · rw [if_neg c, if_neg c]; rfl
    · rw [if_neg hn, many_end t (by omega)]; rfl
theorem bests_mem {t : Tab} (h : t.Ok) : ∀ (f n : Nat), t.L - n ≤ f → ∀ (g : List (Nat × Nat)), g ∈ bestsF t f n ↔ IsBest t n g
  | 0, n, hf, g => by
    rw [bestsF, List.mem_singleton]
    constructor
    · rintro rfl
      exact ⟨trivial, by rw [dn_end t (by omega)]; rfl⟩
    · intro hb
      match g, hb with
      | [], _ => rfl
      | (a, i) :: g, hb => have := hb.cons h; omega
  | f + 1, n, hf, g => by
    rw [bestsF]
    by_cases hn : n < t.L
    · rw [if_pos hn, List.mem_append, List.mem_flatMap]
      constructor
      · rintro (h1 | ⟨i, hi, h1⟩)
        · by_cases c : dn t (n + 1) = dn t n
          · rw [if_pos c] at h1
            have hb := (bests_mem h f (n + 1) (by omega) g).1 h1
            refine ⟨hb.1.later fun a i g' eg => ?_, by rw [hb.2, c]⟩
            have h2 := hb.1
            rw [eg] at h2
            exact Nat.le_of_succ_le h2.1
          · rw [if_neg c] at h1; cases h1
        · have hi' := List.mem_range.1 hi
          have hw := h.w i hi'
          by_cases c : t.can n i = true ∧ t.P i + dn t (n + t.W i) = dn t n
          · rw [if_pos c] at h1
            obtain ⟨g', hg', rfl⟩ := List.mem_map.1 h1
            have hb := (bests_mem h f (n + t.W i) (by omega) g').1 hg'
            exact ⟨⟨Nat.le_refl _, hi', c.1, hb.1⟩, by rw [wth_cons, hb.2]; exact c.2⟩
          · rw [if_neg c] at h1; cases h1
      · intro hb
        by_cases k : ∃ i g', g = (n, i) :: g'
        · obtain ⟨i, g', rfl⟩ := k
          obtain ⟨_, _, _, h4, h5, h6, h7⟩ := hb.cons h
          have hw := h.w i h4
          refine .inr ⟨i, List.mem_range.2 h4, ?_⟩
          rw [if_pos ⟨h5, h6⟩]
          exact List.mem_map.2 ⟨g', (bests_mem h f (n + t.W i) (by omega) g').2 h7, rfl⟩
        · obtain ⟨e, hb'⟩ := hb.waste h hn fun a i g' eg => by
            subst eg
            have h1 := (hb.cons h).1
            have h2 : a ≠ n := fun e => k ⟨i, g', by rw [e]⟩
            omega
          refine .inl ?_
          rw [if_pos e]
          exact (bests_mem h f (n + 1) (by omega) g).2 hb'
    · rw [if_neg hn, List.mem_singleton]
      constructor
      · rintro rfl
        exact ⟨trivial, by rw [dn_end t (by omega)]; rfl⟩
      · intro hb
        match g, hb with
        | [], _ => rfl
        | (a, i) :: g, hb => have := hb.cons h; omega
theorem bests_nodup {t : Tab} (h : t.Ok) : ∀ (f n : Nat), t.L - n ≤ f → (bestsF t f n).Nodup
  | 0, n, hf => by simp [bestsF]
  | f + 1, n, hf => by
    rw [bestsF]
    by_cases hn : n < t.L
    · rw [if_pos hn, List.nodup_append]
      refine ⟨?_, ?_, fun g hg g' hg' e => ?_⟩
      · split
        · exact bests_nodup h f (n + 1) (by omega)
        · exact List.nodup_nil
      · unfold List.Nodup
        rw [List.pairwise_flatMap]
        constructor
        · intro i hi
          have hw := h.w i (List.mem_range.1 hi)
          split
          · have := bests_nodup h f (n + t.W i) (by omega)
            unfold List.Nodup at this
            rw [List.pairwise_map]
            exact this.imp fun hne e => hne (List.cons.inj e).2
          · exact List.Pairwise.nil
        · refine (List.nodup_range (n := t.K)).imp fun {i j} hne g hg g' hg' e => ?_
          split at hg
          · split at hg'
            · obtain ⟨g1, _, rfl⟩ := List.mem_map.1 hg
              obtain ⟨g2, _, rfl⟩ := List.mem_map.1 hg'
              exact hne (congrArg Prod.snd (List.cons.inj e).1)
            · cases hg'
          · cases hg
      · subst e
        obtain ⟨i, hi, hg'⟩ := List.mem_flatMap.1 hg'
        split at hg'
        · obtain ⟨g1, _, rfl⟩ := List.mem_map.1 hg'
          split at hg
          · have := (bests_mem h f (n + 1) (by omega) _).1 hg
            have := this.1.1
            omega
          · cases hg
        · cases hg'
    · rw [if_neg hn]; simp

/-! ## The ribbon seen from its other end -/
def rev (t : Tab) : Tab := { t with can := fun a i => decide (a + t.W i ≤ t.L) && t.can (t.L - a - t.W i) i }
theorem rev_can {t : Tab} {a i : Nat} : (rev t).can a i = true ↔ a + t.W i ≤ t.L ∧ t.can (t.L - a - t.W i) i = true := by simp [rev]
theorem rev_ok {t : Tab} (h : t.Ok) : (rev t).Ok := ⟨h.w, h.p, fun _ _ _ hc => (rev_can.1 hc).1⟩
/-- Cuts between two places. -/
def Seg (t : Tab) : Nat → Nat → List (Nat × Nat) → Prop
  | n, m, [] => n ≤ m
  | n, m, (a, i) :: g => n ≤ a ∧ i < t.K ∧ t.can a i = true ∧ Seg t (a + t.W i) m g
theorem seg_of {t : Tab} (h : t.Ok) : ∀ {g : List (Nat × Nat)} {n : Nat}, n ≤ t.L → IsCuts t n g → Seg t n t.L g
  | [], _, hn, _ => hn
  | (a, i) :: _, _, _, hc => ⟨hc.1, hc.2.1, hc.2.2.1, seg_of h (h.fit a i hc.2.1 hc.2.2.1) hc.2.2.2⟩
theorem Seg.cuts {t : Tab} : ∀ {g : List (Nat × Nat)} {n m : Nat}, Seg t n m g → IsCuts t n g
  | [], _, _, _ => trivial
  | (_, _) :: _, _, _, hc => ⟨hc.1, hc.2.1, hc.2.2.1, Seg.cuts hc.2.2.2⟩
theorem Seg.le {t : Tab} : ∀ {g : List (Nat × Nat)} {n m : Nat}, Seg t n m g → n ≤ m
  | [], _, _, hc => hc
  | (a, i) :: _, n, m, hc => by have := Seg.le hc.2.2.2; have := hc.1; omega
theorem Seg.append {t : Tab} : ∀ {g g' : List (Nat × Nat)} {n m m' k : Nat}, Seg t n m g → m ≤ m' → Seg t m' k g' → Seg t n k (g ++ g')
  | [], [], _, _, _, _, h1, h2, h3 => by have := Seg.le h3; have : _ ≤ _ := h1; exact Nat.le_trans h1 (Nat.le_trans h2 h3)
  | [], (a, i) :: g', n, m, m', k, h1, h2, h3 => ⟨Nat.le_trans h1 (Nat.le_trans h2 h3.1), h3.2⟩
  | (a, i) :: g, g', _, _, _, _, h1, h2, h3 => ⟨h1.1, h1.2.1, h1.2.2.1, Seg.append h1.2.2.2 h2 h3⟩
def rv (t : Tab) (g : List (Nat × Nat)) : List (Nat × Nat) := (g.map fun s => (t.L - s.1 - t.W s.2, s.2)).reverse
theorem rv_cons (t : Tab) (s : Nat × Nat) (g : List (Nat × Nat)) : rv t (s :: g) = rv t g ++ [(t.L - s.1 - t.W s.2, s.2)] := by simp [rv]
theorem seg_rev {t : Tab} (h : t.Ok) : ∀ {g : List (Nat × Nat)} {n m : Nat}, m ≤ t.L → Seg t n m g → Seg (rev t) (t.L - m) (t.L - n) (rv t g)
  | [], n, m, _, hc => by
    have hc : n ≤ m := hc
    show t.L - m ≤ t.L - n
    omega
  | (a, i) :: g, n, m, hm, hc => by
    obtain ⟨h1, h2, h3, h4⟩ := hc
    have hf := h.fit a i h2 h3
    rw [rv_cons]
    dsimp only
    refine (seg_rev h hm h4).append (m' := t.L - a - t.W i) (by omega) ⟨Nat.le_refl _, h2, rev_can.2 ⟨by omega, ?_⟩, ?_⟩
    · rw [show t.L - (t.L - a - t.W i) - t.W i = a by omega]
      exact h3
    · show t.L - a - t.W i + t.W i ≤ t.L - n
      omega
theorem isum_append {α : Type} (xs ys : List α) (f : α → Int) : isum (xs ++ ys) f = isum xs f + isum ys f := by simp [isum]
theorem wth_rv (t : Tab) (g : List (Nat × Nat)) : wth (rev t) (rv t g) = wth t g := by
  induction g with
  | nil => rfl
  | cons s g ih =>
    rw [rv_cons, wth_cons, wth, isum_append, ← wth, ih, isum_cons]
    simp only [isum, List.map_nil, List.sum_nil, rev]
    omega
theorem rv_rv {t : Tab} (h : t.Ok) : ∀ {g : List (Nat × Nat)} {n : Nat}, IsCuts t n g → rv t (rv t g) = g
  | [], _, _ => rfl
  | (a, i) :: g, n, hc => by
    obtain ⟨h1, h2, h3, h4⟩ := hc
    have hf := h.fit a i h2 h3
    have := rv_rv h h4
    rw [rv_cons]
    unfold rv at this ⊢
    rw [List.map_append, List.reverse_append, this]
    simp only [List.map_cons, List.map_nil, List.reverse_cons, List.reverse_nil, List.nil_append, List.singleton_append]
    rw [show t.L - (t.L - a - t.W i) - t.W i = a by omega]
theorem rev_cuts {t : Tab} (h : t.Ok) {g : List (Nat × Nat)} (hc : IsCuts t 0 g) : IsCuts (rev t) 0 (rv t g) := by
  have := seg_rev h (Nat.le_refl _) (seg_of h (Nat.zero_le _) hc)
  rw [Nat.sub_self] at this
  exact this.cuts
theorem cuts_rev {t : Tab} (h : t.Ok) : ∀ {g : List (Nat × Nat)} {n : Nat}, IsCuts (rev (rev t)) n g → IsCuts t n g
  | [], _, _ => trivial
  | (a, i) :: g, n, hc => by
    obtain ⟨h1, h2, h3, h4⟩ := hc
    obtain ⟨h5, h6⟩ := rev_can.1 h3
    obtain ⟨h7, h8⟩ := rev_can.1 h6
    have h5 : a + t.W i ≤ t.L := h5
    have h8 : t.can (t.L - (t.L - a - t.W i) - t.W i) i = true := h8
    rw [show t.L - (t.L - a - t.W i) - t.W i = a by omega] at h8
    exact ⟨h1, h2, h8, cuts_rev h h4⟩
theorem rev_worth {t : Tab} (h : t.Ok) : dn (rev t) 0 = dn t 0 := by
  have f1 := first_best h t.L 0 (Nat.le_refl _)
  have f2 := first_best (rev_ok h) t.L 0 (Nat.le_refl _)
  have l1 := (rev_cuts h f1.1).le (rev_ok h)
  have l2 := (cuts_rev h (rev_cuts (rev_ok h) f2.1)).le h
  rw [wth_rv, f1.2] at l1
  have e : wth t (rv (rev t) (firstF (rev t) t.L 0)) = wth (rev t) (firstF (rev t) t.L 0) := wth_rv (rev t) _
  rw [e, f2.2] at l2
  omega
theorem nodup_le {α : Type} [DecidableEq α] : ∀ {xs ys : List α}, xs.Nodup → (∀ x ∈ xs, x ∈ ys) → xs.length ≤ ys.length
  | [], _, _, _ => Nat.zero_le _
  | x :: xs, ys, h1, h2 => by
    have hx := h2 x List.mem_cons_self
    obtain ⟨h3, h4⟩ := List.nodup_cons.1 h1
    have := nodup_le (ys := ys.erase x) h4 fun y hy => (List.mem_erase_of_ne (fun (e : y = x) => h3 (e ▸ hy))).2 (h2 y (List.mem_cons_of_mem _ hy))
    have e := List.length_erase_of_mem hx
    have := List.length_pos_of_mem hx
    rw [List.length_cons]
    omega
theorem rev_many_le {t : Tab} (h : t.Ok) : many t 0 ≤ many (rev t) 0 := by
  have b1 := bests_len h t.L 0 (Nat.le_refl _)
  have b2 := bests_len (rev_ok h) t.L 0 (Nat.le_refl _)
  rw [← b1, ← b2]
  have hn : ((bestsF t t.L 0).map (rv t)).Nodup := by
    unfold List.Nodup
    rw [List.pairwise_map]
    have := bests_nodup h t.L 0 (Nat.le_refl _)
    unfold List.Nodup at this
    refine this.imp_of_mem fun {g g'} hg hg' hne e => hne ?_
    have m1 := (bests_mem h t.L 0 (Nat.le_refl _) g).1 hg
    have m2 := (bests_mem h t.L 0 (Nat.le_refl _) g').1 hg'
    rw [← rv_rv h m1.1, ← rv_rv h m2.1, e]
  have := nodup_le hn (ys := bestsF (rev t) t.L 0) fun x hx => by
    obtain ⟨g, hg, rfl⟩ := List.mem_map.1 hx
    have m1 := (bests_mem h t.L 0 (Nat.le_refl _) g).1 hg
    exact (bests_mem (rev_ok h) t.L 0 (Nat.le_refl _) _).2 ⟨rev_cuts h m1.1, by rw [wth_rv, m1.2, rev_worth h]⟩
  rw [List.length_map] at this
  omega
end Go.Dag

/-! The mathematics of layer 2: bounds; the table of a ribbon and kinds; its pieces. No marks besides the import's. -/
namespace Go.Dag

/-! ## Bounds -/
theorem dn_le {t : Tab} (h : t.Ok) {M : Int} (h0 : 0 ≤ M) (hp : ∀ i, i < t.K → t.P i ≤ M) : ∀ (d n : Nat), t.L - n = d → dn t n ≤ M * d := by
  intro d
  induction d using Nat.strongRecOn with
  | _ d ih =>
    intro n hd
    by_cases hn : n < t.L
    · obtain ⟨e, rfl⟩ : ∃ e, d = e + 1 := ⟨d - 1, by omega⟩
      have hM : M * ((e + 1 : Nat) : Int) = M * (e : Int) + M := by rw [Int.natCast_add, Int.mul_add]; simp
      rw [hM]
      have mono : ∀ f : Nat, f ≤ e → M * (f : Int) ≤ M * (e : Int) := fun f hf => Int.mul_le_mul_of_nonneg_left (by omega) h0
      rcases dn_reach h hn with q | ⟨i, hi, _, q⟩
      · have := ih e (by omega) (n + 1) (by omega)
        omega
      · have hw := h.w i hi
        have h1 := ih (t.L - (n + t.W i)) (by omega) (n + t.W i) rfl
        have h2 := mono (t.L - (n + t.W i)) (by omega)
        have h3 := hp i hi
        omega
    · rw [dn_end t (by omega)]
      exact Int.mul_nonneg h0 (by omega)
theorem isum_bound {f : Nat → Int} {B : Int} : ∀ (K : Nat), (∀ i, i < K → f i ≤ B) → isum (List.range K) f ≤ (K : Int) * B
  | 0, _ => by simp [isum]
  | K + 1, h => by
    have e : isum (List.range (K + 1)) f = isum (List.range K) f + f K := by
      unfold isum
      rw [List.range_succ, List.map_append, List.sum_append]
      simp
    have h1 := isum_bound K fun i hi => h i (by omega)
    have h2 := h K (by omega)
    rw [e, Int.natCast_add, Int.add_mul]
    simp only [Int.natCast_one, Int.one_mul]
    omega
theorem six_mono {a b : Nat} (h : a ≤ b) : (6 : Int) ^ a ≤ 6 ^ b := by
  have := Nat.pow_le_pow_right (n := 6) (by omega) h
  have e : ∀ k : Nat, (6 : Int) ^ k = ((6 ^ k : Nat) : Int) := fun k => by simp
  rw [e, e]
  omega
theorem six_pos (a : Nat) : (1 : Int) ≤ 6 ^ a := by have := six_mono (Nat.zero_le a); simpa using this
theorem many_le {t : Tab} (h : t.Ok) (hk : t.K ≤ 6) : ∀ (d n : Nat), t.L - n = d → many t n ≤ 6 ^ d := by
  intro d
  induction d using Nat.strongRecOn with
  | _ d ih =>
    intro n hd
    by_cases hn : n < t.L
    · obtain ⟨e, rfl⟩ : ∃ e, d = e + 1 := ⟨d - 1, by omega⟩
      have h6 := six_pos e
      have hs : (6 : Int) ^ (e + 1) = 6 ^ e * 6 := Int.pow_succ 6 e
      rw [many_step h hn]
      by_cases c : dn t (n + 1) = dn t n
      · rw [if_pos c]
        have h1 := ih e (by omega) (n + 1) (by omega)
        match e, hd, ih, h6, hs, h1 with
        | 0, hd, _, _, hs, h1 =>
          have hz : isum (List.range t.K) (fun i => if t.can n i = true ∧ t.P i + dn t (n + t.W i) = dn t n then many t (n + t.W i) else 0) = 0 := isum_zero fun i hi => by
            have hi' := List.mem_range.1 hi
            rw [if_neg]
            rintro ⟨c1, c2⟩
            have hw := h.w i hi'
            have hf := h.fit n i hi' c1
            have hp := h.p i hi'
            rw [show n + t.W i = n + 1 by omega] at c2
            omega
          rw [hz]
          simp only [Nat.zero_add] at hs ⊢
          omega
        | e + 1, hd, ih, h6, hs, h1 =>
          have hs2 : (6 : Int) ^ (e + 1) = 6 ^ e * 6 := Int.pow_succ 6 e
          have h7 := six_pos e
          have hb := isum_bound (f := fun i => if t.can n i = true ∧ t.P i + dn t (n + t.W i) = dn t n then many t (n + t.W i) else 0) (B := 6 ^ e) t.K fun i hi' => by
            split
            · rename_i c1
              have hw := h.w i hi'
              have hp := h.p i hi'
              have hw2 : t.W i ≠ 1 := fun e1 => by
                have c2 := c1.2
                rw [e1] at c2
                omega
              have h3 := ih (t.L - (n + t.W i)) (by omega) (n + t.W i) rfl
              have h4 := six_mono (a := t.L - (n + t.W i)) (b := e) (by omega)
              omega
            · omega
          have hkb : (t.K : Int) * 6 ^ e ≤ 6 * 6 ^ e := Int.mul_le_mul_of_nonneg_right (by omega) (by omega)
          omega
      · rw [if_neg c]
        have hb := isum_bound (f := fun i => if t.can n i = true ∧ t.P i + dn t (n + t.W i) = dn t n then many t (n + t.W i) else 0) (B := 6 ^ e) t.K fun i hi' => by
          split
          · have hw := h.w i hi'
            have h3 := ih (t.L - (n + t.W i)) (by omega) (n + t.W i) rfl
            have h4 := six_mono (a := t.L - (n + t.W i)) (b := e) (by omega)
            omega
          · omega
        have hkb : (t.K : Int) * 6 ^ e ≤ 6 * 6 ^ e := Int.mul_le_mul_of_nonneg_right (by omega) (by omega)
        omega
    · rw [many_end t (by omega)]
      exact six_pos d

/-! ## Ribbons and kinds -/
structure RibD where
  len : Int
  fs : List Int
structure KindD where
  w : Int
  p : Int
  m : Int
def kd (ks : List KindD) (i : Nat) : KindD := ks.getD i ⟨0, 0, 0⟩
def isF (r : RibD) (u : Int) : Bool := r.fs.contains u
/-- How many faults lie in n units from a place on. -/
def nf (r : RibD) (a n : Nat) : Int := isum (List.range n) fun u => if isF r ((a + u : Nat) : Int) = true then 1 else 0
def canB (r : RibD) (k : KindD) (a : Nat) : Bool := decide ((a : Int) + k.w ≤ r.len) && decide (nf r a k.w.toNat ≤ k.m)
def tabOf (r : RibD) (ks : List KindD) : Tab := { L := r.len.toNat, K := ks.length, W := fun i => (kd ks i).w.toNat, P := fun i => (kd ks i).p, can := fun a i => canB r (kd ks i) a }
structure KindOk (k : KindD) : Prop where
  w1 : 1 ≤ k.w
  w2 : k.w ≤ 24
  p1 : 1 ≤ k.p
  p2 : k.p ≤ 1000
  m1 : 0 ≤ k.m
  m2 : k.m ≤ 24
def KindsOk (ks : List KindD) : Prop := (1 ≤ ks.length ∧ ks.length ≤ 6) ∧ ∀ k ∈ ks, KindOk k
theorem kd_ok {ks : List KindD} (h : KindsOk ks) {i : Nat} (hi : i < ks.length) : KindOk (kd ks i) := by
  unfold kd
  rw [List.getD_eq_getElem?_getD, List.getElem?_eq_getElem hi]
  exact h.2 _ (List.getElem_mem hi)
theorem kd_w {ks : List KindD} (h : KindsOk ks) (i : Nat) : 0 ≤ (kd ks i).w := by
  by_cases hi : i < ks.length
  · have := (kd_ok h hi).w1; omega
  · unfold kd
    rw [List.getD_eq_getElem?_getD, List.getElem?_eq_none (by omega)]
    exact Int.le_refl _
theorem tabOf_ok {r : RibD} {ks : List KindD} (h0 : 0 ≤ r.len) (h : KindsOk ks) : (tabOf r ks).Ok := by
  refine ⟨fun i hi => ?_, fun i hi => (kd_ok h hi).p1, fun a i hi hc => ?_⟩
  · have := (kd_ok h hi).w1
    simp only [tabOf]
    omega
  · have h1 := (kd_ok h hi).w1
    simp only [tabOf, canB, Bool.and_eq_true, decide_eq_true_eq] at hc ⊢
    omega
theorem tabOf_dn {r : RibD} {ks : List KindD} (h0 : 0 ≤ r.len) (h24 : r.len ≤ 24) (h : KindsOk ks) (n : Nat) : 0 ≤ dn (tabOf r ks) n ∧ dn (tabOf r ks) n ≤ 24000 := by
  have hok := tabOf_ok h0 h
  have h1 := dn_le hok (M := 1000) (by omega) (fun i hi => (kd_ok h hi).p2) _ n rfl
  have h2 : (tabOf r ks).L = r.len.toNat := rfl
  refine ⟨dn_nonneg hok _ n rfl, ?_⟩
  omega
/-! ## Pieces -/
def piece (r : RibD) (a b : Int) : RibD := ⟨b - a, (r.fs.filter fun f => decide (a ≤ f) && decide (f < b)).map fun f => f - a⟩
theorem isF_piece (r : RibD) (a b u : Int) : isF (piece r a b) u = (decide (0 ≤ u) && decide (u + a < b) && isF r (u + a)) := by
  unfold isF piece
  rw [Bool.eq_iff_iff]
  simp only [List.contains_iff_mem, List.mem_map, List.mem_filter, Bool.and_eq_true, decide_eq_true_eq]
  constructor
  · rintro ⟨f, ⟨h1, h2, h3⟩, rfl⟩
    rw [show f - a + a = f by omega]
    exact ⟨⟨by omega, h3⟩, h1⟩
  · rintro ⟨⟨h1, h2⟩, h3⟩
    exact ⟨u + a, ⟨h3, by omega, h2⟩, by omega⟩
theorem nf_piece (r : RibD) (a b : Int) (ha : 0 ≤ a) (x n : Nat) (h : (x : Int) + n + a ≤ b) : nf (piece r a b) x n = nf r (x + a.toNat) n := by
  unfold nf
  refine isum_same fun u hu => ?_
  have hu' := List.mem_range.1 hu
  rw [isF_piece, decide_eq_true (by omega), decide_eq_true (by omega), Bool.true_and, Bool.true_and, show ((x + u : Nat) : Int) + a = ((x + a.toNat + u : Nat) : Int) by omega]
theorem tab_pre {r : RibD} {ks : List KindD} (h : KindsOk ks) {m : Nat} (hm : (m : Int) ≤ r.len) : tabOf (piece r 0 m) ks = pre (tabOf r ks) m := by
  unfold tabOf pre
  have hL : (piece r 0 (m : Int)).len.toNat = m := by simp [piece]
  rw [hL]
  congr 1
  funext a i
  have hw := kd_w h i
  dsimp only
  rw [Bool.eq_iff_iff]
  simp only [canB, Bool.and_eq_true, decide_eq_true_eq]
  have hlen : (piece r 0 (m : Int)).len = m := by simp [piece]
  rw [hlen]
  constructor
  · rintro ⟨h1, h2⟩
    rw [nf_piece r 0 m (by omega) a _ (by omega), Int.toNat_zero, Nat.add_zero] at h2
    exact ⟨⟨by omega, h2⟩, by omega⟩
  · rintro ⟨⟨h1, h2⟩, h3⟩
    rw [nf_piece r 0 m (by omega) a _ (by omega), Int.toNat_zero, Nat.add_zero]
    exact ⟨by omega, h2⟩
theorem tab_suf {r : RibD} {ks : List KindD} (h : KindsOk ks) {m : Nat} (hm : (m : Int) ≤ r.len) : tabOf (piece r m r.len) ks = suf (tabOf r ks) m := by
  unfold tabOf suf
  have hL : (piece r (m : Int) r.len).len.toNat = r.len.toNat - m := by simp only [piece]; omega
  rw [hL]
  congr 1
  funext a i
  have hw := kd_w h i
  dsimp only
  generalize kd ks i = k at hw
  rw [Bool.eq_iff_iff]
  simp only [canB, Bool.and_eq_true, decide_eq_true_eq]
  have hlen : (piece r (m : Int) r.len).len = r.len - m := rfl
  rw [hlen]
  constructor
  · rintro ⟨h1, h2⟩
    rw [nf_piece r m r.len (by omega) a _ (by omega), Int.toNat_natCast] at h2
    exact ⟨by omega, h2⟩
  · rintro ⟨h1, h2⟩
    rw [nf_piece r m r.len (by omega) a _ (by omega), Int.toNat_natCast]
    exact ⟨by omega, h2⟩
end Go.Dag

/-! The mathematics of layer 2: the ribbon from its other end, its places and sheets; tables that are the same; joined ribbons, and faults. No marks besides the import's. -/
namespace Go.Dag

theorem bk_same {t t' : Tab} (h : t.Ok) (h' : t'.Ok) (hL : t'.L = t.L) (hK : t'.K = t.K) (hW : ∀ i, i < t.K → t'.W i = t.W i) (hP : ∀ i, i < t.K → t'.P i = t.P i) (hc : ∀ a i, i < t.K → t'.can a i = t.can a i) :
    ∀ (d n : Nat), t.L - n = d → bk t' n = bk t n := by
  intro d
  induction d using Nat.strongRecOn with
  | _ d ih =>
    intro n hd
    by_cases hn : n < t.L
    · rw [bk_step h' (by omega), bk_step h hn, hK, ih _ (by omega) (n + 1) rfl]
      unfold updL
      refine foldl_same _ _ _ _ fun s i hi => ?_
      have hi' := List.mem_range.1 hi
      have hw := h.w i hi'
      dsimp only
      unfold dn many
      rw [hc n i hi', hW i hi', hP i hi', ih _ (by omega) (n + t.W i) rfl]
    · rw [bk_end t' (by omega), bk_end t (by omega)]
theorem rev_rev {t : Tab} (h : t.Ok) (n : Nat) : bk (rev (rev t)) n = bk t n := by
  refine bk_same h (rev_ok (rev_ok h)) rfl rfl (fun _ _ => rfl) (fun _ _ => rfl) (fun a i hi => ?_) _ n rfl
  rw [Bool.eq_iff_iff, rev_can, rev_can]
  have eW : (rev t).W i = t.W i := rfl
  have eL : (rev t).L = t.L := rfl
  rw [eW, eL]
  constructor
  · rintro ⟨h1, h2, h3⟩
    rw [show t.L - (t.L - a - t.W i) - t.W i = a by omega] at h3
    exact h3
  · intro hc
    have hf := h.fit a i hi hc
    refine ⟨hf, by omega, ?_⟩
    rw [show t.L - (t.L - a - t.W i) - t.W i = a by omega]
    exact hc
theorem rev_many {t : Tab} (h : t.Ok) : many (rev t) 0 = many t 0 := by
  have h1 := rev_many_le h
  have h2 := rev_many_le (rev_ok h)
  have e : many (rev (rev t)) 0 = many t 0 := congrArg Prod.snd (rev_rev h 0)
  omega
theorem up_rev {t : Tab} (h : t.Ok) : ∀ n, n ≤ t.L → up (rev t) n = dn t (t.L - n) := by
  intro n
  induction n using Nat.strongRecOn with
  | _ n ih =>
    intro hn
    match n, hn, ih with
    | 0, _, _ => rw [up_zero, dn_end t (by omega)]
    | n + 1, hn, ih =>
      have hr := rev_ok h
      have i0 := ih n (by omega) (by omega)
      have w0 := up_waste hr n
      have d0 := dn_waste h (n := t.L - (n + 1)) (by omega)
      rw [show t.L - (n + 1) + 1 = t.L - n by omega] at d0
      have le1 : up (rev t) (n + 1) ≤ dn t (t.L - (n + 1)) := by
        rcases up_reach hr n with e | ⟨a, i, hi, hc, ea, e⟩
        · omega
        · have hw := h.w i hi
          have ea : a + t.W i = n + 1 := ea
          have e : up (rev t) a + t.P i = up (rev t) (n + 1) := e
          obtain ⟨h1, h2⟩ := rev_can.1 hc
          have ia := ih a (by omega) (by omega)
          rw [show t.L - a - t.W i = t.L - (n + 1) by omega] at h2
          have := dn_sheet h (n := t.L - (n + 1)) (by omega) hi h2
          rw [show t.L - (n + 1) + t.W i = t.L - a by omega] at this
          omega
      have ge1 : dn t (t.L - (n + 1)) ≤ up (rev t) (n + 1) := by
        rcases dn_reach h (n := t.L - (n + 1)) (by omega) with e | ⟨i, hi, hc, e⟩
        · rw [show t.L - (n + 1) + 1 = t.L - n by omega] at e
          omega
        · have hw := h.w i hi
          have hf := h.fit _ i hi hc
          have ia := ih (n + 1 - t.W i) (by omega) (by omega)
          rw [show t.L - (n + 1 - t.W i) = t.L - (n + 1) + t.W i by omega] at ia
          have hc' : (rev t).can (n + 1 - t.W i) i = true := rev_can.2 ⟨by omega, by
            rw [show t.L - (n + 1 - t.W i) - t.W i = t.L - (n + 1) by omega]; exact hc⟩
          have := up_sheet hr (a := n + 1 - t.W i) (i := i) hi hc'
          rw [show n + 1 - t.W i + (rev t).W i = n + 1 by show n + 1 - t.W i + t.W i = n + 1; omega] at this
          have this : up (rev t) (n + 1 - t.W i) + t.P i ≤ up (rev t) (n + 1) := this
          omega
      omega
theorem dn_rev {t : Tab} (h : t.Ok) {n : Nat} (hn : n ≤ t.L) : dn (rev t) n = up t (t.L - n) := by
  have h1 := up_rev (rev_ok h) (t.L - n) (by show t.L - n ≤ t.L; omega)
  have e1 : (rev t).L = t.L := rfl
  rw [e1, show t.L - (t.L - n) = n by omega] at h1
  rw [← h1]
  -- up of the table turned twice is up of the table
  have key : ∀ m, up (rev (rev t)) m = up t m := by
    intro m
    induction m using Nat.strongRecOn with
    | _ m ih =>
      match m, ih with
      | 0, _ => rfl
      | m + 1, ih =>
        rw [up_step (rev_ok (rev_ok h)) m, up_step h m, ih m (by omega)]
        unfold maxL
        refine foldl_same _ _ _ _ fun s i hi => ?_
        have hi' := List.mem_range.1 hi
        have hw := h.w i hi'
        dsimp only
        have eW : (rev (rev t)).W i = t.W i := rfl
        have eP : (rev (rev t)).P i = t.P i := rfl
        have ec : canTo (rev (rev t)) (m + 1) i = canTo t (m + 1) i := by
          unfold canTo
          rw [eW, Bool.eq_iff_iff]
          simp only [Bool.and_eq_true, decide_eq_true_eq]
          refine and_congr_right fun hle => ?_
          rw [rev_can, rev_can]
          have eW2 : (rev t).W i = t.W i := rfl
          rw [eW2, e1]
          constructor
          · rintro ⟨h1, h2, h3⟩
            rw [show t.L - (t.L - (m + 1 - t.W i) - t.W i) - t.W i = m + 1 - t.W i by omega] at h3
            exact h3
          · intro hc
            have hf := h.fit _ i hi' hc
            refine ⟨hf, by omega, ?_⟩
            rw [show t.L - (t.L - (m + 1 - t.W i) - t.W i) - t.W i = m + 1 - t.W i by omega]
            exact hc
        rw [ec, eW, eP, ih (m + 1 - t.W i) (by omega)]
  exact key _
theorem on_rev {t : Tab} (h : t.Ok) {n : Nat} (hn : n ≤ t.L) : On (rev t) n ↔ On t (t.L - n) := by
  unfold On
  rw [up_rev h n hn, dn_rev h hn, rev_worth h]
  omega
theorem best_rev {t : Tab} (h : t.Ok) {a i : Nat} (hb : Best t a i) : a + t.W i ≤ t.L ∧ Best (rev t) (t.L - a - t.W i) i := by
  obtain ⟨h1, h2, h3, h4⟩ := hb
  have hf := h.fit a i h1 h2
  have hw := h.w i h1
  obtain ⟨o1, e1⟩ := (sheet_iff h h1 h2).1 ⟨h3, h4⟩
  have hc : (rev t).can (t.L - a - t.W i) i = true := rev_can.2 ⟨by omega, by
    rw [show t.L - (t.L - a - t.W i) - t.W i = a by omega]; exact h2⟩
  have eW : t.L - a - t.W i + (rev t).W i = t.L - a := by show t.L - a - t.W i + t.W i = t.L - a; omega
  refine ⟨hf, h1, hc, ?_, ?_⟩
  · rw [eW, up_rev h _ (by omega), up_rev h _ (by omega), show t.L - (t.L - a - t.W i) = a + t.W i by omega, show t.L - (t.L - a) = a by omega]
    show dn t (a + t.W i) + t.P i = dn t a
    omega
  · rw [eW, on_rev h (by omega), show t.L - (t.L - a) = a by omega]
    exact o1

/-! ## Ribbons with the same faults; more faults; joined ribbons -/
theorem nf_same {r r' : RibD} {x y n : Nat} (h : ∀ u, u < n → isF r' ((y + u : Nat) : Int) = isF r ((x + u : Nat) : Int)) : nf r' y n = nf r x n := by
  unfold nf
  refine isum_same fun u hu => ?_
  rw [h u (List.mem_range.1 hu)]
theorem nf_mono {r r' : RibD} {x n : Nat} (h : ∀ u : Int, isF r u = true → isF r' u = true) : nf r x n ≤ nf r' x n := by
  unfold nf
  generalize List.range n = us
  induction us with
  | nil => exact Int.le_refl _
  | cons u us ih =>
    rw [isum_cons, isum_cons]
    have : (if isF r ((x + u : Nat) : Int) = true then (1 : Int) else 0) ≤ if isF r' ((x + u : Nat) : Int) = true then 1 else 0 := by
      by_cases c : isF r ((x + u : Nat) : Int) = true
      · rw [if_pos c, if_pos (h _ c)]; omega
      · rw [if_neg c]; split <;> omega
    omega
/-- With more faults best cuts are worth no more. -/
theorem fewer_faults {r r' : RibD} {ks : List KindD} (h0 : 0 ≤ r.len) (hk : KindsOk ks) (hl : r'.len = r.len) (h : ∀ u : Int, isF r u = true → isF r' u = true) (n : Nat) : dn (tabOf r' ks) n ≤ dn (tabOf r ks) n := by
  refine dn_more (t := tabOf r' ks) (t' := tabOf r ks) (tabOf_ok (by omega) hk) (tabOf_ok h0 hk) (by simp only [tabOf]; rw [hl]) (fun a i hi hc => ⟨i, hi, ?_, rfl, Int.le_refl _⟩) _ n rfl
  have hc : canB r' (kd ks i) a = true := hc
  show canB r (kd ks i) a = true
  unfold canB at hc ⊢
  simp only [Bool.and_eq_true, decide_eq_true_eq] at hc ⊢
  have := nf_mono (x := a) (n := (kd ks i).w.toNat) h
  omega
theorem tab_same {r r' : RibD} {ks : List KindD} (hk : KindsOk ks) (hl : r'.len = r.len) (h : ∀ u : Int, 0 ≤ u → u < r.len → isF r' u = isF r u) : tabOf r' ks = tabOf r ks := by
  unfold tabOf
  rw [hl]
  congr 1
  funext a i
  have hw := kd_w hk i
  rw [Bool.eq_iff_iff]
  simp only [canB, Bool.and_eq_true, decide_eq_true_eq]
  rw [hl]
  refine and_congr_right fun hle => ?_
  rw [nf_same (r := r) (x := a) fun u hu => h _ (by omega) (by omega)]
end Go.Dag

/-! The mathematics of layer 2: what makes a ribbon, kinds and cuts valid; a ribbon that is turned, two that are joined; more kinds. No marks besides the imports'. -/
namespace Go.Dag

/-! ## Valid ribbons and kinds -/
def fsOk (len : Int) : Int → List Int → Bool
  | _, [] => true
  | lo, f :: fs => decide (lo ≤ f) && decide (f ≤ len - 1) && fsOk len (f + 1) fs
def ribErr (r : RibD) : Int := if r.len < 1 ∨ 24 < r.len then 6 else if fsOk r.len 0 r.fs = true then 0 else 3
def okKind (k : KindD) : Bool := decide (1 ≤ k.w) && decide (k.w ≤ 24) && (decide (1 ≤ k.p) && decide (k.p ≤ 1000)) && (decide (0 ≤ k.m) && decide (k.m ≤ 24))
def kindErr (ks : List KindD) : Int := if ks.length < 1 ∨ 6 < ks.length then 6 else if ks.all okKind = true then 0 else 3
def bothErr (r : RibD) (ks : List KindD) : Int := if ribErr r ≠ 0 then ribErr r else kindErr ks
structure RibOk (r : RibD) : Prop where
  l1 : 1 ≤ r.len
  l2 : r.len ≤ 24
  fs : fsOk r.len 0 r.fs = true
theorem ribErr_zero {r : RibD} (h : ribErr r = 0) : RibOk r := by
  unfold ribErr at h
  split at h
  · omega
  · split at h
    · exact ⟨by omega, by omega, by assumption⟩
    · omega
theorem ribErr_of {r : RibD} (h : RibOk r) : ribErr r = 0 := by
  unfold ribErr
  have := h.l1
  have := h.l2
  rw [if_neg (by omega), if_pos h.fs]
theorem okKind_iff (k : KindD) : okKind k = true ↔ KindOk k := by
  unfold okKind
  simp only [Bool.and_eq_true, decide_eq_true_eq]
  exact ⟨fun ⟨⟨⟨a, b⟩, c, d⟩, e, f⟩ => ⟨a, b, c, d, e, f⟩, fun h => ⟨⟨⟨h.w1, h.w2⟩, h.p1, h.p2⟩, h.m1, h.m2⟩⟩
theorem kindErr_zero {ks : List KindD} (h : kindErr ks = 0) : KindsOk ks := by
  unfold kindErr at h
  split at h
  · omega
  · split at h
    · rename_i h1 h2
      rw [List.all_eq_true] at h2
      exact ⟨by omega, fun k hk => (okKind_iff k).1 (h2 k hk)⟩
    · omega
theorem kindErr_of {ks : List KindD} (h : KindsOk ks) : kindErr ks = 0 := by
  unfold kindErr
  have := h.1
  rw [if_neg (by omega), if_pos (List.all_eq_true.2 fun k hk => (okKind_iff k).2 (h.2 k hk))]
theorem bothErr_zero {r : RibD} {ks : List KindD} (h : bothErr r ks = 0) : RibOk r ∧ KindsOk ks := by
  unfold bothErr at h
  split at h
  · contradiction
  · rename_i h1
    exact ⟨ribErr_zero (by omega), kindErr_zero h⟩
theorem bothErr_of {r : RibD} {ks : List KindD} (h : RibOk r) (hk : KindsOk ks) : bothErr r ks = 0 := by
  unfold bothErr
  rw [if_neg (by rw [ribErr_of h]; simp), kindErr_of hk]
theorem fsOk_bound {len : Int} : ∀ {fs : List Int} {lo : Int}, fsOk len lo fs = true → ∀ f ∈ fs, lo ≤ f ∧ f < len
  | [], _, _, f, hf => by cases hf
  | x :: fs, lo, h, f, hf => by
    simp only [fsOk, Bool.and_eq_true, decide_eq_true_eq] at h
    rcases List.mem_cons.1 hf with rfl | hf
    · omega
    · have := fsOk_bound h.2 f hf
      omega
theorem fsOk_len {len : Int} : ∀ {fs : List Int} {lo : Int}, fsOk len lo fs = true → lo ≤ len → (fs.length : Int) ≤ len - lo
  | [], _, _, h => by simp; omega
  | x :: fs, lo, h, _ => by
    simp only [fsOk, Bool.and_eq_true, decide_eq_true_eq] at h
    have := fsOk_len h.2 (by omega)
    simp only [List.length_cons]
    omega
theorem fsOk_weak {len : Int} : ∀ {fs : List Int} {lo lo' : Int}, fsOk len lo fs = true → lo' ≤ lo → fsOk len lo' fs = true
  | [], _, _, _, _ => rfl
  | x :: fs, lo, lo', h, hl => by
    simp only [fsOk, Bool.and_eq_true, decide_eq_true_eq] at h ⊢
    exact ⟨⟨by omega, h.1.2⟩, h.2⟩
theorem fsOk_append {len : Int} : ∀ {fs gs : List Int} {lo lo' : Int}, fsOk len lo fs = true → fsOk len lo' gs = true → (∀ f ∈ fs, f < lo') → lo ≤ lo' → fsOk len lo (fs ++ gs) = true
  | [], gs, _, _, _, h, _, hl => by simpa using fsOk_weak h hl
  | x :: fs, gs, lo, lo', h, h', hb, hl => by
    simp only [fsOk, Bool.and_eq_true, decide_eq_true_eq, List.cons_append] at h ⊢
    exact ⟨h.1, fsOk_append h.2 h' (fun f hf => hb f (List.mem_cons_of_mem _ hf)) (by have := hb x List.mem_cons_self; omega)⟩
theorem RibOk.count {r : RibD} (h : RibOk r) : r.fs.length ≤ 24 := by
  have := fsOk_len h.fs (by have := h.l1; omega)
  have := h.l2
  omega
theorem isF_in {r : RibD} (h : RibOk r) {u : Int} (hu : isF r u = true) : 0 ≤ u ∧ u < r.len := by
  unfold isF at hu
  exact fsOk_bound h.fs u (by simpa using hu)

/-! ## Parts of a valid ribbon -/
theorem fsOk_map {len d : Int} : ∀ {fs : List Int} {lo : Int}, fsOk len lo fs = true → fsOk (len + d) (lo + d) (fs.map (· + d)) = true
  | [], _, _ => rfl
  | x :: fs, lo, h => by
    simp only [fsOk, Bool.and_eq_true, decide_eq_true_eq, List.map_cons] at h ⊢
    refine ⟨⟨by omega, by omega⟩, ?_⟩
    have := fsOk_map (d := d) h.2
    rwa [show x + d + 1 = x + 1 + d by omega]
theorem fsOk_piece {len a b : Int} : ∀ {fs : List Int} {lo lo' : Int}, fsOk len lo fs = true → lo' ≤ lo - a ∨ lo' ≤ 0 → fsOk (b - a) lo' ((fs.filter fun f => decide (a ≤ f) && decide (f < b)).map fun f => f - a) = true
  | [], _, _, _, _ => rfl
  | x :: fs, lo, lo', h, hl => by
    simp only [fsOk, Bool.and_eq_true, decide_eq_true_eq] at h
    rw [List.filter_cons]
    by_cases hx : (decide (a ≤ x) && decide (x < b)) = true
    · rw [if_pos hx]
      simp only [Bool.and_eq_true, decide_eq_true_eq] at hx
      simp only [List.map_cons, fsOk, Bool.and_eq_true, decide_eq_true_eq]
      exact ⟨⟨by omega, by omega⟩, fsOk_piece h.2 (.inl (by omega))⟩
    · rw [if_neg hx]
      exact fsOk_piece h.2 (by omega)
theorem piece_ok {r : RibD} (h : RibOk r) {a b : Int} (h0 : 0 ≤ a) (hab : a < b) (hb : b ≤ r.len) : RibOk (piece r a b) := by
  have := h.l2
  exact ⟨by simp only [piece]; omega, by simp only [piece]; omega, fsOk_piece h.fs (.inr (Int.le_refl _))⟩
theorem fsOk_erase {len : Int} : ∀ {fs : List Int} {lo : Int} (i : Nat), fsOk len lo fs = true → fsOk len lo (fs.eraseIdx i) = true
  | [], _, _, h => h
  | x :: fs, lo, 0, h => by
    simp only [fsOk, Bool.and_eq_true, decide_eq_true_eq] at h
    exact fsOk_weak h.2 (by omega)
  | x :: fs, lo, i + 1, h => by
    simp only [fsOk, Bool.and_eq_true, decide_eq_true_eq, List.eraseIdx_cons_succ] at h ⊢
    exact ⟨h.1, fsOk_erase i h.2⟩
def without (r : RibD) (i : Nat) : RibD := ⟨r.len, r.fs.eraseIdx i⟩
theorem without_ok {r : RibD} (h : RibOk r) (i : Nat) : RibOk (without r i) := ⟨h.l1, h.l2, fsOk_erase i h.fs⟩
theorem without_sub {r : RibD} {i : Nat} {u : Int} (h : isF (without r i) u = true) : isF r u = true := by
  unfold isF without at *
  simp only [List.contains_iff_mem] at *
  exact List.mem_of_mem_eraseIdx h
def bare (r : RibD) : RibD := ⟨r.len, []⟩
theorem bare_ok {r : RibD} (h : RibOk r) : RibOk (bare r) := ⟨h.l1, h.l2, rfl⟩
/-- The ribbon with one unit more that is a fault: all units, in order, that are a fault or this one. -/
def moreF (r : RibD) (u : Int) : RibD := ⟨r.len, ((List.range r.len.toNat).map fun (n : Nat) => (n : Int)).filter fun x => decide (x = u) || isF r x⟩
theorem fsOk_range (len : Int) (p : Int → Bool) : ∀ (n m : Nat), (m + n : Int) ≤ len → fsOk len m (((List.range' m n).map fun (n : Nat) => (n : Int)).filter p) = true
  | 0, m, _ => rfl
  | n + 1, m, h => by
    rw [List.range'_succ, List.map_cons, List.filter_cons]
    have ih := fsOk_range len p n (m + 1) (by omega)
    split
    · simp only [fsOk, Bool.and_eq_true, decide_eq_true_eq]
      exact ⟨⟨Int.le_refl _, by omega⟩, by simpa using ih⟩
    · exact fsOk_weak ih (by omega)
theorem more_ok {r : RibD} (h : RibOk r) (u : Int) : RibOk (moreF r u) := by
  refine ⟨h.l1, h.l2, ?_⟩
  have h1 := h.l1
  have := fsOk_range r.len (fun x => decide (x = u) || isF r x) r.len.toNat 0 (by omega)
  rw [← List.range_eq_range'] at this
  exact this
theorem isF_more {r : RibD} (h : RibOk r) {u x : Int} (hx : isF r x = true) : isF (moreF r u) x = true := by
  have hb := isF_in h hx
  show List.contains _ _ = true
  rw [List.contains_iff_mem, moreF, List.mem_filter]
  refine ⟨List.mem_map.2 ⟨x.toNat, List.mem_range.2 (by omega), by omega⟩, by simp [hx]⟩

/-! ## A ribbon that is turned -/
theorem isum_reverse {α : Type} (xs : List α) (f : α → Int) : isum xs.reverse f = isum xs f := by
  induction xs with
  | nil => rfl
  | cons x xs ih =>
    rw [List.reverse_cons, isum_append, ih, isum_cons, isum_cons]
    simp only [isum, List.map_nil, List.sum_nil]
    omega
theorem isum_turn (n : Nat) (f : Nat → Int) : isum (List.range n) (fun u => f (n - 1 - u)) = isum (List.range n) f := by
  rw [← isum_reverse (List.range n) f]
  have e : (List.range n).reverse = (List.range n).map fun u => n - 1 - u := by
    refine List.ext_getElem (by simp) fun i h1 h2 => ?_
    simp
  rw [e]
  unfold isum
  rw [List.map_map]
  rfl
def turnR (r : RibD) : RibD := ⟨r.len, (r.fs.map fun f => r.len - 1 - f).reverse⟩
theorem isF_turn (r : RibD) (u : Int) : isF (turnR r) u = isF r (r.len - 1 - u) := by
  unfold isF turnR
  rw [Bool.eq_iff_iff]
  simp only [List.contains_iff_mem, List.mem_reverse, List.mem_map]
  constructor
  · rintro ⟨f, h1, rfl⟩
    rwa [show r.len - 1 - (r.len - 1 - f) = f by omega]
  · intro h
    exact ⟨_, h, by omega⟩
theorem nf_turn {r : RibD} (h0 : 0 ≤ r.len) {a n : Nat} (h : (a : Int) + n ≤ r.len) : nf (turnR r) a n = nf r (r.len.toNat - a - n) n := by
  unfold nf
  rw [← isum_turn n]
  refine isum_same fun u hu => ?_
  have hu' := List.mem_range.1 hu
  rw [isF_turn, show r.len - 1 - ((a + (n - 1 - u) : Nat) : Int) = ((r.len.toNat - a - n + u : Nat) : Int) by omega]
theorem fsOk_rev {len : Int} : ∀ {fs : List Int} {lo : Int}, 0 ≤ lo → fsOk len lo fs = true → fsOk len 0 (fs.map fun f => len - 1 - f).reverse = true ∧ ∀ f ∈ (fs.map fun f => len - 1 - f).reverse, f ≤ len - 1 - lo
  | [], _, _, _ => ⟨rfl, fun f hf => by simp at hf⟩
  | x :: fs, lo, h0, h => by
    simp only [fsOk, Bool.and_eq_true, decide_eq_true_eq] at h
    obtain ⟨h1, h2⟩ := fsOk_rev (by omega) h.2
    rw [List.map_cons, List.reverse_cons]
    refine ⟨fsOk_append (lo' := len - 1 - x) h1 (by simp [fsOk]; omega) (fun f hf => by have := h2 f hf; omega) (by omega), fun f hf => ?_⟩
    rcases List.mem_append.1 hf with hf | hf
    · have := h2 f hf; omega
    · simp only [List.mem_singleton] at hf; omega
theorem turn_ok {r : RibD} (h : RibOk r) : RibOk (turnR r) := ⟨h.l1, h.l2, (fsOk_rev (Int.le_refl _) h.fs).1⟩
theorem tab_turn {r : RibD} {ks : List KindD} (h0 : 0 ≤ r.len) (hk : KindsOk ks) : tabOf (turnR r) ks = rev (tabOf r ks) := by
  unfold tabOf rev
  congr 1
  funext a i
  have hw := kd_w hk i
  dsimp only
  rw [Bool.eq_iff_iff]
  simp only [canB, Bool.and_eq_true, decide_eq_true_eq]
  have hlen : (turnR r).len = r.len := rfl
  rw [hlen]
  constructor
  · rintro ⟨h1, h2⟩
    rw [nf_turn h0 (by omega)] at h2
    exact ⟨by omega, by omega, h2⟩
  · rintro ⟨h1, h2, h3⟩
    rw [nf_turn h0 (by omega)]
    exact ⟨by omega, h3⟩

/-! ## Two ribbons, one behind the other -/
def joinR (a b : RibD) : RibD := ⟨a.len + b.len, a.fs ++ b.fs.map (· + a.len)⟩
theorem join_ok {a b : RibD} (ha : RibOk a) (hb : RibOk b) (h : a.len + b.len ≤ 24) : RibOk (joinR a b) := by
  have h1 := ha.l1
  have h2 := hb.l1
  refine ⟨by simp only [joinR]; omega, h, ?_⟩
  have f1 : ∀ {fs : List Int} {lo : Int}, fsOk a.len lo fs = true → fsOk (a.len + b.len) lo fs = true := by
    intro fs
    induction fs with
    | nil => intro _ _; rfl
    | cons x fs ih =>
      intro lo hx
      simp only [fsOk, Bool.and_eq_true, decide_eq_true_eq] at hx ⊢
      exact ⟨⟨hx.1.1, by omega⟩, ih hx.2⟩
  have f2 := fsOk_map (d := a.len) hb.fs
  rw [show b.len + a.len = a.len + b.len by omega, show (0 : Int) + a.len = a.len by omega] at f2
  exact fsOk_append (f1 ha.fs) f2 (fun f hf => (fsOk_bound ha.fs f hf).2) (by omega)
theorem isF_join {a b : RibD} (u : Int) : isF (joinR a b) u = (isF a u || isF b (u - a.len)) := by
  unfold isF joinR
  rw [Bool.eq_iff_iff]
  simp only [List.contains_iff_mem, Bool.or_eq_true, List.mem_append, List.mem_map]
  constructor
  · rintro (h | ⟨f, h, rfl⟩)
    · exact .inl h
    · exact .inr (by rwa [show f + a.len - a.len = f by omega])
  · rintro (h | h)
    · exact .inl h
    · exact .inr ⟨_, h, by omega⟩
theorem isF_out {r : RibD} (h : RibOk r) {u : Int} (hu : ¬ (0 ≤ u ∧ u < r.len)) : isF r u = false := by
  cases e : isF r u with
  | false => rfl
  | true => exact absurd (isF_in h e) hu
theorem join_pre {a b : RibD} {ks : List KindD} (ha : RibOk a) (hb : RibOk b) (hk : KindsOk ks) : pre (tabOf (joinR a b) ks) a.len.toNat = tabOf a ks := by
  have h1 := ha.l1
  have h2 := hb.l1
  rw [← tab_pre hk (by simp only [joinR]; omega)]
  refine tab_same hk (by simp only [piece]; omega) fun u hu hu' => ?_
  rw [isF_piece, isF_join, decide_eq_true hu, decide_eq_true (by omega), Int.add_zero, isF_out hb (by omega)]
  simp
theorem join_suf {a b : RibD} {ks : List KindD} (ha : RibOk a) (hb : RibOk b) (hk : KindsOk ks) : suf (tabOf (joinR a b) ks) a.len.toNat = tabOf b ks := by
  have h1 := ha.l1
  have h2 := hb.l1
  rw [← tab_suf hk (by simp only [joinR]; omega)]
  refine tab_same hk (by simp only [piece, joinR]; omega) fun u hu hu' => ?_
  have e : (joinR a b).len = a.len + b.len := rfl
  rw [isF_piece, isF_join, decide_eq_true hu, e, decide_eq_true (by omega), isF_out ha (by omega)]
  simp
  congr 1
  omega

/-! ## More kinds -/
theorem kd_append {ks : List KindD} {k : KindD} {i : Nat} (hi : i < ks.length) : kd (ks ++ [k]) i = kd ks i := by
  unfold kd
  rw [List.getD_eq_getElem?_getD, List.getD_eq_getElem?_getD, List.getElem?_append_left hi]
theorem kd_get {ks : List KindD} {i : Nat} (hi : i < ks.length) : kd ks i = ks[i] := by
  unfold kd
  rw [List.getD_eq_getElem?_getD, List.getElem?_eq_getElem hi]
  rfl
theorem more_kinds {r : RibD} {ks : List KindD} {k : KindD} (h0 : 0 ≤ r.len) (hk : KindsOk ks) (hk' : KindsOk (ks ++ [k])) (n : Nat) : dn (tabOf r ks) n ≤ dn (tabOf r (ks ++ [k])) n := by
  refine dn_more (tabOf_ok h0 hk) (tabOf_ok h0 hk') rfl (fun a i hi hc => ⟨i, ?_, ?_, ?_, ?_⟩) _ n rfl
  · simp only [tabOf, List.length_append, List.length_singleton] at hi ⊢; omega
  · simp only [tabOf] at hi hc ⊢; rw [kd_append hi]; exact hc
  · simp only [tabOf] at hi ⊢; rw [kd_append hi]
  · simp only [tabOf] at hi ⊢; rw [kd_append hi]; exact Int.le_refl _
/-- The same kinds, but for their prices, which are no less. -/
theorem more_price {r : RibD} {ks ks' : List KindD} (h0 : 0 ≤ r.len) (hk : KindsOk ks) (hk' : KindsOk ks') (hl : ks'.length = ks.length) (h : ∀ i, i < ks.length → (kd ks' i).w = (kd ks i).w ∧ (kd ks' i).m = (kd ks i).m ∧ (kd ks i).p ≤ (kd ks' i).p) (n : Nat) :
    dn (tabOf r ks) n ≤ dn (tabOf r ks') n := by
  refine dn_more (tabOf_ok h0 hk) (tabOf_ok h0 hk') rfl (fun a i hi hc => ⟨i, ?_, ?_, ?_, ?_⟩) _ n rfl
  · simp only [tabOf] at hi ⊢; omega
  · simp only [tabOf, canB] at hi hc ⊢; rw [(h i hi).1, (h i hi).2.1]; exact hc
  · simp only [tabOf] at hi ⊢; rw [(h i hi).1]
  · simp only [tabOf] at hi ⊢; exact (h i hi).2.2
end Go.Dag

/-! The mathematics of layer 2: cuts and prices as lists of numbers, what makes them valid; cuts by numbers; what best cuts part. No marks besides the import's. -/
namespace Go.Dag

/-! ## Cuts -/
def sk (ks : List KindD) (s : Int × Int) : KindD := kd ks s.2.toNat
def namedB (r : RibD) (ks : List KindD) (s : Int × Int) : Bool := decide (0 ≤ s.1) && decide (s.1 ≤ r.len) && (decide (0 ≤ s.2) && decide (s.2 ≤ (ks.length : Int) - 1))
def canS (r : RibD) (ks : List KindD) (s : Int × Int) : Bool := canB r (sk ks s) s.1.toNat
def orderB (ks : List KindD) : Int → List (Int × Int) → Bool
  | _, [] => true
  | e, s :: g => decide (e ≤ s.1) && orderB ks (s.1 + (sk ks s).w) g
def cutsSum (ks : List KindD) (g : List (Int × Int)) : Int := isum g fun s => (sk ks s).p
def cutsErr0 (r : RibD) (ks : List KindD) (g : List (Int × Int)) : Int :=
  if r.len < g.length then 6 else if g.all (namedB r ks) = false then 3 else if g.all (canS r ks) = false then 18 else if orderB ks 0 g = false then 16 else 0
def cutsErr (r : RibD) (ks : List KindD) (g : List (Int × Int)) : Int := if bothErr r ks ≠ 0 then bothErr r ks else cutsErr0 r ks g
def cutsV (r : RibD) (ks : List KindD) (g : List (Int × Int)) : Int := if cutsErr r ks g = 0 then cutsSum ks g else 0
def natP (s : Int × Int) : Nat × Nat := (s.1.toNat, s.2.toNat)
def intP (s : Nat × Nat) : Int × Int := ((s.1 : Int), (s.2 : Int))
theorem natP_intP (s : Nat × Nat) : natP (intP s) = s := by simp [natP, intP]
theorem map_nat_int (g : List (Nat × Nat)) : (g.map intP).map natP = g := by
  rw [List.map_map]
  conv => rhs; rw [← List.map_id g]
  exact List.map_congr_left fun s _ => natP_intP s
theorem sk_intP (ks : List KindD) (s : Nat × Nat) : sk ks (intP s) = kd ks s.2 := by simp [sk, intP]
theorem cutsErr_zero {r : RibD} {ks : List KindD} {g : List (Int × Int)} (h : cutsErr r ks g = 0) :
    RibOk r ∧ KindsOk ks ∧ (g.length : Int) ≤ r.len ∧ g.all (namedB r ks) = true ∧ g.all (canS r ks) = true ∧ orderB ks 0 g = true := by
  unfold cutsErr at h
  by_cases hb : bothErr r ks = 0
  · rw [if_neg (by simpa using hb)] at h
    unfold cutsErr0 at h
    obtain ⟨h1, h2⟩ := bothErr_zero hb
    by_cases c1 : r.len < g.length
    · rw [if_pos c1] at h; omega
    rw [if_neg c1] at h
    by_cases c2 : g.all (namedB r ks) = false
    · rw [if_pos c2] at h; omega
    rw [if_neg c2] at h
    by_cases c3 : g.all (canS r ks) = false
    · rw [if_pos c3] at h; omega
    rw [if_neg c3] at h
    by_cases c4 : orderB ks 0 g = false
    · rw [if_pos c4] at h; omega
    exact ⟨h1, h2, by omega, by simpa using c2, by simpa using c3, by simpa using c4⟩
  · rw [if_pos hb] at h
    exact absurd h hb
theorem order_cuts {r : RibD} {ks : List KindD} (hk : KindsOk ks) : ∀ {g : List (Int × Int)} {e : Int}, 0 ≤ e → g.all (namedB r ks) = true → g.all (canS r ks) = true → orderB ks e g = true → IsCuts (tabOf r ks) e.toNat (g.map natP)
  | [], _, _, _, _, _ => trivial
  | s :: g, e, he, hn, hc, ho => by
    simp only [List.all_cons, Bool.and_eq_true] at hn hc
    simp only [orderB, Bool.and_eq_true, decide_eq_true_eq] at ho
    have h1 := hn.1
    simp only [namedB, Bool.and_eq_true, decide_eq_true_eq] at h1
    have hw := kd_w hk s.2.toNat
    refine ⟨show e.toNat ≤ s.1.toNat by omega, show s.2.toNat < ks.length by omega, hc.1, ?_⟩
    have := order_cuts hk (e := s.1 + (sk ks s).w) (by unfold sk; omega) hn.2 hc.2 ho.2
    have e2 : (s.1 + (sk ks s).w).toNat = s.1.toNat + (tabOf r ks).W s.2.toNat := by simp only [tabOf, sk]; omega
    rwa [e2] at this
theorem cutsSum_wth (r : RibD) (ks : List KindD) (g : List (Int × Int)) : cutsSum ks g = wth (tabOf r ks) (g.map natP) := by
  unfold cutsSum wth isum
  rw [List.map_map]
  rfl
theorem cuts_ok {r : RibD} {ks : List KindD} {g : List (Int × Int)} (h : cutsErr r ks g = 0) : IsCuts (tabOf r ks) 0 (g.map natP) ∧ wth (tabOf r ks) (g.map natP) = cutsV r ks g := by
  obtain ⟨h1, h2, h3, h4, h5, h6⟩ := cutsErr_zero h
  refine ⟨order_cuts h2 (Int.le_refl _) h4 h5 h6, ?_⟩
  rw [cutsV, if_pos h, cutsSum_wth r]
theorem cuts_len {t : Tab} (h : t.Ok) : ∀ {g : List (Nat × Nat)} {n : Nat}, n ≤ t.L → IsCuts t n g → n + g.length ≤ t.L
  | [], n, hn, _ => by simpa using hn
  | (a, i) :: g, n, hn, hc => by
    obtain ⟨h1, h2, h3, h4⟩ := hc
    have hw := h.w i h2
    have hf := h.fit a i h2 h3
    have := cuts_len h hf h4
    simp only [List.length_cons]
    omega
theorem cuts_all {r : RibD} {ks : List KindD} (h0 : 0 ≤ r.len) (hk : KindsOk ks) : ∀ {g : List (Nat × Nat)} {n : Nat}, IsCuts (tabOf r ks) n g → (g.map intP).all (namedB r ks) = true ∧ (g.map intP).all (canS r ks) = true ∧ orderB ks n (g.map intP) = true
  | [], _, _ => ⟨rfl, rfl, rfl⟩
  | (a, i) :: g, n, hc => by
    obtain ⟨h1, h2, h3, h4⟩ := hc
    have hf := (tabOf_ok h0 hk).fit a i h2 h3
    have hw := kd_w hk i
    obtain ⟨i1, i2, i3⟩ := cuts_all h0 hk h4
    have e : ((a + (tabOf r ks).W i : Nat) : Int) = (a : Int) + (kd ks i).w := by simp only [tabOf]; omega
    rw [e] at i3
    refine ⟨?_, ?_, ?_⟩
    · simp only [List.map_cons, List.all_cons, i1, Bool.and_true, namedB, intP, Bool.and_eq_true, decide_eq_true_eq]
      simp only [tabOf] at h2 hf
      omega
    · simp only [List.map_cons, List.all_cons, i2, Bool.and_true]
      unfold canS
      rw [sk_intP]
      exact h3
    · simp only [List.map_cons, orderB, sk_intP, Bool.and_eq_true, decide_eq_true_eq]
      exact ⟨by simp only [intP]; omega, i3⟩
theorem cuts_of {r : RibD} {ks : List KindD} (hr : RibOk r) (hk : KindsOk ks) {g : List (Nat × Nat)} (hc : IsCuts (tabOf r ks) 0 g) : cutsErr r ks (g.map intP) = 0 ∧ cutsV r ks (g.map intP) = wth (tabOf r ks) g := by
  have h0 : 0 ≤ r.len := by have := hr.l1; omega
  obtain ⟨h1, h2, h3⟩ := cuts_all h0 hk hc
  have hl := cuts_len (tabOf_ok h0 hk) (Nat.zero_le _) hc
  have hl' : (tabOf r ks).L = r.len.toNat := rfl
  have e : cutsErr r ks (g.map intP) = 0 := by
    unfold cutsErr cutsErr0
    rw [if_neg (by rw [bothErr_of hr hk]; simp), if_neg (by rw [List.length_map]; omega), if_neg (by rw [h1]; simp), if_neg (by rw [h2]; simp), if_neg (by rw [show (0 : Int) = ((0 : Nat) : Int) from rfl, h3]; simp)]
  refine ⟨e, ?_⟩
  rw [cutsV, if_pos e, cutsSum_wth r, map_nat_int]

/-! ## Prices -/
def priceF (l : List Int) (u : Nat) : Int := l.getD u 0
def covB (t : Tab) (l : List Int) : Bool := (List.range t.L).all fun a => (List.range t.K).all fun i => !t.can a i || decide (t.P i ≤ psum (priceF l) a (t.W i))
def okPrices (l : List Int) : Bool := l.all fun x => decide (0 ≤ x) && decide (x ≤ 24000)
def pricesErr0 (r : RibD) (ks : List KindD) (l : List Int) : Int :=
  if (l.length : Int) ≠ r.len then 15 else if okPrices l = false then 3 else if covB (tabOf r ks) l = false then 14 else 0
def pricesErr (r : RibD) (ks : List KindD) (l : List Int) : Int := if bothErr r ks ≠ 0 then bothErr r ks else pricesErr0 r ks l
def pricesV (r : RibD) (ks : List KindD) (l : List Int) : Int := if pricesErr r ks l = 0 then psum (priceF l) 0 l.length else 0
theorem covB_iff {t : Tab} (h : t.Ok) (l : List Int) : covB t l = true ↔ ∀ a i, i < t.K → t.can a i = true → t.P i ≤ psum (priceF l) a (t.W i) := by
  unfold covB
  simp only [List.all_eq_true, List.mem_range, Bool.or_eq_true, Bool.not_eq_true', decide_eq_true_eq]
  constructor
  · intro hh a i hi hc
    have hf := h.fit a i hi hc
    have hw := h.w i hi
    rcases hh a (by omega) i hi with h1 | h1
    · rw [hc] at h1; cases h1
    · exact h1
  · intro hh a _ i hi
    cases hc : t.can a i with
    | false => exact .inl rfl
    | true => exact .inr (hh a i hi hc)
theorem okPrices_get {l : List Int} (h : okPrices l = true) (u : Nat) : 0 ≤ priceF l u ∧ priceF l u ≤ 24000 := by
  unfold priceF
  rw [List.getD_eq_getElem?_getD]
  by_cases hu : u < l.length
  · rw [List.getElem?_eq_getElem hu]
    have := List.all_eq_true.1 h _ (List.getElem_mem hu)
    simpa using this
  · rw [List.getElem?_eq_none (by omega)]
    exact ⟨Int.le_refl _, by simp⟩
theorem pricesErr_zero {r : RibD} {ks : List KindD} {l : List Int} (h : pricesErr r ks l = 0) : RibOk r ∧ KindsOk ks ∧ (l.length : Int) = r.len ∧ okPrices l = true ∧ covB (tabOf r ks) l = true := by
  unfold pricesErr at h
  by_cases hb : bothErr r ks = 0
  · rw [if_neg (by simpa using hb)] at h
    unfold pricesErr0 at h
    obtain ⟨h1, h2⟩ := bothErr_zero hb
    by_cases c1 : (l.length : Int) ≠ r.len
    · rw [if_pos c1] at h; omega
    rw [if_neg c1] at h
    by_cases c2 : okPrices l = false
    · rw [if_pos c2] at h; omega
    rw [if_neg c2] at h
    by_cases c3 : covB (tabOf r ks) l = false
    · rw [if_pos c3] at h; omega
    exact ⟨h1, h2, by omega, by simpa using c2, by simpa using c3⟩
  · rw [if_pos hb] at h
    exact absurd h hb
/-- Prices that prove: no cuts are worth more. -/
theorem prices_prove {r : RibD} {ks : List KindD} {l : List Int} (h : pricesErr r ks l = 0) : dn (tabOf r ks) 0 ≤ pricesV r ks l := by
  obtain ⟨h1, h2, h3, h4, h5⟩ := pricesErr_zero h
  have h0 : 0 ≤ r.len := by have := h1.l1; omega
  have hok := tabOf_ok h0 h2
  have hb := first_best hok (tabOf r ks).L 0 (by omega)
  have := cover_le hok (l := priceF l) (fun u _ => (okPrices_get h4 u).1) ((covB_iff hok l).1 h5) (Nat.zero_le _) hb.1
  rw [hb.2] at this
  rw [pricesV, if_pos h]
  have e : (tabOf r ks).L - 0 = l.length := by simp only [tabOf]; omega
  rwa [e] at this
def pricesL (t : Tab) : List Int := (List.range t.L).map (priceV t)
theorem priceF_pricesL (t : Tab) {u : Nat} (hu : u < t.L) : priceF (pricesL t) u = priceV t u := by
  unfold priceF pricesL
  rw [List.getD_eq_getElem?_getD, List.getElem?_map, List.getElem?_range hu]
  rfl
theorem psum_pricesL (t : Tab) {a n : Nat} (h : a + n ≤ t.L) : psum (priceF (pricesL t)) a n = psum (priceV t) a n := by
  unfold psum
  refine isum_same fun u hu => ?_
  have := List.mem_range.1 hu
  exact priceF_pricesL t (by omega)
theorem up_le {t : Tab} (h : t.Ok) : ∀ {a b : Nat}, a ≤ b → up t a ≤ up t b := by
  intro a b hab
  obtain ⟨d, rfl⟩ : ∃ d, b = a + d := ⟨b - a, by omega⟩
  clear hab
  induction d with
  | zero => exact Int.le_refl _
  | succ d ih => have := up_waste h (a + d); rw [← Nat.add_assoc]; omega
theorem prices_good {r : RibD} {ks : List KindD} (hr : RibOk r) (hk : KindsOk ks) : pricesErr r ks (pricesL (tabOf r ks)) = 0 ∧ pricesV r ks (pricesL (tabOf r ks)) = dn (tabOf r ks) 0 := by
  have h1 := hr.l1
  have hok := tabOf_ok (r := r) (by omega) hk
  have hl : (pricesL (tabOf r ks)).length = (tabOf r ks).L := by simp [pricesL]
  have hL : (tabOf r ks).L = r.len.toNat := rfl
  have hdn := tabOf_dn (r := r) (by omega) hr.l2 hk 0
  have e : pricesErr r ks (pricesL (tabOf r ks)) = 0 := by
    unfold pricesErr pricesErr0
    rw [if_neg (by rw [bothErr_of hr hk]; simp), if_neg (by rw [hl, hL]; omega), if_neg ?_, if_neg ?_]
    · rw [(covB_iff hok _).2]
      · simp
      · intro a i hi hc
        have hf := hok.fit a i hi hc
        rw [psum_pricesL _ hf]
        exact price_cover hok a i hi hc
    · have : okPrices (pricesL (tabOf r ks)) = true := by
        unfold okPrices pricesL
        rw [List.all_eq_true]
        intro x hx
        obtain ⟨u, hu, rfl⟩ := List.mem_map.1 hx
        have hu' := List.mem_range.1 hu
        have p1 := price_nonneg hok u
        have p2 : priceV (tabOf r ks) u ≤ 24000 := by
          unfold priceV
          have := up_nonneg hok u
          have := up_le hok (show u + 1 ≤ (tabOf r ks).L by omega)
          rw [up_all hok] at this
          omega
        simp [p1, p2]
      rw [this]; simp
  refine ⟨e, ?_⟩
  rw [pricesV, if_pos e, hl, psum_pricesL _ (by omega), price_all hok]

/-! ## Cuts by numbers -/
def givenF (t : Tab) : List Int → Nat → List (Nat × Nat)
  | [], _ => []
  | b :: by_, n =>
    if t.L ≤ n + b.toNat / 8 % 3 then []
    else if t.can (n + b.toNat / 8 % 3) (b.toNat % t.K) = true then (n + b.toNat / 8 % 3, b.toNat % t.K) :: givenF t by_ (n + b.toNat / 8 % 3 + t.W (b.toNat % t.K))
    else givenF t by_ (n + b.toNat / 8 % 3)
theorem given_cuts {t : Tab} (hK : 0 < t.K) : ∀ (l : List Int) (n : Nat), IsCuts t n (givenF t l n)
  | [], _ => trivial
  | b :: l, n => by
    rw [givenF]
    split
    · trivial
    · split
      · rename_i h1 h2
        exact ⟨Nat.le_add_right _ _, Nat.mod_lt _ hK, h2, given_cuts hK l _⟩
      · exact (given_cuts hK l _).later fun a i g' e => by
          have := given_cuts hK l (n + b.toNat / 8 % 3)
          rw [e] at this
          exact Nat.le_trans (Nat.le_add_right _ _) this.1

/-! ## What best cuts part -/
def partsB (ks : List KindD) (g : List (Int × Int)) (m : Int) : Bool := g.all fun s => !(decide (s.1 < m) && decide (m < s.1 + (sk ks s).w))
theorem best_all {t : Tab} (h : t.Ok) : ∀ {g : List (Nat × Nat)} {n : Nat}, n ≤ t.L → On t n → IsBest t n g → ∀ s ∈ g, Best t s.1 s.2
  | [], _, _, _, _, s, hs => by cases hs
  | (a, i) :: g, n, hn, ho, hb, s, hs => by
    obtain ⟨h1, h2, h3, h4, h5, h6, h7⟩ := hb.cons h
    have hoa : On t a := by
      have := (on_waste h (a - n) n (by omega) ho (by rw [show n + (a - n) = a by omega]; exact h3)).1
      rwa [show n + (a - n) = a by omega] at this
    have hba : Best t a i := (best_iff h hoa h4 h5).2 h6
    rcases List.mem_cons.1 hs with rfl | hs
    · exact hba
    · exact best_all h (h.fit a i h4 h5) hba.2.2.2 h7 s hs
theorem best_parts {t : Tab} (h : t.Ok) {m : Nat} (hm : m ≤ t.L) : ∀ {g : List (Nat × Nat)} {n : Nat}, n ≤ m → On t n → IsBest t n g → (∀ s ∈ g, ¬ (s.1 < m ∧ m < s.1 + t.W s.2)) → On t m
  | [], n, hn, ho, hb, _ => by
    have h0 := (hb.nil h).1
    have h1 := dn_mono h (n := n) m hn
    have h2 := dn_nonneg h _ m rfl
    have := (on_waste h (m - n) n (by omega) ho (by rw [show n + (m - n) = m by omega]; omega)).1
    rwa [show n + (m - n) = m by omega] at this
  | (a, i) :: g, n, hn, ho, hb, hp => by
    obtain ⟨h1, h2, h3, h4, h5, h6, h7⟩ := hb.cons h
    by_cases hma : m ≤ a
    · have m1 := dn_mono h (n := n) m hn
      have m2 := dn_mono h (n := m) a hma
      have := (on_waste h (m - n) n (by omega) ho (by rw [show n + (m - n) = m by omega]; omega)).1
      rwa [show n + (m - n) = m by omega] at this
    · have hoa : On t a := by
        have := (on_waste h (a - n) n (by omega) ho (by rw [show n + (a - n) = a by omega]; exact h3)).1
        rwa [show n + (a - n) = a by omega] at this
      have hba : Best t a i := (best_iff h hoa h4 h5).2 h6
      have := hp (a, i) List.mem_cons_self
      simp only at this
      exact best_parts h hm (by omega) hba.2.2.2 h7 fun s hs => hp s (List.mem_cons_of_mem _ hs)
def crossB (t : Tab) (m : Nat) : Bool := (List.range m).any fun a => (List.range t.K).any fun i => t.can a i && decide (m < a + t.W i) && decide (up t a + t.P i = up t (a + t.W i)) && decide (On t (a + t.W i))
theorem crossB_iff (t : Tab) (m : Nat) : crossB t m = true ↔ ∃ a i, Best t a i ∧ a < m ∧ m < a + t.W i := by
  unfold crossB Best
  simp only [List.any_eq_true, List.mem_range, Bool.and_eq_true, decide_eq_true_eq]
  constructor
  · rintro ⟨a, ha, i, hi, ⟨⟨h1, h2⟩, h3⟩, h4⟩
    exact ⟨a, i, ⟨hi, h1, h3, h4⟩, ha, h2⟩
  · rintro ⟨a, i, ⟨hi, h1, h3, h4⟩, ha, h2⟩
    exact ⟨a, ha, i, hi, ⟨⟨h1, h2⟩, h3⟩, h4⟩
/-- When a place is parted: 0 never, 1 sometimes, 2 always. -/
def partV (t : Tab) (m : Nat) : Int := if On t m then (if crossB t m = true then 1 else 2) else 0
theorem partV_ends {t : Tab} (h : t.Ok) {m : Nat} (hm : m = 0 ∨ m = t.L) : partV t m = 2 := by
  unfold partV
  have ho : On t m := by
    rcases hm with rfl | rfl
    · exact on_zero t
    · exact on_end h
  rw [if_pos ho, if_neg]
  intro hc
  obtain ⟨a, i, hb, h1, h2⟩ := (crossB_iff t m).1 hc
  have := h.fit a i hb.1 hb.2.1
  omega
/-- What the definition compares: the worth and the numbers of both parts. -/
theorem partV_ref {t : Tab} (h : t.Ok) {m : Nat} (hm : m ≤ t.L) :
    partV t m = if dn (pre t m) 0 + dn (suf t m) 0 < dn t 0 then 0 else if many (pre t m) 0 * many (suf t m) 0 < many t 0 then 1 else 2 := by
  obtain ⟨h1, h2, h3⟩ := parted_spec h hm
  unfold partV
  by_cases ho : On t m
  · rw [if_pos ho, if_neg (fun hh => h1.1 hh ho)]
    by_cases hc : crossB t m = true
    · rw [if_pos hc, if_pos ((h3 ho).1.2 ((crossB_iff t m).1 hc))]
    · rw [if_neg hc, if_neg (fun hh => hc ((crossB_iff t m).2 ((h3 ho).1.1 hh)))]
  · rw [if_neg ho, if_pos (h1.2 ho)]
end Go.Dag
