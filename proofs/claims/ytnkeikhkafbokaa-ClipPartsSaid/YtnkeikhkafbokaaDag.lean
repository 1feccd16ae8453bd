import Derived.Lib.Hide
/-! The mathematics of layer 2: places in a row, sheets from a place to a later one; what the best cuts up to a place are worth, and those behind it; how many there are. No marks: plain mathematics. -/
namespace Go.Dag

/-- A ribbon of L units, K kinds with widths and prices; whether a sheet of a kind can be cut from a place on. -/
structure Tab where
  L : Nat
  K : Nat
  W : Nat → Nat
  P : Nat → Int
  can : Nat → Nat → Bool
structure Tab.Ok (t : Tab) : Prop where
  w : ∀ i, i < t.K → 1 ≤ t.W i
  p : ∀ i, i < t.K → 1 ≤ t.P i
  fit : ∀ a i, i < t.K → t.can a i = true → a + t.W i ≤ t.L

/-! ## Sums and greatest ones over a list -/
def isum {α : Type} (xs : List α) (f : α → Int) : Int := (xs.map f).sum
theorem isum_cons {α : Type} (x : α) (xs : List α) (f : α → Int) : isum (x :: xs) f = f x + isum xs f := by simp [isum]
theorem isum_nonneg {α : Type} {xs : List α} {f : α → Int} (h : ∀ x ∈ xs, 0 ≤ f x) : 0 ≤ isum xs f := by
  induction xs with
  | nil => simp [isum]
  | cons x xs ih =>
    rw [isum_cons]
    have h1 := h x List.mem_cons_self
    have h2 := ih fun y hy => h y (List.mem_cons_of_mem _ hy)
    omega
theorem isum_le {α : Type} {xs : List α} {f : α → Int} (h : ∀ x ∈ xs, 0 ≤ f x) {x : α} (hx : x ∈ xs) : f x ≤ isum xs f := by
  induction xs with
  | nil => cases hx
  | cons y xs ih =>
    rw [isum_cons]
    have h1 := h y List.mem_cons_self
    have h2 := isum_nonneg fun z hz => h z (List.mem_cons_of_mem _ hz)
    rcases List.mem_cons.1 hx with rfl | hx
    · omega
    · have := ih (fun z hz => h z (List.mem_cons_of_mem _ hz)) hx
      omega
theorem isum_same {α : Type} {xs : List α} {f g : α → Int} (h : ∀ x ∈ xs, f x = g x) : isum xs f = isum xs g := by
  induction xs with
  | nil => rfl
  | cons x xs ih => rw [isum_cons, isum_cons, h x List.mem_cons_self, ih fun y hy => h y (List.mem_cons_of_mem _ hy)]
theorem isum_zero {α : Type} {xs : List α} {f : α → Int} (h : ∀ x ∈ xs, f x = 0) : isum xs f = 0 := by
  rw [isum_same (g := fun _ => 0) h]
  induction xs with
  | nil => rfl
  | cons x xs ih => rw [isum_cons, ih fun y hy => h y (List.mem_cons_of_mem _ hy)]; rfl
theorem isum_mul {α : Type} (xs : List α) (f : α → Int) (c : Int) : isum xs f * c = isum xs fun x => f x * c := by
  induction xs with
  | nil => simp [isum]
  | cons x xs ih => rw [isum_cons, isum_cons, Int.add_mul, ih]
theorem isum_add {α : Type} (xs : List α) (f g : α → Int) : isum xs (fun x => f x + g x) = isum xs f + isum xs g := by
  induction xs with
  | nil => simp [isum]
  | cons x xs ih => rw [isum_cons, isum_cons, isum_cons, ih]; omega
theorem isum_pos {α : Type} {xs : List α} {f : α → Int} (h : ∀ x ∈ xs, 0 ≤ f x) (hp : 0 < isum xs f) : ∃ x ∈ xs, 0 < f x := by
  induction xs with
  | nil => simp [isum] at hp
  | cons x xs ih =>
    rw [isum_cons] at hp
    by_cases hx : 0 < f x
    · exact ⟨x, List.mem_cons_self, hx⟩
    · obtain ⟨y, hy, hy2⟩ := ih (fun y hy => h y (List.mem_cons_of_mem _ hy)) (by have := h x List.mem_cons_self; omega)
      exact ⟨y, List.mem_cons_of_mem _ hy, hy2⟩
theorem foldl_same {α β : Type} (f g : β → α → β) : ∀ (xs : List α) (s : β), (∀ s x, x ∈ xs → f s x = g s x) → xs.foldl f s = xs.foldl g s
  | [], _, _ => rfl
  | x :: xs, s, h => by
    rw [List.foldl_cons, List.foldl_cons, h s x List.mem_cons_self]
    exact foldl_same f g xs _ (fun s y hy => h s y (List.mem_cons_of_mem _ hy))
/-- The greatest worth so far, and in how many ways: one more way of worth v, which is c ways. -/
def upd (s : Int × Int) (v c : Int) : Int × Int := if s.1 < v then (v, c) else if v = s.1 then (s.1, s.2 + c) else s
def updL {α : Type} (q : α → Bool) (v c : α → Int) (xs : List α) (s : Int × Int) : Int × Int := xs.foldl (fun s i => if q i = true then upd s (v i) (c i) else s) s
theorem updL_spec {α : Type} (q : α → Bool) (v c : α → Int) : ∀ (xs : List α) (s : Int × Int),
    s.1 ≤ (updL q v c xs s).1 ∧ (∀ i ∈ xs, q i = true → v i ≤ (updL q v c xs s).1) ∧ ((updL q v c xs s).1 = s.1 ∨ ∃ i ∈ xs, q i = true ∧ v i = (updL q v c xs s).1) ∧
    (updL q v c xs s).2 = (if s.1 = (updL q v c xs s).1 then s.2 else 0) + isum xs fun i => if q i = true ∧ v i = (updL q v c xs s).1 then c i else 0
  | [], s => ⟨Int.le_refl _, fun i hi => by (cases hi), .inl rfl, by simp [updL, isum]⟩
  | x :: xs, s => by
    have e : updL q v c (x :: xs) s = updL q v c xs (if q x = true then upd s (v x) (c x) else s) := rfl
    rw [e]
    generalize hs : (if q x = true then upd s (v x) (c x) else s) = s1
    obtain ⟨h1, h2, h3, h4⟩ := updL_spec q v c xs s1
    generalize hr : updL q v c xs s1 = r at h1 h2 h3 h4
    rw [isum_cons]
    generalize (isum xs fun i => if q i = true ∧ v i = r.1 then c i else 0) = z at h4
    have memx : ∀ {p : α → Prop}, (∃ i ∈ xs, p i) → ∃ i ∈ x :: xs, p i := fun ⟨i, hi, hp⟩ => ⟨i, List.mem_cons_of_mem _ hi, hp⟩
    by_cases hq : q x = true
    · rw [if_pos hq] at hs
      unfold upd at hs
      by_cases c1 : s.1 < v x
      · rw [if_pos c1] at hs
        subst hs
        simp only at h1 h3 h4
        refine ⟨by omega, fun i hi hqi => ?_, ?_, ?_⟩
        · rcases List.mem_cons.1 hi with rfl | hi
          · exact h1
          · exact h2 i hi hqi
        · rcases h3 with h3 | h3
          · exact .inr ⟨x, List.mem_cons_self, hq, h3.symm⟩
          · exact .inr (memx h3)
        · rw [h4, if_neg (by omega : ¬ s.1 = r.1)]
          by_cases c2 : v x = r.1
          · rw [if_pos c2, if_pos ⟨hq, c2⟩]; omega
          · rw [if_neg c2, if_neg (fun h => c2 h.2)]; omega
      · rw [if_neg c1] at hs
        by_cases c2 : v x = s.1
        · rw [if_pos c2] at hs
          subst hs
          simp only at h1 h3 h4
          refine ⟨h1, fun i hi hqi => ?_, ?_, ?_⟩
          · rcases List.mem_cons.1 hi with rfl | hi
            · omega
            · exact h2 i hi hqi
          · rcases h3 with h3 | h3
            · exact .inl h3
            · exact .inr (memx h3)
          · rw [h4]
            by_cases c3 : s.1 = r.1
            · rw [if_pos c3, if_pos c3, if_pos ⟨hq, by omega⟩]; omega
            · rw [if_neg c3, if_neg c3, if_neg (fun h => c3 (by omega))]; omega
        · rw [if_neg c2] at hs
          subst hs
          refine ⟨h1, fun i hi hqi => ?_, ?_, ?_⟩
          · rcases List.mem_cons.1 hi with rfl | hi
            · omega
            · exact h2 i hi hqi
          · rcases h3 with h3 | h3
            · exact .inl h3
            · exact .inr (memx h3)
          · rw [h4, if_neg (fun h => c2 (by omega) : ¬ (q x = true ∧ v x = r.1))]; omega
    · rw [if_neg hq] at hs
      subst hs
      refine ⟨h1, fun i hi hqi => ?_, ?_, ?_⟩
      · rcases List.mem_cons.1 hi with rfl | hi
        · exact absurd hqi hq
        · exact h2 i hi hqi
      · rcases h3 with h3 | h3
        · exact .inl h3
        · exact .inr (memx h3)
      · rw [h4, if_neg (fun h => hq h.1 : ¬ (q x = true ∧ v x = r.1))]; omega
def maxL {α : Type} (q : α → Bool) (v : α → Int) (xs : List α) (s : Int) : Int := xs.foldl (fun s i => if q i = true then max s (v i) else s) s
theorem maxL_spec {α : Type} (q : α → Bool) (v : α → Int) : ∀ (xs : List α) (s : Int),
    s ≤ maxL q v xs s ∧ (∀ i ∈ xs, q i = true → v i ≤ maxL q v xs s) ∧ (maxL q v xs s = s ∨ ∃ i ∈ xs, q i = true ∧ v i = maxL q v xs s)
  | [], s => ⟨Int.le_refl _, fun i hi => by (cases hi), .inl rfl⟩
  | x :: xs, s => by
    have e : maxL q v (x :: xs) s = maxL q v xs (if q x = true then max s (v x) else s) := rfl
    rw [e]
    obtain ⟨h1, h2, h3⟩ := maxL_spec q v xs (if q x = true then max s (v x) else s)
    generalize maxL q v xs (if q x = true then max s (v x) else s) = r at h1 h2 h3
    have memx : ∀ {p : α → Prop}, (∃ i ∈ xs, p i) → ∃ i ∈ x :: xs, p i := fun ⟨i, hi, hp⟩ => ⟨i, List.mem_cons_of_mem _ hi, hp⟩
    by_cases hq : q x = true
    · rw [if_pos hq] at h1 h3
      refine ⟨by omega, fun i hi hqi => ?_, ?_⟩
      · rcases List.mem_cons.1 hi with rfl | hi
        · omega
        · exact h2 i hi hqi
      · rcases h3 with h3 | h3
        · by_cases c : s ≤ v x
          · exact .inr ⟨x, List.mem_cons_self, hq, by omega⟩
          · exact .inl (by omega)
        · exact .inr (memx h3)
    · rw [if_neg hq] at h1 h3
      refine ⟨h1, fun i hi hqi => ?_, ?_⟩
      · rcases List.mem_cons.1 hi with rfl | hi
        · exact absurd hqi hq
        · exact h2 i hi hqi
      · rcases h3 with h3 | h3
        · exact .inl h3
        · exact .inr (memx h3)

/-! ## What is behind a place: worth and number -/
def bkF (t : Tab) : Nat → Nat → Int × Int
  | 0, _ => (0, 1)
  | f + 1, n => if n < t.L then updL (t.can n) (fun i => t.P i + (bkF t f (n + t.W i)).1) (fun i => (bkF t f (n + t.W i)).2) (List.range t.K) (bkF t f (n + 1)) else (0, 1)
def bk (t : Tab) (n : Nat) : Int × Int := bkF t (t.L - n) n
def dn (t : Tab) (n : Nat) : Int := (bk t n).1
def many (t : Tab) (n : Nat) : Int := (bk t n).2
theorem bkF_same {t : Tab} (h : t.Ok) : ∀ (f m n : Nat), t.L - n ≤ f → t.L - n ≤ m → bkF t f n = bkF t m n
  | 0, 0, _, _, _ => rfl
  | 0, m + 1, n, h1, _ => by rw [bkF, bkF, if_neg (by omega)]
  | f + 1, 0, n, _, h2 => by rw [bkF, bkF, if_neg (by omega)]
  | f + 1, m + 1, n, h1, h2 => by
    rw [bkF, bkF]
    by_cases hn : n < t.L
    · rw [if_pos hn, if_pos hn, bkF_same h f m (n + 1) (by omega) (by omega)]
      unfold updL
      refine foldl_same _ _ _ _ fun s i hi => ?_
      have hw := h.w i (List.mem_range.1 hi)
      dsimp only
      rw [bkF_same h f m (n + t.W i) (by omega) (by omega)]
    · rw [if_neg hn, if_neg hn]
theorem bk_step {t : Tab} (h : t.Ok) {n : Nat} (hn : n < t.L) : bk t n = updL (t.can n) (fun i => t.P i + dn t (n + t.W i)) (fun i => many t (n + t.W i)) (List.range t.K) (bk t (n + 1)) := by
  obtain ⟨m, hm⟩ : ∃ m, t.L - n = m + 1 := ⟨t.L - n - 1, by omega⟩
  rw [bk, hm, bkF, if_pos hn, bk, show t.L - (n + 1) = m by omega]
  unfold updL
  refine foldl_same _ _ _ _ fun s i hi => ?_
  have hw := h.w i (List.mem_range.1 hi)
  unfold dn many bk
  dsimp only
  rw [bkF_same h m (t.L - (n + t.W i)) (n + t.W i) (by omega) (Nat.le_refl _)]
theorem bk_end (t : Tab) {n : Nat} (hn : t.L ≤ n) : bk t n = (0, 1) := by rw [bk, show t.L - n = 0 by omega, bkF]
theorem dn_end (t : Tab) {n : Nat} (hn : t.L ≤ n) : dn t n = 0 := by rw [dn, bk_end t hn]
theorem many_end (t : Tab) {n : Nat} (hn : t.L ≤ n) : many t n = 1 := by rw [many, bk_end t hn]
theorem dn_waste {t : Tab} (h : t.Ok) {n : Nat} (hn : n < t.L) : dn t (n + 1) ≤ dn t n := by
  have := (updL_spec (t.can n) (fun i => t.P i + dn t (n + t.W i)) (fun i => many t (n + t.W i)) (List.range t.K) (bk t (n + 1))).1
  rw [← bk_step h hn] at this
  exact this
theorem dn_sheet {t : Tab} (h : t.Ok) {n i : Nat} (hn : n < t.L) (hi : i < t.K) (hc : t.can n i = true) : t.P i + dn t (n + t.W i) ≤ dn t n := by
  have := (updL_spec (t.can n) (fun i => t.P i + dn t (n + t.W i)) (fun i => many t (n + t.W i)) (List.range t.K) (bk t (n + 1))).2.1 i (List.mem_range.2 hi) hc
  rw [← bk_step h hn] at this
  exact this
theorem dn_reach {t : Tab} (h : t.Ok) {n : Nat} (hn : n < t.L) : dn t n = dn t (n + 1) ∨ ∃ i, i < t.K ∧ t.can n i = true ∧ t.P i + dn t (n + t.W i) = dn t n := by
  have := (updL_spec (t.can n) (fun i => t.P i + dn t (n + t.W i)) (fun i => many t (n + t.W i)) (List.range t.K) (bk t (n + 1))).2.2.1
  rw [← bk_step h hn] at this
  rcases this with h1 | ⟨i, hi, h1, h2⟩
  · exact .inl h1
  · exact .inr ⟨i, List.mem_range.1 hi, h1, h2⟩
theorem many_step {t : Tab} (h : t.Ok) {n : Nat} (hn : n < t.L) : many t n = (if dn t (n + 1) = dn t n then many t (n + 1) else 0) + isum (List.range t.K) fun i => if t.can n i = true ∧ t.P i + dn t (n + t.W i) = dn t n then many t (n + t.W i) else 0 := by
  have := (updL_spec (t.can n) (fun i => t.P i + dn t (n + t.W i)) (fun i => many t (n + t.W i)) (List.range t.K) (bk t (n + 1))).2.2.2
  rw [← bk_step h hn] at this
  exact this
theorem many_pos {t : Tab} (h : t.Ok) : ∀ (d n : Nat), t.L - n = d → 1 ≤ many t n := by
  intro d
  induction d using Nat.strongRecOn with
  | _ d ih =>
    intro n hd
    by_cases hn : n < t.L
    · have h0 : ∀ i ∈ List.range t.K, 0 ≤ (if t.can n i = true ∧ t.P i + dn t (n + t.W i) = dn t n then many t (n + t.W i) else 0) := fun i hi => by
        split
        · have hw := h.w i (List.mem_range.1 hi)
          have := ih _ (by omega) (n + t.W i) rfl
          omega
        · omega
      have h1 := ih _ (by omega) (n + 1) rfl
      have h2 := isum_nonneg h0
      rw [many_step h hn]
      rcases dn_reach h hn with e | ⟨i, hi, hc, e⟩
      · rw [if_pos e.symm]; omega
      · have h3 := isum_le h0 (List.mem_range.2 hi)
        simp only [hc, e, and_self, if_true] at h3
        have hw := h.w i hi
        have h4 := ih _ (by omega) (n + t.W i) rfl
        have h5 : 0 ≤ (if dn t (n + 1) = dn t n then many t (n + 1) else 0) := by split <;> omega
        omega
    · rw [many_end t (by omega)]; omega
theorem dn_nonneg {t : Tab} (h : t.Ok) : ∀ (d n : Nat), t.L - n = d → 0 ≤ dn t n
  | 0, n, hd => by rw [dn_end t (by omega)]; omega
  | d + 1, n, hd => by
    have := dn_waste h (n := n) (by omega)
    have := dn_nonneg h d (n + 1) (by omega)
    omega

/-! ## What is before a place -/
def canTo (t : Tab) (n i : Nat) : Bool := decide (t.W i ≤ n) && t.can (n - t.W i) i
def upF (t : Tab) : Nat → Nat → Int
  | 0, _ => 0
  | _ + 1, 0 => 0
  | f + 1, n + 1 => maxL (canTo t (n + 1)) (fun i => upF t f (n + 1 - t.W i) + t.P i) (List.range t.K) (upF t f n)
def up (t : Tab) (n : Nat) : Int := upF t n n
theorem upF_same {t : Tab} (h : t.Ok) : ∀ (f m n : Nat), n ≤ f → n ≤ m → upF t f n = upF t m n
  | 0, 0, _, _, _ => rfl
  | 0, m + 1, n, h1, _ => by obtain rfl : n = 0 := by omega
                             rfl
  | f + 1, 0, n, _, h2 => by obtain rfl : n = 0 := by omega
                             rfl
  | f + 1, m + 1, 0, _, _ => rfl
  | f + 1, m + 1, n + 1, h1, h2 => by
    rw [upF, upF, upF_same h f m n (by omega) (by omega)]
    unfold maxL
    refine foldl_same _ _ _ _ fun s i hi => ?_
    have hw := h.w i (List.mem_range.1 hi)
    dsimp only
    rw [upF_same h f m (n + 1 - t.W i) (by omega) (by omega)]
theorem up_zero (t : Tab) : up t 0 = 0 := rfl
theorem up_step {t : Tab} (h : t.Ok) (n : Nat) : up t (n + 1) = maxL (canTo t (n + 1)) (fun i => up t (n + 1 - t.W i) + t.P i) (List.range t.K) (up t n) := by
  rw [up, upF]
  unfold maxL up
  refine foldl_same _ _ _ _ fun s i hi => ?_
  have hw := h.w i (List.mem_range.1 hi)
  dsimp only
  rw [upF_same h n (n + 1 - t.W i) (n + 1 - t.W i) (by omega) (Nat.le_refl _)]
theorem up_waste {t : Tab} (h : t.Ok) (n : Nat) : up t n ≤ up t (n + 1) := by
  rw [up_step h n]; exact (maxL_spec _ _ _ _).1
theorem up_sheet {t : Tab} (h : t.Ok) {a i : Nat} (hi : i < t.K) (hc : t.can a i = true) : up t a + t.P i ≤ up t (a + t.W i) := by
  have hw := h.w i hi
  obtain ⟨n, hn⟩ : ∃ n, a + t.W i = n + 1 := ⟨a + t.W i - 1, by omega⟩
  have := (maxL_spec (canTo t (n + 1)) (fun i => up t (n + 1 - t.W i) + t.P i) (List.range t.K) (up t n)).2.1 i (List.mem_range.2 hi) (by
    unfold canTo
    rw [show n + 1 - t.W i = a by omega, hc]
    simp; omega)
  rw [← up_step h n] at this
  rw [hn]
  rwa [show n + 1 - t.W i = a by omega] at this
theorem up_reach {t : Tab} (h : t.Ok) (n : Nat) : up t (n + 1) = up t n ∨ ∃ a i, i < t.K ∧ t.can a i = true ∧ a + t.W i = n + 1 ∧ up t a + t.P i = up t (n + 1) := by
  have := (maxL_spec (canTo t (n + 1)) (fun i => up t (n + 1 - t.W i) + t.P i) (List.range t.K) (up t n)).2.2
  rw [← up_step h n] at this
  rcases this with h1 | ⟨i, hi, h1, h2⟩
  · exact .inl h1
  · unfold canTo at h1
    simp only [Bool.and_eq_true, decide_eq_true_eq] at h1
    exact .inr ⟨n + 1 - t.W i, i, List.mem_range.1 hi, h1.2, by omega, h2⟩
theorem up_nonneg {t : Tab} (h : t.Ok) : ∀ n, 0 ≤ up t n
  | 0 => by rw [up_zero]; omega
  | n + 1 => by have := up_waste h n; have := up_nonneg h n; omega

/-! ## Both ways are worth the same -/
theorem both_le {t : Tab} (h : t.Ok) : ∀ n, n ≤ t.L → up t n + dn t n ≤ dn t 0 := by
  intro n
  induction n using Nat.strongRecOn with
  | _ n ih =>
    intro hn
    match n, hn, ih with
    | 0, _, _ => rw [up_zero]; omega
    | n + 1, hn, ih =>
      rcases up_reach h n with e | ⟨a, i, hi, hc, ea, e⟩
      · have := ih n (by omega) (by omega)
        have := dn_waste h (n := n) (by omega)
        omega
      · have hw := h.w i hi
        have := ih a (by omega) (by omega)
        have := dn_sheet h (n := a) (by omega) hi hc
        rw [ea] at this
        omega
theorem le_both {t : Tab} (h : t.Ok) : ∀ (d n : Nat), t.L - n = d → n ≤ t.L → up t n + dn t n ≤ up t t.L := by
  intro d
  induction d using Nat.strongRecOn with
  | _ d ih =>
    intro n hd hn
    by_cases hl : n < t.L
    · rcases dn_reach h hl with e | ⟨i, hi, hc, e⟩
      · have := ih _ (by omega) (n + 1) rfl (by omega)
        have := up_waste h n
        omega
      · have hw := h.w i hi
        have hf := h.fit n i hi hc
        have := ih _ (by omega) (n + t.W i) rfl hf
        have := up_sheet h hi hc
        omega
    · obtain rfl : n = t.L := by omega
      rw [dn_end t (Nat.le_refl _)]; omega
theorem up_all {t : Tab} (h : t.Ok) : up t t.L = dn t 0 := by
  have h1 := both_le h t.L (Nat.le_refl _)
  have h2 := le_both h _ 0 rfl (Nat.zero_le _)
  rw [dn_end t (Nat.le_refl _)] at h1
  rw [up_zero] at h2
  omega
/-- A place that best cuts pass. -/
def On (t : Tab) (n : Nat) : Prop := up t n + dn t n = dn t 0
instance (t : Tab) (n : Nat) : Decidable (On t n) := inferInstanceAs (Decidable (_ = _))
theorem on_zero (t : Tab) : On t 0 := by unfold On; rw [up_zero]; omega
theorem on_end {t : Tab} (h : t.Ok) : On t t.L := by unfold On; rw [dn_end t (Nat.le_refl _), up_all h]; omega
/-- The unit behind a place is waste in best cuts that pass it. -/
theorem waste_iff {t : Tab} (h : t.Ok) {n : Nat} (hn : n < t.L) : (up t n = up t (n + 1) ∧ On t (n + 1)) ↔ (On t n ∧ dn t (n + 1) = dn t n) := by
  unfold On
  have h1 := both_le h n (by omega)
  have h2 := both_le h (n + 1) (by omega)
  have h3 := up_waste h n
  have h4 := dn_waste h hn
  omega
/-- A sheet is one of best cuts. -/
theorem sheet_iff {t : Tab} (h : t.Ok) {n i : Nat} (hi : i < t.K) (hc : t.can n i = true) : (up t n + t.P i = up t (n + t.W i) ∧ On t (n + t.W i)) ↔ (On t n ∧ t.P i + dn t (n + t.W i) = dn t n) := by
  unfold On
  have hw := h.w i hi
  have hf := h.fit n i hi hc
  have h1 := both_le h n (by omega)
  have h2 := both_le h (n + t.W i) hf
  have h3 := up_sheet h hi hc
  have h4 := dn_sheet h (n := n) (by omega) hi hc
  omega
/-- In how many ways best cuts go on at a place: 0 if none part it. -/
def ways (t : Tab) (n : Nat) : Int := if On t n then many t n else 0
theorem ways_zero {t : Tab} (h : t.Ok) (n : Nat) : ways t n = 0 ↔ ¬ On t n := by
  unfold ways
  have := many_pos h _ n rfl
  split <;> simp_all <;> omega
theorem ways_step {t : Tab} (h : t.Ok) {n : Nat} (hn : n < t.L) : ways t n = (if up t n = up t (n + 1) then ways t (n + 1) else 0) + isum (List.range t.K) fun i => if t.can n i = true ∧ up t n + t.P i = up t (n + t.W i) then ways t (n + t.W i) else 0 := by
  by_cases ho : On t n
  · rw [ways, if_pos ho, many_step h hn]
    congr 1
    · have := waste_iff h hn
      unfold ways
      by_cases c1 : dn t (n + 1) = dn t n
      · obtain ⟨c2, c3⟩ := this.2 ⟨ho, c1⟩
        rw [if_pos c1, if_pos c2, if_pos c3]
      · rw [if_neg c1]
        by_cases c2 : up t n = up t (n + 1)
        · rw [if_pos c2, if_neg (fun c3 => c1 (this.1 ⟨c2, c3⟩).2)]
        · rw [if_neg c2]
    · refine isum_same fun i hi => ?_
      by_cases hc : t.can n i = true
      · have := sheet_iff h (List.mem_range.1 hi) hc
        unfold ways
        by_cases c1 : t.P i + dn t (n + t.W i) = dn t n
        · obtain ⟨c2, c3⟩ := this.2 ⟨ho, c1⟩
          rw [if_pos ⟨hc, c1⟩, if_pos ⟨hc, c2⟩, if_pos c3]
        · rw [if_neg (fun c => c1 c.2)]
          by_cases c2 : up t n + t.P i = up t (n + t.W i)
          · rw [if_pos ⟨hc, c2⟩, if_neg (fun c3 => c1 (this.1 ⟨c2, c3⟩).2)]
          · rw [if_neg (fun c => c2 c.2)]
      · rw [if_neg (fun c => hc c.1), if_neg (fun c => hc c.1)]
  · rw [ways, if_neg ho, isum_zero fun i hi => ?_]
    · by_cases c2 : up t n = up t (n + 1)
      · rw [if_pos c2, ways, if_neg (fun c3 => ho ((waste_iff h hn).1 ⟨c2, c3⟩).1)]; rfl
      · rw [if_neg c2]; rfl
    · by_cases c : t.can n i = true ∧ up t n + t.P i = up t (n + t.W i)
      · rw [if_pos c, ways, if_neg (fun c3 => ho ((sheet_iff h (List.mem_range.1 hi) c.1).1 ⟨c.2, c3⟩).1)]
      · rw [if_neg c]
/-- A sheet that the table keeps: one of best cuts. -/
def Best (t : Tab) (a i : Nat) : Prop := i < t.K ∧ t.can a i = true ∧ up t a + t.P i = up t (a + t.W i) ∧ On t (a + t.W i)
theorem best_on {t : Tab} (h : t.Ok) {a i : Nat} (hb : Best t a i) : On t a ∧ t.P i + dn t (a + t.W i) = dn t a := (sheet_iff h hb.1 hb.2.1).1 hb.2.2
theorem best_iff {t : Tab} (h : t.Ok) {a i : Nat} (ho : On t a) (hi : i < t.K) (hc : t.can a i = true) : Best t a i ↔ t.P i + dn t (a + t.W i) = dn t a :=
  ⟨fun hb => (best_on h hb).2, fun e => ⟨hi, hc, (sheet_iff h hi hc).2 ⟨ho, e⟩⟩⟩
/-- If nothing can be cut, nothing is worth anything. -/
theorem up_none {t : Tab} (h : t.Ok) (hz : ∀ n, n ≤ t.L → up t n = 0) (a i : Nat) (hi : i < t.K) : t.can a i = false := by
  rcases hc : t.can a i with _ | _
  · rfl
  · have h1 := up_sheet h hi hc
    have h2 := h.fit a i hi hc
    have h3 := h.p i hi
    rw [hz a (by omega), hz (a + t.W i) h2] at h1
    omega
end Go.Dag
