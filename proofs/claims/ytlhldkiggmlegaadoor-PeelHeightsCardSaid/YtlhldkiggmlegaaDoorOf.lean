import Derived.Test.YtlhldkiggmlegaaDoorNs
namespace Go.Proofs.YtlhldkiggmlegaaDoor
open Go.Geo

/-! ## Logs that are built place by place; what moving, turning and widening does -/
def upto {α : Type} (f : Nat → α) (k : Nat) : List α := (List.range k).map f
theorem upto_snoc {α : Type} (f : Nat → α) (k : Nat) : upto f (k + 1) = upto f k ++ [f k] := by
  unfold upto; rw [List.range_succ, List.map_append]; rfl
theorem upto_len {α : Type} (f : Nat → α) (k : Nat) : (upto f k).length = k := by simp [upto]
theorem upto_get {α : Type} (f : Nat → α) (k : Nat) {j : Nat} (h : j < k) (d : α) : (upto f k).getD j d = f j := by
  simp [upto, List.getD_eq_getElem?_getD, h]
theorem upto_getE {α : Type} (f : Nat → α) (k : Nat) {j : Nat} (h : j < (upto f k).length) : (upto f k)[j] = f j := by
  simp [upto]
theorem upto_all {α : Type} (f : Nat → α) (k : Nat) (p : α → Bool) (h : ∀ j, j < k → p (f j) = true) : (upto f k).all p = true := by
  rw [List.all_eq_true]
  intro x hx
  obtain ⟨j, hj, rfl⟩ := List.mem_map.1 hx
  exact h j (List.mem_range.1 hj)
/-- The log whose place k is f k, with the edges g k. -/
abbrev lg (f : Nat → Int) (g : Nat → Int × Int) (n : Nat) : LogD := ⟨upto f n, upto g n⟩
theorem lg_len (f : Nat → Int) (g : Nat → Int × Int) (n : Nat) : (lg f g n).at_.length = n := upto_len f n
theorem lg_len2 (f : Nat → Int) (g : Nat → Int × Int) (n : Nat) : (lg f g n).edges.length = n := upto_len g n
theorem lg_at (f : Nat → Int) (g : Nat → Int × Int) {n k : Nat} (h : k < n) : atD (lg f g n) k = f k := upto_get f n h 0
theorem lg_lo (f : Nat → Int) (g : Nat → Int × Int) {n k : Nat} (h : k < n) : loD (lg f g n) k = (g k).1 := by unfold loD; rw [upto_get g n h]
theorem lg_hi (f : Nat → Int) (g : Nat → Int × Int) {n k : Nat} (h : k < n) : hiD (lg f g n) k = (g k).2 := by unfold hiD; rw [upto_get g n h]
theorem self_lg {l : LogD} (hf : Fit l.at_ [l.edges]) : l = lg (atD l) (fun k => (loD l k, hiD l k)) l.at_.length := by
  have hlen := hf.lens _ (List.mem_singleton.2 rfl)
  obtain ⟨a, e⟩ := l
  simp only at hlen
  unfold lg
  congr 1
  · refine List.ext_getElem (by rw [upto_len]) fun i h1 h2 => ?_
    rw [upto_getE]
    exact atD_eq (l := ⟨a, e⟩) h1
  · refine List.ext_getElem (by rw [upto_len]; exact hlen) fun i h1 h2 => ?_
    rw [upto_getE, ← loD_eq (l := ⟨a, e⟩) h1, ← hiD_eq (l := ⟨a, e⟩) h1]
theorem keep_lg {f : Nat → Int} {g : Nat → Int × Int} {n : Nat} {c a s : Rat} : Keep (lg f g n) c a s ↔ ∀ k, k < n → ((g k).1 : Rat) + c ≤ a + s * (f k : Rat) ∧ a + s * (f k : Rat) ≤ ((g k).2 : Rat) - c := by
  unfold Keep
  rw [lg_len]
  constructor <;> intro h k hk <;> have := h k hk
  · rwa [lg_at f g hk, lg_lo f g hk, lg_hi f g hk] at this
  · rwa [lg_at f g hk, lg_lo f g hk, lg_hi f g hk]
/-- When a built log is valid. -/
theorem lg_fit {f : Nat → Int} {g : Nat → Int × Int} {n : Nat} (h1 : 2 ≤ n) (h2 : n ≤ 8) (h3 : ∀ k, k < n → 0 ≤ f k ∧ f k ≤ 100) (h4 : ∀ k, k < n → -1000 ≤ (g k).1 ∧ (g k).1 ≤ (g k).2 ∧ (g k).2 ≤ 1000) (h5 : ∀ k, k + 1 < n → f k < f (k + 1)) : logErr (lg f g n) = 0 := by
  have a1 : okInts 0 100 (upto f n) = true := upto_all _ _ _ fun j hj => by have := h3 j hj; simp [this.1, this.2]
  have a2 : okEdges (upto g n) = true := upto_all _ _ _ fun j hj => by have := h4 j hj; simp [okEdge, this.1, this.2.1, this.2.2]
  have a3 : strictB (upto f n) = true := (strictB_iff _).2 fun i hi => by
    rw [upto_getE, upto_getE]
    exact h5 i (by rw [upto_len] at hi; exact hi)
  unfold logErr placesErr
  rw [if_neg (by rw [upto_len]; omega), if_neg (by simp [upto_len]), if_neg (by rw [a1]; simp), if_neg (by simp [a2]), if_neg (by rw [a3]; simp)]
theorem lg_facts {f : Nat → Int} {g : Nat → Int × Int} {n : Nat} (h : Fit (lg f g n).at_ [(lg f g n).edges]) : 2 ≤ n ∧ n ≤ 8 := by
  have a := h.two
  have b := h.eight
  rw [lg_len] at a b
  exact ⟨a, b⟩
/-- The pointwise facts of a valid log. -/
theorem log_pt {l : LogD} (hf : Fit l.at_ [l.edges]) {k : Nat} (hk : k < l.at_.length) : 0 ≤ atD l k ∧ atD l k ≤ 100 ∧ -1000 ≤ loD l k ∧ loD l k ≤ hiD l k ∧ hiD l k ≤ 1000 := by
  have hlen := hf.lens _ (List.mem_singleton.2 rfl)
  have hk' : k < l.edges.length := by omega
  obtain ⟨b1, b2⟩ := at_bd hf hk
  obtain ⟨y1, y2, y3⟩ := okEdges_get (hf.edges _ (List.mem_singleton.2 rfl)) k hk'
  rw [loD_eq hk'] at y1 y2
  rw [hiD_eq hk'] at y2 y3
  exact ⟨b1, b2, y1, y2, y3⟩

/-! ### Heights go along -/
theorem heights_along {l l' : LogD} (hf : Fit l.at_ [l.edges]) (hf' : Fit l'.at_ [l'.edges]) {core x x' : Int} (hb : bestV l = bestV l')
    (h : ∀ a s, Keep l (core : Rat) a s → ∃ a' s', Keep l' (core : Rat) a' s' ∧ a' + s' * (x' : Rat) = a + s * (x : Rat))
    (h' : ∀ a s, Keep l' (core : Rat) a s → ∃ a' s', Keep l (core : Rat) a' s' ∧ a' + s' * (x : Rat) = a + s * (x' : Rat)) (hc : (core : Rat) ≤ bestV l) :
    heightsV (fun a b => decide (a < b)) l core x = heightsV (fun a b => decide (a < b)) l' core x' ∧ heightsV (fun a b => decide (b < a)) l core x = heightsV (fun a b => decide (b < a)) l' core x' := by
  have n1 := (height_ne hf (x := x)).2 hc
  have n2 := (height_ne hf' (x := x')).2 (hb ▸ hc)
  obtain ⟨⟨a1, s1, k1, e1⟩, m1⟩ := height_least hf n1
  obtain ⟨⟨a2, s2, k2, e2⟩, m2⟩ := height_least hf' n2
  obtain ⟨⟨a3, s3, k3, e3⟩, m3⟩ := height_most hf n1
  obtain ⟨⟨a4, s4, k4, e4⟩, m4⟩ := height_most hf' n2
  obtain ⟨b1, t1, q1, f1⟩ := h _ _ k1
  obtain ⟨b2, t2, q2, f2⟩ := h' _ _ k2
  obtain ⟨b3, t3, q3, f3⟩ := h _ _ k3
  obtain ⟨b4, t4, q4, f4⟩ := h' _ _ k4
  have u1 := m2 _ _ q1
  have u2 := m1 _ _ q2
  have u3 := m4 _ _ q3
  have u4 := m3 _ _ q4
  rw [f1, e1] at u1
  rw [f2, e2] at u2
  rw [f3, e3] at u3
  rw [f4, e4] at u4
  exact ⟨Rat.le_antisymm u2 u1, Rat.le_antisymm u3 u4⟩
theorem heights_over {l l' : LogD} (hf : Fit l.at_ [l.edges]) (hf' : Fit l'.at_ [l'.edges]) {core x x' : Int} (hb : bestV l = bestV l')
    (h : ∀ a s, Keep l (core : Rat) a s → ∃ a' s', Keep l' (core : Rat) a' s' ∧ a' + s' * (x' : Rat) = -(a + s * (x : Rat)))
    (h' : ∀ a s, Keep l' (core : Rat) a s → ∃ a' s', Keep l (core : Rat) a' s' ∧ a' + s' * (x : Rat) = -(a + s * (x' : Rat))) (hc : (core : Rat) ≤ bestV l) :
    heightsV (fun a b => decide (a < b)) l' core x' = -heightsV (fun a b => decide (b < a)) l core x ∧ heightsV (fun a b => decide (b < a)) l' core x' = -heightsV (fun a b => decide (a < b)) l core x := by
  have n1 := (height_ne hf (x := x)).2 hc
  have n2 := (height_ne hf' (x := x')).2 (hb ▸ hc)
  obtain ⟨⟨a1, s1, k1, e1⟩, m1⟩ := height_least hf n1
  obtain ⟨⟨a2, s2, k2, e2⟩, m2⟩ := height_least hf' n2
  obtain ⟨⟨a3, s3, k3, e3⟩, m3⟩ := height_most hf n1
  obtain ⟨⟨a4, s4, k4, e4⟩, m4⟩ := height_most hf' n2
  obtain ⟨b1, t1, q1, f1⟩ := h _ _ k1
  obtain ⟨b2, t2, q2, f2⟩ := h' _ _ k2
  obtain ⟨b3, t3, q3, f3⟩ := h _ _ k3
  obtain ⟨b4, t4, q4, f4⟩ := h' _ _ k4
  have u1 := m4 _ _ q1
  have u2 := m3 _ _ q2
  have u3 := m2 _ _ q3
  have u4 := m1 _ _ q4
  rw [f1, e1] at u1
  rw [f2, e2] at u2
  rw [f3, e3] at u3
  rw [f4, e4] at u4
  constructor <;> refine Rat.le_antisymm ?_ ?_ <;> grind

/-! ### Turned end for end, and upside down -/
def endF (l : LogD) (k : Nat) : Int := 100 - atD l (l.at_.length - 1 - k)
def endG (l : LogD) (k : Nat) : Int × Int := (loD l (l.at_.length - 1 - k), hiD l (l.at_.length - 1 - k))
abbrev endD (l : LogD) : LogD := lg (endF l) (endG l) l.at_.length
def downG (l : LogD) (k : Nat) : Int × Int := (-hiD l k, -loD l k)
abbrev downD (l : LogD) : LogD := lg (atD l) (downG l) l.at_.length
theorem end_err {l : LogD} (hf : Fit l.at_ [l.edges]) : logErr (endD l) = 0 := by
  have h2 := hf.two
  refine lg_fit h2 hf.eight (fun k hk => ?_) (fun k hk => ?_) (fun k hk => ?_)
  · obtain ⟨b1, b2, _⟩ := log_pt hf (show l.at_.length - 1 - k < l.at_.length by omega)
    unfold endF; omega
  · obtain ⟨_, _, b3, b4, b5⟩ := log_pt hf (show l.at_.length - 1 - k < l.at_.length by omega)
    exact ⟨b3, b4, b5⟩
  · have := strict_at hf (show l.at_.length - 1 - (k + 1) < l.at_.length - 1 - k by omega) (by omega)
    unfold endF; omega
theorem down_err {l : LogD} (hf : Fit l.at_ [l.edges]) : logErr (downD l) = 0 := by
  refine lg_fit hf.two hf.eight (fun k hk => ?_) (fun k hk => ?_) (fun k hk => ?_)
  · obtain ⟨b1, b2, _⟩ := log_pt hf hk
    exact ⟨b1, b2⟩
  · obtain ⟨_, _, b3, b4, b5⟩ := log_pt hf hk
    simp only [downG]; omega
  · exact strict_at hf (by omega) hk
theorem end_keep {l : LogD} {c a s : Rat} : Keep (endD l) c a s ↔ Keep l c (a + 100 * s) (-s) := by
  rw [keep_lg]
  constructor
  · intro h k hk
    have := h (l.at_.length - 1 - k) (by omega)
    simp only [endF, endG] at this
    rw [show l.at_.length - 1 - (l.at_.length - 1 - k) = k by omega, Rat.intCast_sub] at this
    have c1 : ((100 : Int) : Rat) = 100 := rfl
    rw [c1] at this
    constructor <;> grind
  · intro h k hk
    have := h (l.at_.length - 1 - k) (by omega)
    simp only [endF, endG]
    rw [Rat.intCast_sub]
    have c1 : ((100 : Int) : Rat) = 100 := rfl
    rw [c1]
    constructor <;> grind
theorem down_keep {l : LogD} {c a s : Rat} : Keep (downD l) c a s ↔ Keep l c (-a) (-s) := by
  rw [keep_lg]
  constructor
  · intro h k hk
    have := h k hk
    simp only [downG, Rat.intCast_neg] at this
    constructor <;> grind
  · intro h k hk
    have := h k hk
    simp only [downG, Rat.intCast_neg]
    constructor <;> grind
theorem end_best {l : LogD} (hf : Fit l.at_ [l.edges]) : bestV l = bestV (endD l) :=
  best_same hf (logErr_fit' (end_err hf)) (fun c a s h => ⟨a + 100 * s, -s, end_keep.2 (by rw [show a + 100 * s + 100 * -s = a by grind, show - -s = s by grind]; exact h)⟩) (fun c a s h => ⟨_, _, end_keep.1 h⟩)
theorem down_best {l : LogD} (hf : Fit l.at_ [l.edges]) : bestV l = bestV (downD l) :=
  best_same hf (logErr_fit' (down_err hf)) (fun c a s h => ⟨-a, -s, down_keep.2 (by rw [show - -a = a by grind, show - -s = s by grind]; exact h)⟩) (fun c a s h => ⟨_, _, down_keep.1 h⟩)
theorem end_heights {l : LogD} (hf : Fit l.at_ [l.edges]) {core x : Int} (hc : (core : Rat) ≤ bestV l) :
    heightsV (fun a b => decide (a < b)) l core x = heightsV (fun a b => decide (a < b)) (endD l) core (100 - x) ∧ heightsV (fun a b => decide (b < a)) l core x = heightsV (fun a b => decide (b < a)) (endD l) core (100 - x) := by
  have c1 : ((100 - x : Int) : Rat) = 100 - (x : Rat) := by rw [Rat.intCast_sub]; rfl
  refine heights_along hf (logErr_fit' (end_err hf)) (end_best hf) (fun a s h => ⟨a + 100 * s, -s, end_keep.2 (by rw [show a + 100 * s + 100 * -s = a by grind, show - -s = s by grind]; exact h), ?_⟩) (fun a s h => ⟨_, _, end_keep.1 h, ?_⟩) hc
  · rw [c1]; grind
  · rw [c1]; grind
theorem down_heights {l : LogD} (hf : Fit l.at_ [l.edges]) {core x : Int} (hc : (core : Rat) ≤ bestV l) :
    heightsV (fun a b => decide (a < b)) (downD l) core x = -heightsV (fun a b => decide (b < a)) l core x ∧ heightsV (fun a b => decide (b < a)) (downD l) core x = -heightsV (fun a b => decide (a < b)) l core x := by
  refine heights_over hf (logErr_fit' (down_err hf)) (down_best hf) (fun a s h => ⟨-a, -s, down_keep.2 (by rw [show - -a = a by grind, show - -s = s by grind]; exact h), ?_⟩) (fun a s h => ⟨_, _, down_keep.1 h, ?_⟩) hc <;> grind

/-! ### Moved by a straight line -/
def movG (l : LogD) (H S : Int) (k : Nat) : Int × Int := (loD l k + (H + S * atD l k), hiD l k + (H + S * atD l k))
abbrev movD (l : LogD) (H S : Int) : LogD := ⟨l.at_, upto (movG l H S) l.at_.length⟩
theorem mov_lg {l : LogD} (H S : Int) : movD l H S = lg (atD l) (movG l H S) l.at_.length := by
  unfold movD lg
  congr 1
  refine List.ext_getElem (by rw [upto_len]) fun i h1 h2 => ?_
  rw [upto_getE]
  exact atD_eq h1
theorem mov_keep {l : LogD} {H S : Int} {c a s : Rat} : Keep (movD l H S) c a s ↔ Keep l c (a - (H : Rat)) (s - (S : Rat)) := by
  rw [mov_lg, keep_lg]
  constructor <;> intro h k hk <;> have := h k hk
  · simp only [movG, Rat.intCast_add, Rat.intCast_mul] at this
    constructor <;> grind
  · simp only [movG, Rat.intCast_add, Rat.intCast_mul]
    constructor <;> grind
theorem mov_best {l : LogD} {H S : Int} (hf : Fit l.at_ [l.edges]) (hf' : Fit (movD l H S).at_ [(movD l H S).edges]) : bestV l = bestV (movD l H S) :=
  best_same hf hf' (fun c a s h => ⟨a + (H : Rat), s + (S : Rat), mov_keep.2 (by rw [show a + (H : Rat) - (H : Rat) = a by grind, show s + (S : Rat) - (S : Rat) = s by grind]; exact h)⟩) (fun c a s h => ⟨_, _, mov_keep.1 h⟩)
theorem core_keep {l : LogD} (hf : Fit l.at_ [l.edges]) {den start step : Int} (h : 0 < den) {c : Rat} : c ≤ coreOf l den start step ↔ Keep l c ((start : Rat) / (den : Rat)) ((step : Rat) / (den : Rat)) := by
  rw [core_iff hf]
  unfold Keep
  constructor <;> intro g k hk <;> have := g k hk
  · simp only [lowP, uppP, strAt_eq h] at this
    exact this
  · simp only [lowP, uppP, strAt_eq h]
    exact this
theorem mov_core {l : LogD} {H S : Int} (hf : Fit l.at_ [l.edges]) (hf' : Fit (movD l H S).at_ [(movD l H S).edges]) {den start step : Int} (h : 0 < den) : coreOf (movD l H S) den (start + den * H) (step + den * S) = coreOf l den start step := by
  have hd : (den : Rat) ≠ 0 := by have := Rat.intCast_pos.2 h; grind
  have key : ∀ c : Rat, c ≤ coreOf (movD l H S) den (start + den * H) (step + den * S) ↔ c ≤ coreOf l den start step := fun c => by
    rw [core_keep hf' h, core_keep hf h, mov_keep, Rat.intCast_add, Rat.intCast_add, Rat.intCast_mul, Rat.intCast_mul]
    rw [show ((start : Rat) + (den : Rat) * (H : Rat)) / (den : Rat) - (H : Rat) = (start : Rat) / (den : Rat) by grind, show ((step : Rat) + (den : Rat) * (S : Rat)) / (den : Rat) - (S : Rat) = (step : Rat) / (den : Rat) by grind]
  exact Rat.le_antisymm ((key _).1 Rat.le_refl) ((key _).2 Rat.le_refl)

/-! ### As many times as great; farther; as many times as far -/
def timG (l : LogD) (t : Int) (k : Nat) : Int × Int := (t * loD l k, t * hiD l k)
abbrev timD (l : LogD) (t : Int) : LogD := ⟨l.at_, upto (timG l t) l.at_.length⟩
abbrev farD (l : LogD) (m : Int) : LogD := ⟨upto (fun k => atD l k + m) l.at_.length, l.edges⟩
abbrev mulD (l : LogD) (t : Int) : LogD := ⟨upto (fun k => t * atD l k) l.at_.length, l.edges⟩
theorem edges_upto {l : LogD} (hf : Fit l.at_ [l.edges]) : l.edges = upto (fun k => (loD l k, hiD l k)) l.at_.length := by
  have hlen := hf.lens _ (List.mem_singleton.2 rfl)
  refine List.ext_getElem (by rw [upto_len]; exact hlen) fun i h1 h2 => ?_
  rw [upto_getE, ← loD_eq h1, ← hiD_eq h1]
theorem at_upto (l : LogD) : l.at_ = upto (atD l) l.at_.length := by
  refine List.ext_getElem (by rw [upto_len]) fun i h1 h2 => ?_
  rw [upto_getE]
  exact atD_eq h1
theorem tim_keep {l : LogD} {t : Int} {c a s : Rat} : Keep (timD l t) c a s ↔ ∀ k, k < l.at_.length → (t : Rat) * (loD l k : Rat) + c ≤ a + s * (atD l k : Rat) ∧ a + s * (atD l k : Rat) ≤ (t : Rat) * (hiD l k : Rat) - c := by
  have e : timD l t = lg (atD l) (timG l t) l.at_.length := by unfold timD lg; rw [← at_upto]
  rw [e, keep_lg]
  simp only [timG, Rat.intCast_mul]
theorem far_keep {l : LogD} (hf : Fit l.at_ [l.edges]) {m : Int} {c a s : Rat} : Keep (farD l m) c a s ↔ Keep l c (a + s * (m : Rat)) s := by
  have e : farD l m = lg (fun k => atD l k + m) (fun k => (loD l k, hiD l k)) l.at_.length := by unfold farD lg; rw [← edges_upto hf]
  rw [e, keep_lg]
  constructor <;> intro h k hk <;> have := h k hk
  · simp only [Rat.intCast_add] at this
    constructor <;> grind
  · simp only [Rat.intCast_add]
    constructor <;> grind
theorem mul_keep {l : LogD} (hf : Fit l.at_ [l.edges]) {t : Int} {c a s : Rat} : Keep (mulD l t) c a s ↔ Keep l c a (s * (t : Rat)) := by
  have e : mulD l t = lg (fun k => t * atD l k) (fun k => (loD l k, hiD l k)) l.at_.length := by unfold mulD lg; rw [← edges_upto hf]
  rw [e, keep_lg]
  constructor <;> intro h k hk <;> have := h k hk
  · simp only [Rat.intCast_mul] at this
    constructor <;> grind
  · simp only [Rat.intCast_mul]
    constructor <;> grind
theorem far_best {l : LogD} {m : Int} (hf : Fit l.at_ [l.edges]) (hf' : Fit (farD l m).at_ [(farD l m).edges]) : bestV l = bestV (farD l m) :=
  best_same hf hf' (fun c a s h => ⟨a - s * (m : Rat), s, (far_keep hf).2 (by rw [show a - s * (m : Rat) + s * (m : Rat) = a by grind]; exact h)⟩) (fun c a s h => ⟨_, _, (far_keep hf).1 h⟩)
theorem mul_best {l : LogD} {t : Int} (ht : 0 < t) (hf : Fit l.at_ [l.edges]) (hf' : Fit (mulD l t).at_ [(mulD l t).edges]) : bestV l = bestV (mulD l t) := by
  have h0 : (t : Rat) ≠ 0 := by have := Rat.intCast_pos.2 ht; grind
  exact best_same hf hf' (fun c a s h => ⟨a, s / (t : Rat), (mul_keep hf).2 (by rw [show s / (t : Rat) * (t : Rat) = s by grind]; exact h)⟩) (fun c a s h => ⟨_, _, (mul_keep hf).1 h⟩)
theorem tim_best {l : LogD} {t : Int} (ht : 0 < t) (hf : Fit l.at_ [l.edges]) (hf' : Fit (timD l t).at_ [(timD l t).edges]) : bestV (timD l t) = (t : Rat) * bestV l := by
  have hp := Rat.intCast_pos.2 ht
  generalize hT : (t : Rat) = T at *
  have h0 : T ≠ 0 := by grind
  refine Rat.le_antisymm ?_ ?_
  · obtain ⟨a, s, h⟩ := best_keep hf'
    rw [tim_keep, hT] at h
    have : bestV (timD l t) / T ≤ bestV l := (best_iff hf).2 ⟨a / T, s / T, fun k hk => by
      obtain ⟨g1, g2⟩ := h k hk
      constructor
      · refine Rat.le_of_mul_le_mul_right ?_ hp
        rw [show ((loD l k : Rat) + bestV (timD l t) / T) * T = T * (loD l k : Rat) + bestV (timD l t) by grind, show (a / T + s / T * (atD l k : Rat)) * T = a + s * (atD l k : Rat) by grind]
        exact g1
      · refine Rat.le_of_mul_le_mul_right ?_ hp
        rw [show ((hiD l k : Rat) - bestV (timD l t) / T) * T = T * (hiD l k : Rat) - bestV (timD l t) by grind, show (a / T + s / T * (atD l k : Rat)) * T = a + s * (atD l k : Rat) by grind]
        exact g2⟩
    have := Rat.mul_le_mul_of_nonneg_right this (c := T) (by grind)
    rw [show bestV (timD l t) / T * T = bestV (timD l t) by grind] at this
    grind
  · obtain ⟨a, s, h⟩ := best_keep hf
    refine (best_iff hf').2 ⟨T * a, T * s, tim_keep.2 fun k hk => ?_⟩
    obtain ⟨g1, g2⟩ := h k hk
    rw [hT]
    have q1 := Rat.mul_le_mul_of_nonneg_right g1 (c := T) (by grind)
    have q2 := Rat.mul_le_mul_of_nonneg_right g2 (c := T) (by grind)
    constructor <;> grind
theorem mkRat_times (t : Int) (r : Rat) : mkRat (t * r.num) (r.den : Int).toNat = (t : Rat) * r := by
  rw [Int.toNat_natCast, Rat.mkRat_eq_div, Rat.intCast_mul]
  have e0 : r = (r.num : Rat) / (r.den : Rat) := by rw [← Rat.mkRat_eq_div]; exact (Rat.mkRat_self _).symm
  have : (r.den : Rat) ≠ 0 := by have := Rat.natCast_pos.2 r.den_pos; grind
  generalize hn : (r.num : Rat) = n at *
  generalize hd : (r.den : Rat) = d at *
  rw [e0]
  grind

/-! ### With wider edges; without one of its places -/
def widG (l : LogD) (d : Int) (k : Nat) : Int × Int := (max (-1000) (loD l k - d), min 1000 (hiD l k + d.tdiv 2))
abbrev widD (l : LogD) (d : Int) : LogD := ⟨l.at_, upto (widG l d) l.at_.length⟩
theorem wid_lg (l : LogD) (d : Int) : widD l d = lg (atD l) (widG l d) l.at_.length := by unfold widD lg; rw [← at_upto]
theorem wid_err {l : LogD} (hf : Fit l.at_ [l.edges]) {d : Int} (hd : 0 ≤ d) : logErr (widD l d) = 0 := by
  rw [wid_lg]
  refine lg_fit hf.two hf.eight (fun k hk => ?_) (fun k hk => ?_) (fun k hk => ?_)
  · obtain ⟨b1, b2, _⟩ := log_pt hf hk
    exact ⟨b1, b2⟩
  · obtain ⟨_, _, b3, b4, b5⟩ := log_pt hf hk
    have : 0 ≤ d.tdiv 2 := Int.tdiv_nonneg hd (by omega)
    simp only [widG]; omega
  · exact strict_at hf (by omega) hk
theorem wid_best {l : LogD} (hf : Fit l.at_ [l.edges]) {d : Int} (hd : 0 ≤ d) : bestV l ≤ bestV (widD l d) ∧ bestV (widD l d) ≤ bestV l + (d : Rat) := by
  have hf' := logErr_fit' (wid_err hf hd)
  have hd2 : 0 ≤ d.tdiv 2 ∧ d.tdiv 2 ≤ d := by rw [Int.tdiv_eq_ediv_of_nonneg hd]; omega
  constructor
  · refine best_mono hf hf' fun c a s h => ⟨a, s, ?_⟩
    rw [wid_lg, keep_lg]
    intro k hk
    obtain ⟨g1, g2⟩ := h k hk
    obtain ⟨_, _, b3, b4, b5⟩ := log_pt hf hk
    have e1 : (((widG l d k).1 : Int) : Rat) ≤ (loD l k : Rat) := Rat.intCast_le_intCast.2 (by simp only [widG]; omega)
    have e2 : (hiD l k : Rat) ≤ (((widG l d k).2 : Int) : Rat) := Rat.intCast_le_intCast.2 (by simp only [widG]; omega)
    constructor <;> grind
  · obtain ⟨a, s, h⟩ := best_keep hf'
    have : bestV (widD l d) - (d : Rat) ≤ bestV l := (best_iff hf).2 ⟨a, s, fun k hk => by
      rw [wid_lg, keep_lg] at h
      obtain ⟨g1, g2⟩ := h k hk
      have e1 : ((loD l k - d : Int) : Rat) ≤ (((widG l d k).1 : Int) : Rat) := Rat.intCast_le_intCast.2 (by simp only [widG]; omega)
      have e2 : (((widG l d k).2 : Int) : Rat) ≤ ((hiD l k + d : Int) : Rat) := Rat.intCast_le_intCast.2 (by simp only [widG]; omega)
      rw [Rat.intCast_sub] at e1
      rw [Rat.intCast_add] at e2
      rw [← wid_lg] at g1 g2
      constructor <;> grind⟩
    grind
theorem mkRat_plus (d : Int) (r : Rat) : mkRat (r.num + d * (r.den : Int)) (r.den : Int).toNat = r + (d : Rat) := by
  rw [Int.toNat_natCast, Rat.mkRat_eq_div, Rat.intCast_add, Rat.intCast_mul, Rat.intCast_natCast]
  have e0 : r = (r.num : Rat) / (r.den : Rat) := by rw [← Rat.mkRat_eq_div]; exact (Rat.mkRat_self _).symm
  have : (r.den : Rat) ≠ 0 := by have := Rat.natCast_pos.2 r.den_pos; grind
  generalize hn : (r.num : Rat) = n at *
  generalize hd : (r.den : Rat) = d at *
  rw [e0]
  grind
/-- The places below k but i, in their order. -/
def but {α : Type} (f : Nat → α) (i k : Nat) : List α := ((List.range k).filter (· ≠ i)).map f
theorem but_snoc_ne {α : Type} (f : Nat → α) {i k : Nat} (h : k ≠ i) : but f i (k + 1) = but f i k ++ [f k] := by
  unfold but; rw [List.range_succ, List.filter_append, List.map_append]; simp [h]
theorem but_snoc_eq {α : Type} (f : Nat → α) {i k : Nat} (h : k = i) : but f i (k + 1) = but f i k := by
  unfold but; rw [List.range_succ, List.filter_append, List.map_append]; simp [h]
theorem but_len_le {α : Type} (f : Nat → α) (i k : Nat) : (but f i k).length ≤ k := by
  unfold but
  rw [List.length_map]
  exact Nat.le_trans (List.length_filter_le _ _) (by simp)
theorem but_len2 {α β : Type} (f : Nat → α) (g : Nat → β) (i k : Nat) : (but f i k).length = (but g i k).length := by
  unfold but; rw [List.length_map, List.length_map]
abbrev butD (l : LogD) (i : Nat) : LogD := ⟨but (atD l) i l.at_.length, but (fun k => (loD l k, hiD l k)) i l.at_.length⟩
theorem but_keep {l : LogD} {i : Nat} {c a s : Rat} (h : Keep l c a s) : Keep (butD l i) c a s := by
  intro k hk
  unfold atD loD hiD butD at *
  simp only at hk ⊢
  have hk2 := hk
  rw [but_len2 (atD l) (fun k => (loD l k, hiD l k))] at hk2
  simp only [List.getD_eq_getElem?_getD, List.getElem?_eq_getElem hk, List.getElem?_eq_getElem hk2, Option.getD_some]
  unfold but at hk hk2 ⊢
  simp only [List.getElem_map]
  rw [List.length_map] at hk
  have hm := List.getElem_mem hk
  obtain ⟨h1, _⟩ := List.mem_filter.1 hm
  have := h _ (List.mem_range.1 h1)
  exact this
theorem but_best {l : LogD} {i : Nat} (hf : Fit l.at_ [l.edges]) (hf' : Fit (butD l i).at_ [(butD l i).edges]) : bestV l ≤ bestV (butD l i) :=
  best_mono hf hf' fun _ _ _ h => ⟨_, _, but_keep h⟩

/-! ### Straight edges -/
def strF (a step : Int) (k : Nat) : Int := a + step * (k : Int)
def strG (n x y w z : Int) (k : Nat) : Int × Int := (x * (n - 1 - (k : Int)) + y * (k : Int) - 900, x * (n - 1 - (k : Int)) + y * (k : Int) + w * (n - 1 - (k : Int)) + z * (k : Int) - 900)
abbrev strL (a step n x y w z : Int) (m : Nat) : LogD := lg (strF a step) (strG n x y w z) m
theorem str_best {a step x y w z : Int} {m : Nat} (hs : 1 ≤ step) (hm : 2 ≤ m) (hf : Fit (strL a step m x y w z m).at_ [(strL a step m x y w z m).edges]) :
    mkRat (min w z * ((m : Int) - 1)) 2 = bestV (strL a step m x y w z m) := by
  rw [Rat.mkRat_eq_div]
  have h2 : ((2 : Nat) : Rat) = 2 := rfl
  rw [h2]
  have hS : (1 : Rat) ≤ (step : Rat) := by have := (Rat.intCast_le_intCast (a := 1) (b := step)).2 hs; exact this
  obtain ⟨N, hN⟩ : ∃ N : Int, (m : Int) - 1 = N := ⟨_, rfl⟩
  refine Rat.le_antisymm ?_ ?_
  · refine (best_iff hf).2 ⟨((2 * (x * N - 900) + w * N : Int) : Rat) / 2 - ((2 * (y - x) + (z - w) : Int) : Rat) / 2 / (step : Rat) * (a : Rat), ((2 * (y - x) + (z - w) : Int) : Rat) / 2 / (step : Rat), keep_lg.2 fun k hk => ?_⟩
    have e : ((2 * (x * N - 900) + w * N : Int) : Rat) / 2 - ((2 * (y - x) + (z - w) : Int) : Rat) / 2 / (step : Rat) * (a : Rat) + ((2 * (y - x) + (z - w) : Int) : Rat) / 2 / (step : Rat) * (strF a step k : Rat) = ((2 * (x * N - 900) + w * N + (2 * (y - x) + (z - w)) * (k : Int) : Int) : Rat) / 2 := by
      unfold strF
      rw [Rat.intCast_add, Rat.intCast_mul, Rat.intCast_add (a := 2 * (x * N - 900) + w * N), Rat.intCast_mul (a := 2 * (y - x) + (z - w))]
      have : (step : Rat) ≠ 0 := by grind
      grind
    rw [e]
    have q1 : min w z * N ≤ w * (N - (k : Int)) + z * (k : Int) := by
      have u1 : min w z * (N - (k : Int)) ≤ w * (N - (k : Int)) := Int.mul_le_mul_of_nonneg_right (by omega) (by omega)
      have u2 : min w z * (k : Int) ≤ z * (k : Int) := Int.mul_le_mul_of_nonneg_right (by omega) (by omega)
      have u3 : min w z * N = min w z * (N - (k : Int)) + min w z * (k : Int) := by grind
      omega
    have q2 : w * (N - (k : Int)) = w * N - w * (k : Int) := by grind
    have q3 : x * (N - (k : Int)) = x * N - x * (k : Int) := by grind
    simp only [strG, hN]
    rw [q3, q2]
    have q4 : (2 * (y - x) + (z - w)) * (k : Int) = 2 * (y * (k : Int)) - 2 * (x * (k : Int)) + z * (k : Int) - w * (k : Int) := by grind
    rw [q4]
    rw [q2] at q1
    generalize x * N = A at *
    generalize x * (k : Int) = B at *
    generalize y * (k : Int) = C at *
    generalize w * N = D at *
    generalize w * (k : Int) = E at *
    generalize z * (k : Int) = F at *
    generalize min w z * N = M at *
    have r1 : ((2 * (A - B + C - 900) + M : Int) : Rat) ≤ ((2 * (A - 900) + D + (2 * C - 2 * B + F - E) : Int) : Rat) := Rat.intCast_le_intCast.2 (by omega)
    have r2 : ((2 * (A - 900) + D + (2 * C - 2 * B + F - E) : Int) : Rat) ≤ ((2 * (A - B + C + (D - E) + F - 900) - M : Int) : Rat) := Rat.intCast_le_intCast.2 (by omega)
    generalize ((2 * (A - 900) + D + (2 * C - 2 * B + F - E) : Int) : Rat) = Z at *
    rw [Rat.intCast_add, Rat.intCast_mul] at r1
    rw [Rat.intCast_sub (a := 2 * (A - B + C + (D - E) + F - 900)), Rat.intCast_mul] at r2
    have h2' : ((2 : Int) : Rat) = 2 := rfl
    rw [h2'] at r1 r2
    constructor <;> grind
  · obtain ⟨p, q, h⟩ := best_keep hf
    rw [keep_lg] at h
    generalize bestV (strL a step m x y w z m) = b at *
    have g0 := h 0 (by omega)
    have g1 := h (m - 1) (by omega)
    have e1 : ((m - 1 : Nat) : Int) = N := by omega
    simp only [strF, strG, hN, e1] at g0 g1
    have hmin : min w z = w ∨ min w z = z := by omega
    have f0 : 2 * b ≤ ((w * N : Int) : Rat) := by
      obtain ⟨k1, k2⟩ := g0
      have k3 := Rat.le_trans k1 k2
      have : ((x * (N - (0 : Nat)) + y * (0 : Nat) + w * (N - (0 : Nat)) + z * (0 : Nat) - 900 : Int) : Rat) = ((x * (N - (0 : Nat)) + y * (0 : Nat) - 900 : Int) : Rat) + ((w * N : Int) : Rat) := by
        rw [← Rat.intCast_add]
        congr 1
        simp
        omega
      rw [this] at k3
      grind
    have f1 : 2 * b ≤ ((z * N : Int) : Rat) := by
      obtain ⟨k1, k2⟩ := g1
      have k3 := Rat.le_trans k1 k2
      have : ((x * (N - N) + y * N + w * (N - N) + z * N - 900 : Int) : Rat) = ((x * (N - N) + y * N - 900 : Int) : Rat) + ((z * N : Int) : Rat) := by
        rw [← Rat.intCast_add]
        congr 1
        simp
        omega
      rw [this] at k3
      grind
    clear h hf g0 g1
    rcases hmin with e | e
    · rw [e, hN]
      generalize ((w * N : Int) : Rat) = q at *
      grind
    · rw [e, hN]
      generalize ((z * N : Int) : Rat) = q at *
      grind
end Go.Proofs.YtlhldkiggmlegaaDoor
