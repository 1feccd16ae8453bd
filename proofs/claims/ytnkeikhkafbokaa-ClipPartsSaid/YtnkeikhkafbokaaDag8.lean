import Derived.Test.YtnkeikhkafbokaaDag5
import Derived.Test.YtnkeikhkafbokaaDag7
/-! The mathematics of layer 2: what makes a ribbon, kinds and cuts valid; a ribbon that is turned, two that are joined; more kinds. No marks besides the imports'. -/
namespace Go.Dag

/-! ## Valid ribbons and kinds -/
def fsOk (len : Int) : Int → List Int → Bool
  | _, [] => true
  | lo, f :: fs => decide (lo ≤ f) && decide (f ≤ len - 1) && fsOk len (f + 1) fs
def ribErr (r : RibD) : Int := if r.len < 1 ∨ 24 < r.len then 6 else if fsOk r.len 0 r.fs = true then 0 else 3
def okKind (k : KindD) : Bool := decide (1 ≤ k.w) && decide (k.w ≤ 24) && (decide (1 ≤ k.p) && decide (k.p ≤ 1000)) && (decide (0 ≤ k.m) && decide (k.m ≤ 24))
def kindErr (ks : List KindD) : Int := if ks.length < 1 ∨ 6 < ks.length then 6 else if ks.all okKind = true then 0 else 3
def bothErr (r : RibD) (ks : List KindD) : Int := if ribErr r ≠ 0 then ribErr r else kindErr ks
structure RibOk (r : RibD) : Prop where
  l1 : 1 ≤ r.len
  l2 : r.len ≤ 24
  fs : fsOk r.len 0 r.fs = true
theorem ribErr_zero {r : RibD} (h : ribErr r = 0) : RibOk r := by
  unfold ribErr at h
  split at h
  · omega
  · split at h
    · exact ⟨by omega, by omega, by assumption⟩
    · omega
theorem ribErr_of {r : RibD} (h : RibOk r) : ribErr r = 0 := by
  unfold ribErr
  have := h.l1
  have := h.l2
  rw [if_neg (by omega), if_pos h.fs]
theorem okKind_iff (k : KindD) : okKind k = true ↔ KindOk k := by
  unfold okKind
  simp only [Bool.and_eq_true, decide_eq_true_eq]
  exact ⟨fun ⟨⟨⟨a, b⟩, c, d⟩, e, f⟩ => ⟨a, b, c, d, e, f⟩, fun h => ⟨⟨⟨h.w1, h.w2⟩, h.p1, h.p2⟩, h.m1, h.m2⟩⟩
theorem kindErr_zero {ks : List KindD} (h : kindErr ks = 0) : KindsOk ks := by
  unfold kindErr at h
  split at h
  · omega
  · split at h
    · rename_i h1 h2
      rw [List.all_eq_true] at h2
      exact ⟨by omega, fun k hk => (okKind_iff k).1 (h2 k hk)⟩
    · omega
theorem kindErr_of {ks : List KindD} (h : KindsOk ks) : kindErr ks = 0 := by
  unfold kindErr
  have := h.1
  rw [if_neg (by omega), if_pos (List.all_eq_true.2 fun k hk => (okKind_iff k).2 (h.2 k hk))]
theorem bothErr_zero {r : RibD} {ks : List KindD} (h : bothErr r ks = 0) : RibOk r ∧ KindsOk ks := by
  unfold bothErr at h
  split at h
  · contradiction
  · rename_i h1
    exact ⟨ribErr_zero (by omega), kindErr_zero h⟩
theorem bothErr_of {r : RibD} {ks : List KindD} (h : RibOk r) (hk : KindsOk ks) : bothErr r ks = 0 := by
  unfold bothErr
  rw [if_neg (by rw [ribErr_of h]; simp), kindErr_of hk]
theorem fsOk_bound {len : Int} : ∀ {fs : List Int} {lo : Int}, fsOk len lo fs = true → ∀ f ∈ fs, lo ≤ f ∧ f < len
  | [], _, _, f, hf => by cases hf
  | x :: fs, lo, h, f, hf => by
    simp only [fsOk, Bool.and_eq_true, decide_eq_true_eq] at h
    rcases List.mem_cons.1 hf with rfl | hf
    · omega
    · have := fsOk_bound h.2 f hf
      omega
theorem fsOk_len {len : Int} : ∀ {fs : List Int} {lo : Int}, fsOk len lo fs = true → lo ≤ len → (fs.length : Int) ≤ len - lo
  | [], _, _, h => by simp; omega
  | x :: fs, lo, h, _ => by
    simp only [fsOk, Bool.and_eq_true, decide_eq_true_eq] at h
    have := fsOk_len h.2 (by omega)
    simp only [List.length_cons]
    omega
theorem fsOk_weak {len : Int} : ∀ {fs : List Int} {lo lo' : Int}, fsOk len lo fs = true → lo' ≤ lo → fsOk len lo' fs = true
  | [], _, _, _, _ => rfl
  | x :: fs, lo, lo', h, hl => by
    simp only [fsOk, Bool.and_eq_true, decide_eq_true_eq] at h ⊢
    exact ⟨⟨by omega, h.1.2⟩, h.2⟩
theorem fsOk_append {len : Int} : ∀ {fs gs : List Int} {lo lo' : Int}, fsOk len lo fs = true → fsOk len lo' gs = true → (∀ f ∈ fs, f < lo') → lo ≤ lo' → fsOk len lo (fs ++ gs) = true
  | [], gs, _, _, _, h, _, hl => by simpa using fsOk_weak h hl
  | x :: fs, gs, lo, lo', h, h', hb, hl => by
    simp only [fsOk, Bool.and_eq_true, decide_eq_true_eq, List.cons_append] at h ⊢
    exact ⟨h.1, fsOk_append h.2 h' (fun f hf => hb f (List.mem_cons_of_mem _ hf)) (by have := hb x List.mem_cons_self; omega)⟩
theorem RibOk.count {r : RibD} (h : RibOk r) : r.fs.length ≤ 24 := by
  have := fsOk_len h.fs (by have := h.l1; omega)
  have := h.l2
  omega
theorem isF_in {r : RibD} (h : RibOk r) {u : Int} (hu : isF r u = true) : 0 ≤ u ∧ u < r.len := by
  unfold isF at hu
  exact fsOk_bound h.fs u (by simpa using hu)

/-! ## Parts of a valid ribbon -/
theorem fsOk_map {len d : Int} : ∀ {fs : List Int} {lo : Int}, fsOk len lo fs = true → fsOk (len + d) (lo + d) (fs.map (· + d)) = true
  | [], _, _ => rfl
  | x :: fs, lo, h => by
    simp only [fsOk, Bool.and_eq_true, decide_eq_true_eq, List.map_cons] at h ⊢
    refine ⟨⟨by omega, by omega⟩, ?_⟩
    have := fsOk_map (d := d) h.2
    rwa [show x + d + 1 = x + 1 + d by omega]
theorem fsOk_piece {len a b : Int} : ∀ {fs : List Int} {lo lo' : Int}, fsOk len lo fs = true → lo' ≤ lo - a ∨ lo' ≤ 0 → fsOk (b - a) lo' ((fs.filter fun f => decide (a ≤ f) && decide (f < b)).map fun f => f - a) = true
  | [], _, _, _, _ => rfl
  | x :: fs, lo, lo', h, hl => by
    simp only [fsOk, Bool.and_eq_true, decide_eq_true_eq] at h
    rw [List.filter_cons]
    by_cases hx : (decide (a ≤ x) && decide (x < b)) = true
    · rw [if_pos hx]
      simp only [Bool.and_eq_true, decide_eq_true_eq] at hx
      simp only [List.map_cons, fsOk, Bool.and_eq_true, decide_eq_true_eq]
      exact ⟨⟨by omega, by omega⟩, fsOk_piece h.2 (.inl (by omega))⟩
    · rw [if_neg hx]
      exact fsOk_piece h.2 (by omega)
theorem piece_ok {r : RibD} (h : RibOk r) {a b : Int} (h0 : 0 ≤ a) (hab : a < b) (hb : b ≤ r.len) : RibOk (piece r a b) := by
  have := h.l2
  exact ⟨by simp only [piece]; omega, by simp only [piece]; omega, fsOk_piece h.fs (.inr (Int.le_refl _))⟩
theorem fsOk_erase {len : Int} : ∀ {fs : List Int} {lo : Int} (i : Nat), fsOk len lo fs = true → fsOk len lo (fs.eraseIdx i) = true
  | [], _, _, h => h
  | x :: fs, lo, 0, h => by
    simp only [fsOk, Bool.and_eq_true, decide_eq_true_eq] at h
    exact fsOk_weak h.2 (by omega)
  | x :: fs, lo, i + 1, h => by
    simp only [fsOk, Bool.and_eq_true, decide_eq_true_eq, List.eraseIdx_cons_succ] at h ⊢
    exact ⟨h.1, fsOk_erase i h.2⟩
def without (r : RibD) (i : Nat) : RibD := ⟨r.len, r.fs.eraseIdx i⟩
theorem without_ok {r : RibD} (h : RibOk r) (i : Nat) : RibOk (without r i) := ⟨h.l1, h.l2, fsOk_erase i h.fs⟩
theorem without_sub {r : RibD} {i : Nat} {u : Int} (h : isF (without r i) u = true) : isF r u = true := by
  unfold isF without at *
  simp only [List.contains_iff_mem] at *
  exact List.mem_of_mem_eraseIdx h
def bare (r : RibD) : RibD := ⟨r.len, []⟩
theorem bare_ok {r : RibD} (h : RibOk r) : RibOk (bare r) := ⟨h.l1, h.l2, rfl⟩
/-- The ribbon with one unit more that is a fault: all units, in order, that are a fault or this one. -/
def moreF (r : RibD) (u : Int) : RibD := ⟨r.len, ((List.range r.len.toNat).map fun (n : Nat) => (n : Int)).filter fun x => decide (x = u) || isF r x⟩
theorem fsOk_range (len : Int) (p : Int → Bool) : ∀ (n m : Nat), (m + n : Int) ≤ len → fsOk len m (((List.range' m n).map fun (n : Nat) => (n : Int)).filter p) = true
  | 0, m, _ => rfl
  | n + 1, m, h => by
    rw [List.range'_succ, List.map_cons, List.filter_cons]
    have ih := fsOk_range len p n (m + 1) (by omega)
    split
    · simp only [fsOk, Bool.and_eq_true, decide_eq_true_eq]
      exact ⟨⟨Int.le_refl _, by omega⟩, by simpa using ih⟩
    · exact fsOk_weak ih (by omega)
theorem more_ok {r : RibD} (h : RibOk r) (u : Int) : RibOk (moreF r u) := by
  refine ⟨h.l1, h.l2, ?_⟩
  have h1 := h.l1
  have := fsOk_range r.len (fun x => decide (x = u) || isF r x) r.len.toNat 0 (by omega)
  rw [← List.range_eq_range'] at this
  exact this
theorem isF_more {r : RibD} (h : RibOk r) {u x : Int} (hx : isF r x = true) : isF (moreF r u) x = true := by
  have hb := isF_in h hx
  show List.contains _ _ = true
  rw [List.contains_iff_mem, moreF, List.mem_filter]
  refine ⟨List.mem_map.2 ⟨x.toNat, List.mem_range.2 (by omega), by omega⟩, by simp [hx]⟩

/-! ## A ribbon that is turned -/
theorem isum_reverse {α : Type} (xs : List α) (f : α → Int) : isum xs.reverse f = isum xs f := by
  induction xs with
  | nil => rfl
  | cons x xs ih =>
    rw [List.reverse_cons, isum_append, ih, isum_cons, isum_cons]
    simp only [isum, List.map_nil, List.sum_nil]
    omega
theorem isum_turn (n : Nat) (f : Nat → Int) : isum (List.range n) (fun u => f (n - 1 - u)) = isum (List.range n) f := by
  rw [← isum_reverse (List.range n) f]
  have e : (List.range n).reverse = (List.range n).map fun u => n - 1 - u := by
    refine List.ext_getElem (by simp) fun i h1 h2 => ?_
    simp
  rw [e]
  unfold isum
  rw [List.map_map]
  rfl
def turnR (r : RibD) : RibD := ⟨r.len, (r.fs.map fun f => r.len - 1 - f).reverse⟩
theorem isF_turn (r : RibD) (u : Int) : isF (turnR r) u = isF r (r.len - 1 - u) := by
  unfold isF turnR
  rw [Bool.eq_iff_iff]
  simp only [List.contains_iff_mem, List.mem_reverse, List.mem_map]
  constructor
  · rintro ⟨f, h1, rfl⟩
    rwa [show r.len - 1 - (r.len - 1 - f) = f by omega]
  · intro h
    exact ⟨_, h, by omega⟩
theorem nf_turn {r : RibD} (h0 : 0 ≤ r.len) {a n : Nat} (h : (a : Int) + n ≤ r.len) : nf (turnR r) a n = nf r (r.len.toNat - a - n) n := by
  unfold nf
  rw [← isum_turn n]
  refine isum_same fun u hu => ?_
  have hu' := List.mem_range.1 hu
  rw [isF_turn, show r.len - 1 - ((a + (n - 1 - u) : Nat) : Int) = ((r.len.toNat - a - n + u : Nat) : Int) by omega]
theorem fsOk_rev {len : Int} : ∀ {fs : List Int} {lo : Int}, 0 ≤ lo → fsOk len lo fs = true → fsOk len 0 (fs.map fun f => len - 1 - f).reverse = true ∧ ∀ f ∈ (fs.map fun f => len - 1 - f).reverse, f ≤ len - 1 - lo
  | [], _, _, _ => ⟨rfl, fun f hf => by simp at hf⟩
  | x :: fs, lo, h0, h => by
    simp only [fsOk, Bool.and_eq_true, decide_eq_true_eq] at h
    obtain ⟨h1, h2⟩ := fsOk_rev (by omega) h.2
    rw [List.map_cons, List.reverse_cons]
    refine ⟨fsOk_append (lo' := len - 1 - x) h1 (by simp [fsOk]; omega) (fun f hf => by have := h2 f hf; omega) (by omega), fun f hf => ?_⟩
    rcases List.mem_append.1 hf with hf | hf
    · have := h2 f hf; omega
    · simp only [List.mem_singleton] at hf; omega
theorem turn_ok {r : RibD} (h : RibOk r) : RibOk (turnR r) := ⟨h.l1, h.l2, (fsOk_rev (Int.le_refl _) h.fs).1⟩
theorem tab_turn {r : RibD} {ks : List KindD} (h0 : 0 ≤ r.len) (hk : KindsOk ks) : tabOf (turnR r) ks = rev (tabOf r ks) := by
  unfold tabOf rev
  congr 1
  funext a i
  have hw := kd_w hk i
  dsimp only
  rw [Bool.eq_iff_iff]
  simp only [canB, Bool.and_eq_true, decide_eq_true_eq]
  have hlen : (turnR r).len = r.len := rfl
  rw [hlen]
  constructor
  · rintro ⟨h1, h2⟩
    rw [nf_turn h0 (by omega)] at h2
    exact ⟨by omega, by omega, h2⟩
  · rintro ⟨h1, h2, h3⟩
    rw [nf_turn h0 (by omega)]
    exact ⟨by omega, h3⟩

/-! ## Two ribbons, one behind the other -/
def joinR (a b : RibD) : RibD := ⟨a.len + b.len, a.fs ++ b.fs.map (· + a.len)⟩
theorem join_ok {a b : RibD} (ha : RibOk a) (hb : RibOk b) (h : a.len + b.len ≤ 24) : RibOk (joinR a b) := by
  have h1 := ha.l1
  have h2 := hb.l1
  refine ⟨by simp only [joinR]; omega, h, ?_⟩
  have f1 : ∀ {fs : List Int} {lo : Int}, fsOk a.len lo fs = true → fsOk (a.len + b.len) lo fs = true := by
    intro fs
    induction fs with
    | nil => intro _ _; rfl
    | cons x fs ih =>
      intro lo hx
      simp only [fsOk, Bool.and_eq_true, decide_eq_true_eq] at hx ⊢
      exact ⟨⟨hx.1.1, by omega⟩, ih hx.2⟩
  have f2 := fsOk_map (d := a.len) hb.fs
  rw [show b.len + a.len = a.len + b.len by omega, show (0 : Int) + a.len = a.len by omega] at f2
  exact fsOk_append (f1 ha.fs) f2 (fun f hf => (fsOk_bound ha.fs f hf).2) (by omega)
theorem isF_join {a b : RibD} (u : Int) : isF (joinR a b) u = (isF a u || isF b (u - a.len)) := by
  unfold isF joinR
  rw [Bool.eq_iff_iff]
  simp only [List.contains_iff_mem, Bool.or_eq_true, List.mem_append, List.mem_map]
  constructor
  · rintro (h | ⟨f, h, rfl⟩)
    · exact .inl h
    · exact .inr (by rwa [show f + a.len - a.len = f by omega])
  · rintro (h | h)
    · exact .inl h
    · exact .inr ⟨_, h, by omega⟩
theorem isF_out {r : RibD} (h : RibOk r) {u : Int} (hu : ¬ (0 ≤ u ∧ u < r.len)) : isF r u = false := by
  cases e : isF r u with
  | false => rfl
  | true => exact absurd (isF_in h e) hu
theorem join_pre {a b : RibD} {ks : List KindD} (ha : RibOk a) (hb : RibOk b) (hk : KindsOk ks) : pre (tabOf (joinR a b) ks) a.len.toNat = tabOf a ks := by
  have h1 := ha.l1
  have h2 := hb.l1
  rw [← tab_pre hk (by simp only [joinR]; omega)]
  refine tab_same hk (by simp only [piece]; omega) fun u hu hu' => ?_
  rw [isF_piece, isF_join, decide_eq_true hu, decide_eq_true (by omega), Int.add_zero, isF_out hb (by omega)]
  simp
theorem join_suf {a b : RibD} {ks : List KindD} (ha : RibOk a) (hb : RibOk b) (hk : KindsOk ks) : suf (tabOf (joinR a b) ks) a.len.toNat = tabOf b ks := by
  have h1 := ha.l1
  have h2 := hb.l1
  rw [← tab_suf hk (by simp only [joinR]; omega)]
  refine tab_same hk (by simp only [piece, joinR]; omega) fun u hu hu' => ?_
  have e : (joinR a b).len = a.len + b.len := rfl
  rw [isF_piece, isF_join, decide_eq_true hu, e, decide_eq_true (by omega), isF_out ha (by omega)]
  simp
  congr 1
  omega

/-! ## More kinds -/
theorem kd_append {ks : List KindD} {k : KindD} {i : Nat} (hi : i < ks.length) : kd (ks ++ [k]) i = kd ks i := by
  unfold kd
  rw [List.getD_eq_getElem?_getD, List.getD_eq_getElem?_getD, List.getElem?_append_left hi]
theorem kd_get {ks : List KindD} {i : Nat} (hi : i < ks.length) : kd ks i = ks[i] := by
  unfold kd
  rw [List.getD_eq_getElem?_getD, List.getElem?_eq_getElem hi]
  rfl
theorem more_kinds {r : RibD} {ks : List KindD} {k : KindD} (h0 : 0 ≤ r.len) (hk : KindsOk ks) (hk' : KindsOk (ks ++ [k])) (n : Nat) : dn (tabOf r ks) n ≤ dn (tabOf r (ks ++ [k])) n := by
  refine dn_more (tabOf_ok h0 hk) (tabOf_ok h0 hk') rfl (fun a i hi hc => ⟨i, ?_, ?_, ?_, ?_⟩) _ n rfl
  · simp only [tabOf, List.length_append, List.length_singleton] at hi ⊢; omega
  · simp only [tabOf] at hi hc ⊢; rw [kd_append hi]; exact hc
  · simp only [tabOf] at hi ⊢; rw [kd_append hi]
  · simp only [tabOf] at hi ⊢; rw [kd_append hi]; exact Int.le_refl _
/-- The same kinds, but for their prices, which are no less. -/
theorem more_price {r : RibD} {ks ks' : List KindD} (h0 : 0 ≤ r.len) (hk : KindsOk ks) (hk' : KindsOk ks') (hl : ks'.length = ks.length) (h : ∀ i, i < ks.length → (kd ks' i).w = (kd ks i).w ∧ (kd ks' i).m = (kd ks i).m ∧ (kd ks i).p ≤ (kd ks' i).p) (n : Nat) :
    dn (tabOf r ks) n ≤ dn (tabOf r ks') n := by
  refine dn_more (tabOf_ok h0 hk) (tabOf_ok h0 hk') rfl (fun a i hi hc => ⟨i, ?_, ?_, ?_, ?_⟩) _ n rfl
  · simp only [tabOf] at hi ⊢; omega
  · simp only [tabOf, canB] at hi hc ⊢; rw [(h i hi).1, (h i hi).2.1]; exact hc
  · simp only [tabOf] at hi ⊢; rw [(h i hi).1]
  · simp only [tabOf] at hi ⊢; exact (h i hi).2.2
end Go.Dag
