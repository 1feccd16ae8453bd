import Derived.Test.YtnkeikhkafbokaaQj
namespace Go.Proofs.Ytnkeikhkafbokaa
open Go.RowKit Go.Dag

/-! ## Two ribbons, one behind the other; a ribbon from its other end: what the laws compare -/
theorem joined_facts {a b : RibD} {ks : List KindD} (ha : RibOk a) (hb : RibOk b) (hks : KindsOk ks) (h : a.len + b.len ≤ 24) :
    RibOk (joinR a b) ∧ partedErr (joinR a b) a.len = 0 ∧ 0 ≤ dn (tabOf a ks) 0 ∧ 0 ≤ dn (tabOf b ks) 0 ∧ dn (tabOf a ks) 0 + dn (tabOf b ks) 0 ≤ dn (tabOf (joinR a b) ks) 0 ∧ dn (tabOf (joinR a b) ks) 0 ≤ 24000 ∧
    ((partedV (joinR a b) ks a.len = 0 ∧ dn (tabOf a ks) 0 + dn (tabOf b ks) 0 ≠ dn (tabOf (joinR a b) ks) 0) ∨
     ((partedV (joinR a b) ks a.len = 1 ∨ partedV (joinR a b) ks a.len = 2) ∧ dn (tabOf a ks) 0 + dn (tabOf b ks) 0 = dn (tabOf (joinR a b) ks) 0)) := by
  have hj := join_ok ha hb h
  have a1 := ha.l1
  have b1 := hb.l1
  have hlen : (joinR a b).len = a.len + b.len := rfl
  have h0 : 0 ≤ (joinR a b).len := by omega
  have ht := tabOf_ok (r := joinR a b) (ks := ks) h0 hks
  have hL : (tabOf (joinR a b) ks).L = (a.len + b.len).toNat := rfl
  have hm : a.len.toNat ≤ (tabOf (joinR a b) ks).L := by omega
  obtain ⟨q1, q2, q3⟩ := parted_spec ht hm
  rw [join_pre ha hb hks, join_suf ha hb hks] at q1 q2
  have d := tabOf_dn (r := joinR a b) h0 hj.l2 hks 0
  have da := tabOf_dn (r := a) (by omega) ha.l2 hks 0
  have db := tabOf_dn (r := b) (by omega) hb.l2 hks 0
  have hv : partedV (joinR a b) ks a.len = partV (tabOf (joinR a b) ks) a.len.toNat := by unfold partedV; rw [if_neg (by omega)]
  refine ⟨hj, by unfold partedErr; rw [if_neg (by omega)], da.1, db.1, q2, d.2, ?_⟩
  rw [hv]
  unfold partV
  by_cases ho : On (tabOf (joinR a b) ks) a.len.toNat
  · rw [if_pos ho]
    refine Or.inr ⟨?_, ?_⟩
    · split
      · exact Or.inl rfl
      · exact Or.inr rfl
    · have hn : ¬ (dn (tabOf a ks) 0 + dn (tabOf b ks) 0 < dn (tabOf (joinR a b) ks) 0) := fun hh => q1.1 hh ho
      omega
  · rw [if_neg ho]
    have := q1.2 ho
    exact Or.inl ⟨rfl, by omega⟩
theorem turn_turn (r : RibD) : turnR (turnR r) = r := by
  obtain ⟨len, fs⟩ := r
  simp only [turnR, List.map_reverse, List.reverse_reverse, List.map_map]
  congr 1
  rw [show ((fun f => len - 1 - f) ∘ fun f => len - 1 - f) = (id : Int → Int) from funext fun f => by simp only [Function.comp, id]; omega, List.map_id]
theorem cross_turn {t : Tab} (h : t.Ok) {p : Nat} (hp : p ≤ t.L) (hc : crossB t p = true) : crossB (rev t) (t.L - p) = true := by
  obtain ⟨a, i, hb, h1, h2⟩ := (crossB_iff _ _).1 hc
  obtain ⟨hf, hb2⟩ := best_rev h hb
  exact (crossB_iff _ _).2 ⟨_, i, hb2, by omega, by show t.L - p < t.L - a - t.W i + t.W i; omega⟩
/-- What the law compares for a ribbon that is seen from its other end. -/
theorem behind_facts {r : RibD} {ks : List KindD} (hr : RibOk r) (hks : KindsOk ks) {p : Nat} (hp : (p : Int) ≤ r.len) :
    RibOk (turnR r) ∧ dn (tabOf (turnR r) ks) 0 = dn (tabOf r ks) 0 ∧ many (tabOf (turnR r) ks) 0 = many (tabOf r ks) 0 ∧ partedErr r p = 0 ∧ partedErr (turnR r) (r.len - p) = 0 ∧ partedV (turnR r) ks (r.len - p) = partedV r ks p := by
  have h0 : 0 ≤ r.len := by have := hr.l1; omega
  have ht := tabOf_ok (r := r) (ks := ks) h0 hks
  have hL : (tabOf r ks).L = r.len.toNat := rfl
  have hlen : (turnR r).len = r.len := rfl
  have e := tab_turn (r := r) (ks := ks) h0 hks
  have e2 : rev (tabOf (turnR r) ks) = tabOf r ks := by
    rw [← tab_turn (r := turnR r) h0 hks, turn_turn]
  have hm : p ≤ (tabOf r ks).L := by omega
  have hv1 : partedV r ks p = partV (tabOf r ks) p := by unfold partedV; rw [if_neg (by omega), Int.toNat_natCast]
  have hv2 : partedV (turnR r) ks (r.len - p) = partV (tabOf (turnR r) ks) ((tabOf r ks).L - p) := by
    unfold partedV
    rw [if_neg (by omega), show (r.len - (p : Int)).toNat = (tabOf r ks).L - p by omega]
  refine ⟨turn_ok hr, by rw [e]; exact rev_worth ht, by rw [e]; exact rev_many ht, by unfold partedErr; rw [if_neg (by omega)], by unfold partedErr; rw [if_neg (by omega)], ?_⟩
  rw [hv1, hv2]
  have ho : On (tabOf (turnR r) ks) ((tabOf r ks).L - p) ↔ On (tabOf r ks) p := by
    rw [e, on_rev ht (by omega), show (tabOf r ks).L - ((tabOf r ks).L - p) = p by omega]
  have hc : crossB (tabOf (turnR r) ks) ((tabOf r ks).L - p) = crossB (tabOf r ks) p := by
    rw [Bool.eq_iff_iff]
    constructor
    · intro h
      have h1 := cross_turn (t := tabOf (turnR r) ks) (by rw [e]; exact rev_ok ht) (p := (tabOf r ks).L - p) (by show _ ≤ r.len.toNat; omega) h
      rw [e2, show (tabOf (turnR r) ks).L = (tabOf r ks).L from rfl, show (tabOf r ks).L - ((tabOf r ks).L - p) = p by omega] at h1
      exact h1
    · intro h
      rw [e]
      exact cross_turn ht hm h
  unfold partV
  rw [hc]
  by_cases q : On (tabOf r ks) p
  · rw [if_pos q, if_pos (ho.2 q)]
  · rw [if_neg q, if_neg (fun h => q (ho.1 h))]
theorem behind_cuts {r : RibD} {ks : List KindD} (hr : RibOk r) (hks : KindsOk ks) {g : List (Nat × Nat)} (hc : IsCuts (tabOf r ks) 0 g) :
    cutsErr (turnR r) ks ((rv (tabOf r ks) g).map intP) = 0 ∧ cutsV (turnR r) ks ((rv (tabOf r ks) g).map intP) = wth (tabOf r ks) g := by
  have h0 : 0 ≤ r.len := by have := hr.l1; omega
  have ht := tabOf_ok (r := r) (ks := ks) h0 hks
  have h1 := rev_cuts ht hc
  rw [← tab_turn h0 hks] at h1
  obtain ⟨h2, h3⟩ := cuts_of (turn_ok hr) hks h1
  refine ⟨h2, h3.trans ?_⟩
  rw [tab_turn h0 hks]
  exact wth_rv _ _
/-! ## More kinds, greater prices, all prices times a number -/
theorem first_times {t t' : Tab} (h : t.Ok) (h' : t'.Ok) (c : Int) (hc : 1 ≤ c) (hL : t'.L = t.L) (hK : t'.K = t.K) (hW : t'.W = t.W) (hcan : t'.can = t.can) (hP : ∀ i, t'.P i = c * t.P i) : ∀ (f n : Nat), firstF t' f n = firstF t f n
  | 0, _ => rfl
  | f + 1, n => by
    have hd : ∀ n, dn t' n = c * dn t n := fun n => by
      have := bk_times h h' c hc hL hK hW hcan hP _ n rfl
      show (bk t' n).1 = _
      rw [this]
    have hp : (fun i => t'.can n i && decide (t'.P i + dn t' (n + t'.W i) = dn t' n)) = fun i => t.can n i && decide (t.P i + dn t (n + t.W i) = dn t n) := by
      funext i
      rw [hcan, hW, hP, hd, hd, ← Int.mul_add]
      congr 1
      rw [decide_eq_decide]
      exact ⟨fun e => Int.eq_of_mul_eq_mul_left (by omega) e, fun e => by rw [e]⟩
    rw [firstF, firstF, hL, hK, hp, hW]
    split
    · split
      · rw [first_times h h' c hc hL hK hW hcan hP f]
      · rw [first_times h h' c hc hL hK hW hcan hP f]
    · rfl
def timesK (c : Int) (ks : List KindD) : List KindD := ks.map fun k => ⟨k.w, k.p * c, k.m⟩
theorem times_facts {r : RibD} {ks : List KindD} (hr : RibOk r) (hks : KindsOk ks) {c : Int} (hc : 1 ≤ c) (hz : KindsOk (timesK c ks)) :
    dn (tabOf r (timesK c ks)) 0 = c * dn (tabOf r ks) 0 ∧ many (tabOf r (timesK c ks)) 0 = many (tabOf r ks) 0 ∧ firstL (tabOf r (timesK c ks)) = firstL (tabOf r ks) := by
  have h0 : 0 ≤ r.len := by have := hr.l1; omega
  have ht := tabOf_ok (r := r) (ks := ks) h0 hks
  have ht' := tabOf_ok (r := r) (ks := timesK c ks) h0 hz
  have hkd : ∀ i, kd (timesK c ks) i = ⟨(kd ks i).w, (kd ks i).p * c, (kd ks i).m⟩ := fun i => by
    unfold kd timesK
    rw [List.getD_eq_getElem?_getD, List.getD_eq_getElem?_getD, List.getElem?_map]
    cases ks[i]? with
    | none => simp
    | some k => rfl
  have hL : (tabOf r (timesK c ks)).L = (tabOf r ks).L := rfl
  have hK : (tabOf r (timesK c ks)).K = (tabOf r ks).K := by simp [tabOf, timesK]
  have hW : (tabOf r (timesK c ks)).W = (tabOf r ks).W := by funext i; simp only [tabOf]; rw [hkd]
  have hcan : (tabOf r (timesK c ks)).can = (tabOf r ks).can := by funext a i; simp only [tabOf]; rw [hkd]; rfl
  have hP : ∀ i, (tabOf r (timesK c ks)).P i = c * (tabOf r ks).P i := fun i => by simp only [tabOf]; rw [hkd]; exact Int.mul_comm _ _
  have hb := bk_times ht ht' c hc hL hK hW hcan hP _ 0 rfl
  refine ⟨by show (bk _ 0).1 = _; rw [hb], by show (bk _ 0).2 = _; rw [hb], ?_⟩
  unfold firstL
  rw [hL, first_times ht ht' c hc hL hK hW hcan hP]
/-- The kinds with a greater price of one of them. -/
def dearK (ks : List KindD) (i : Nat) (q : Int) : List KindD := ks.set i ⟨(kd ks i).w, q, (kd ks i).m⟩
theorem dear_facts {r : RibD} {ks : List KindD} (hr : RibOk r) (hks : KindsOk ks) {i : Nat} (hi : i < ks.length) {q : Int} (h1 : (kd ks i).p ≤ q) (h2 : q ≤ 1000) :
    KindsOk (dearK ks i q) ∧ dn (tabOf r ks) 0 ≤ dn (tabOf r (dearK ks i q)) 0 := by
  have hk := kd_ok hks hi
  have hy : KindsOk (dearK ks i q) := by
    refine ⟨by unfold dearK; rw [List.length_set]; exact hks.1, fun k hk' => ?_⟩
    unfold dearK at hk'
    rcases List.mem_or_eq_of_mem_set hk' with h | rfl
    · exact hks.2 k h
    · exact ⟨hk.w1, hk.w2, by have := hk.p1; show 1 ≤ q; omega, h2, hk.m1, hk.m2⟩
  refine ⟨hy, more_price (by have := hr.l1; omega) hks hy (by unfold dearK; rw [List.length_set]) (fun j hj => ?_) 0⟩
  have e : kd (dearK ks i q) j = if i = j then ⟨(kd ks i).w, q, (kd ks i).m⟩ else kd ks j := by
    unfold dearK
    rw [kd, List.getD_eq_getElem?_getD, List.getElem?_set]
    by_cases c : i = j
    · subst c; simp [hi]
    · simp only [if_neg c]; rw [kd, List.getD_eq_getElem?_getD]
  rw [e]
  split
  · rename_i c
    subst c
    exact ⟨rfl, rfl, h1⟩
  · exact ⟨rfl, rfl, Int.le_refl _⟩
end Go.Proofs.Ytnkeikhkafbokaa
