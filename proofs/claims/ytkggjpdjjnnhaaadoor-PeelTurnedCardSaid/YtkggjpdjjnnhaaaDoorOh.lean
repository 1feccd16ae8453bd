import Derived.Test.YtkggjpdjjnnhaaaDoorOg
namespace Go.Proofs.YtkggjpdjjnnhaaaDoor
open Go.RowKit Go.Shelf Go.Sort
attribute [local go_sem] Oper.semAt_some

/-! ## The core of a line whose heights are small; two lines, half and half -/
theorem lined_str {l : LogD} (hf : Fit l.at_ [l.edges]) {a b : Int} (ha : -2000 ≤ a) (ha' : a ≤ 2000) (hb : -2000 ≤ b) (hb' : b ≤ 2000) {k : Nat} (hk : k < l.at_.length) :
    (-2000 : Rat) ≤ strAt (linedD l a b).1 (linedD l a b).2.1 (linedD l a b).2.2 (atD l k) ∧ strAt (linedD l a b).1 (linedD l a b).2.1 (linedD l a b).2.2 (atD l k) ≤ 2000 := by
  obtain ⟨h1, h2, h3⟩ := lined_bd hf
  have hx1 : atD l 0 ≤ atD l k := by
    by_cases h0 : k = 0
    · subst h0; omega
    · have := strict_at hf (show 0 < k by omega) hk; omega
  have hx2 : atD l k ≤ atD l (l.at_.length - 1) := by
    by_cases h0 : k = l.at_.length - 1
    · subst h0; omega
    · have := strict_at hf (show k < l.at_.length - 1 by omega) (by omega); omega
  simp only [linedD]
  generalize atD l 0 = F at *
  generalize atD l (l.at_.length - 1) = L at *
  generalize atD l k = X at *
  obtain ⟨D, hD⟩ := Int.eq_ofNat_of_zero_le (show 0 ≤ L - F by omega)
  have hD0 : 0 < D := by omega
  have hDr : (0 : Rat) < (D : Rat) := Rat.natCast_pos.2 hD0
  have hs : strAt (L - F) (a * L - b * F) (b - a) X * (D : Rat) = ((a * L - b * F + X * (b - a) : Int) : Rat) := by
    unfold strAt
    rw [hD, Int.toNat_natCast, Rat.mkRat_eq_div]
    exact Rat.div_mul_cancel (by grind)
  have m1 := mulL_bd ha ha' (show 0 ≤ L - X by omega)
  have m2 := mulL_bd hb hb' (show 0 ≤ X - F by omega)
  have hN : a * L - b * F + X * (b - a) = a * (L - X) + b * (X - F) := by grind
  generalize strAt (L - F) (a * L - b * F) (b - a) X = z at *
  generalize a * L - b * F + X * (b - a) = N at *
  have n1' : (-2000 : Rat) * (D : Rat) ≤ z * (D : Rat) := by
    rw [hs]
    have := (Rat.intCast_le_intCast (a := -2000 * (D : Int)) (b := N)).2 (by omega)
    rw [Rat.intCast_mul, Rat.intCast_natCast] at this
    exact this
  have n2' : z * (D : Rat) ≤ (2000 : Rat) * (D : Rat) := by
    rw [hs]
    have := (Rat.intCast_le_intCast (a := N) (b := 2000 * (D : Int))).2 (by omega)
    rw [Rat.intCast_mul, Rat.intCast_natCast] at this
    exact this
  exact ⟨Rat.le_of_mul_le_mul_right n1' hDr, Rat.le_of_mul_le_mul_right n2' hDr⟩
theorem core_small {l : LogD} (hf : Fit l.at_ [l.edges]) {den start step : Int} (h0 : 0 < den)
    (hb : ∀ k, k < l.at_.length → (-2000 : Rat) ≤ strAt den start step (atD l k) ∧ strAt den start step (atD l k) ≤ 2000) :
    ((coreOf l den start step).den : Int) ≤ den ∧ (-5000 : Rat) ≤ coreOf l den start step ∧ coreOf l den start step ≤ 5000 := by
  obtain ⟨D, rfl⟩ := Int.eq_ofNat_of_zero_le (show 0 ≤ den by omega)
  have hD0 : 0 < D := by omega
  have hDr : (0 : Rat) < (D : Rat) := Rat.natCast_pos.2 hD0
  have hm : strAt D start step (atD l 0) - (loD l 0 : Rat) ∈ coreList l (strAt D start step) := (mem_core hf).2 ⟨0, by have := hf.two; omega, .inl rfl⟩
  obtain ⟨y, hy⟩ := leastR_some (show coreList l (strAt D start step) ≠ [] from fun e => by rw [e] at hm; cases hm)
  have e : coreOf l D start step = y := by unfold coreOf; rw [hy]; rfl
  rw [e]
  obtain ⟨k, hk, h4⟩ := (mem_core hf).1 (leastR_mem hy)
  obtain ⟨z1, z2⟩ := hb k hk
  obtain ⟨y1, y2, y3, y4⟩ := edge_bd hf hk
  have hs : strAt D start step (atD l k) * (D : Rat) = ((start + atD l k * step : Int) : Rat) := by
    unfold strAt
    rw [Int.toNat_natCast, Rat.mkRat_eq_div]
    exact Rat.div_mul_cancel (by grind)
  generalize strAt D start step (atD l k) = z at *
  generalize start + atD l k * step = N at *
  have hden : y.den ≤ D := by
    obtain ⟨K, hK⟩ : ∃ K : Int, y * (D : Rat) = (K : Rat) := by
      rcases h4 with h4 | h4
      · refine ⟨N - loD l k * (D : Int), ?_⟩
        rw [h4, Rat.intCast_sub, Rat.intCast_mul, Rat.intCast_natCast]; grind
      · refine ⟨hiD l k * (D : Int) - N, ?_⟩
        rw [h4, Rat.intCast_sub, Rat.intCast_mul, Rat.intCast_natCast]; grind
    have : y = mkRat K D := (mkRat_of hD0 hK).symm
    rw [this]
    exact (mkRat_bd K D hD0).2.2
  refine ⟨by omega, ?_, ?_⟩ <;> rcases h4 with h4 | h4 <;> grind
/-- Two lines with one denominator, half and half. -/
theorem str_mid {D s1 t1 s2 t2 x : Int} (h : 0 < D) : strAt (2 * D) (s1 + s2) (t1 + t2) x = (strAt D s1 t1 x + strAt D s2 t2 x) / 2 := by
  rw [strAt_eq h, strAt_eq h, strAt_eq (show 0 < 2 * D by omega), Rat.intCast_mul, Rat.intCast_add, Rat.intCast_add]
  have hD : (0 : Rat) < (D : Rat) := Rat.intCast_pos.2 h
  have h2 : ((2 : Int) : Rat) = 2 := rfl
  rw [h2]
  generalize (D : Rat) = d at *
  have : d ≠ 0 := by grind
  grind
theorem core_mid {l : LogD} (hf : Fit l.at_ [l.edges]) {D s1 t1 s2 t2 : Int} (h : 0 < D) :
    ¬ (coreOf l (2 * D) (s1 + s2) (t1 + t2) < coreOf l D s1 t1 ∧ coreOf l (2 * D) (s1 + s2) (t1 + t2) < coreOf l D s2 t2) := by
  rintro ⟨h1, h2⟩
  have a1 := (core_iff hf (c := coreOf l D s1 t1) (den := D) (start := s1) (step := t1)).1 Rat.le_refl
  have a2 := (core_iff hf (c := coreOf l D s2 t2) (den := D) (start := s2) (step := t2)).1 Rat.le_refl
  have a3 : (coreOf l D s1 t1 + coreOf l D s2 t2) / 2 ≤ coreOf l (2 * D) (s1 + s2) (t1 + t2) := (core_iff hf).2 fun k hk => by
    have b1 := a1 k hk
    have b2 := a2 k hk
    simp only [lowP, uppP] at b1 b2 ⊢
    rw [str_mid h]
    constructor <;> grind
  grind
theorem bd_num {r : Rat} (h1 : (-5000 : Rat) ≤ r) (h2 : r ≤ 5000) : -5000 * (r.den : Int) ≤ r.num ∧ r.num ≤ 5000 * (r.den : Int) := by
  have c1 : ((-5000 : Int) : Rat) = -5000 := rfl
  have c2 : ((5000 : Int) : Rat) = 5000 := rfl
  exact ⟨num_ge (by rw [c1]; exact h1), num_le (by rw [c2]; exact h2)⟩
/-- What the law's a line keeps: the whole number below. -/
theorem floor_pos {n d : Int} (hd : 0 < d) (hn : 0 ≤ n) : (n - n.tmod d).tdiv d * d ≤ n ∧ 0 ≤ (n - n.tmod d).tdiv d ∧ (n - n.tmod d).tdiv d ≤ n := by
  have e := Int.mul_tdiv_add_tmod n d
  have h1 : 0 ≤ n.tmod d := by rw [Int.tmod_eq_emod_of_nonneg hn]; exact Int.emod_nonneg _ (by omega)
  have h2 : n - n.tmod d = d * n.tdiv d := by omega
  rw [h2, Int.mul_tdiv_cancel_left _ (by omega)]
  have h3 : 0 ≤ n.tdiv d := Int.tdiv_nonneg hn (by omega)
  have h4 : d * n.tdiv d = n.tdiv d * d := Int.mul_comm ..
  have h5 : n.tdiv d * 1 ≤ n.tdiv d * d := Int.mul_le_mul_of_nonneg_left (by omega) h3
  omega
theorem tmod_neg {n d : Int} (hd : 0 < d) (hn : n < 0) : -d < n.tmod d ∧ n.tmod d ≤ 0 := by
  have e : n.tmod d = -((-n).tmod d) := by rw [Int.neg_tmod, Int.neg_neg]
  have h0 : 0 ≤ -n := by omega
  rw [e, Int.tmod_eq_emod_of_nonneg h0]
  have := Int.emod_nonneg (-n) (show d ≠ 0 by omega)
  have := Int.emod_lt_of_pos (-n) hd
  omega
theorem floor_neg {n d : Int} (hd : 0 < d) (hn : n < 0) : ((n - n.tmod d).tdiv d - (if n.tmod d = 0 then 0 else 1)) * d ≤ n ∧ n - 1 ≤ (n - n.tmod d).tdiv d - (if n.tmod d = 0 then 0 else 1) ∧ (n - n.tmod d).tdiv d ≤ 0 := by
  have e := Int.mul_tdiv_add_tmod n d
  obtain ⟨h1, h1'⟩ := tmod_neg hd hn
  have h2 : n - n.tmod d = d * n.tdiv d := by omega
  rw [h2, Int.mul_tdiv_cancel_left _ (by omega)]
  have h3 : n.tdiv d ≤ 0 := by
    have : n.tdiv d = -((-n).tdiv d) := by rw [Int.neg_tdiv, Int.neg_neg]
    have := Int.tdiv_nonneg (show 0 ≤ -n by omega) (show 0 ≤ d by omega)
    omega
  have h4 : d * n.tdiv d = n.tdiv d * d := Int.mul_comm ..
  have h5 : n.tdiv d * d ≤ n.tdiv d * 1 := Int.mul_le_mul_of_nonpos_left h3 (by omega)
  rw [Int.sub_mul]
  split
  · omega
  · have h6 : n.tdiv d * d ≤ n.tdiv d := by omega
    omega
theorem le_str {r : Rat} {D N : Int} (hD : 0 < D) : r ≤ mkRat N D.toNat ↔ r.num * D ≤ N * (r.den : Int) := by
  obtain ⟨d, rfl⟩ := Int.eq_ofNat_of_zero_le (show 0 ≤ D by omega)
  rw [Int.toNat_natCast]
  have hdr : (0 : Rat) < (d : Rat) := Rat.natCast_pos.2 (by omega)
  have hr : (0 : Rat) < (r.den : Rat) := Rat.natCast_pos.2 r.den_pos
  have e1 : r * (r.den : Rat) = (r.num : Rat) := by
    have e0 : r = (r.num : Rat) / (r.den : Rat) := by rw [← Rat.mkRat_eq_div]; exact (Rat.mkRat_self _).symm
    have := congrArg (· * (r.den : Rat)) e0
    simpa [Rat.div_mul_cancel (show (r.den : Rat) ≠ 0 by grind)] using this
  have e2 : mkRat N d * (d : Rat) = (N : Rat) := by rw [Rat.mkRat_eq_div]; exact Rat.div_mul_cancel (by grind)
  generalize mkRat N d = z at *
  have a1 : r * ((d : Rat) * (r.den : Rat)) = ((r.num * (d : Int) : Int) : Rat) := by rw [Rat.intCast_mul, Rat.intCast_natCast, ← e1]; grind
  have a2 : z * ((d : Rat) * (r.den : Rat)) = ((N * (r.den : Int) : Int) : Rat) := by rw [Rat.intCast_mul, Rat.intCast_natCast, ← e2]; grind
  have hp : (0 : Rat) < (d : Rat) * (r.den : Rat) := Rat.mul_pos hdr hr
  constructor
  · intro h
    have := Rat.mul_le_mul_of_nonneg_right h (c := (d : Rat) * (r.den : Rat)) (by grind)
    rw [a1, a2] at this
    exact Rat.intCast_le_intCast.1 this
  · intro h
    refine Rat.le_of_mul_le_mul_right ?_ hp
    rw [a1, a2]
    exact Rat.intCast_le_intCast.2 h
theorem str_le {r : Rat} {D N : Int} (hD : 0 < D) : mkRat N D.toNat ≤ r ↔ N * (r.den : Int) ≤ r.num * D := by
  obtain ⟨d, rfl⟩ := Int.eq_ofNat_of_zero_le (show 0 ≤ D by omega)
  rw [Int.toNat_natCast]
  have hdr : (0 : Rat) < (d : Rat) := Rat.natCast_pos.2 (by omega)
  have hr : (0 : Rat) < (r.den : Rat) := Rat.natCast_pos.2 r.den_pos
  have e1 : r * (r.den : Rat) = (r.num : Rat) := by
    have e0 : r = (r.num : Rat) / (r.den : Rat) := by rw [← Rat.mkRat_eq_div]; exact (Rat.mkRat_self _).symm
    have := congrArg (· * (r.den : Rat)) e0
    simpa [Rat.div_mul_cancel (show (r.den : Rat) ≠ 0 by grind)] using this
  have e2 : mkRat N d * (d : Rat) = (N : Rat) := by rw [Rat.mkRat_eq_div]; exact Rat.div_mul_cancel (by grind)
  generalize mkRat N d = z at *
  have a1 : r * ((d : Rat) * (r.den : Rat)) = ((r.num * (d : Int) : Int) : Rat) := by rw [Rat.intCast_mul, Rat.intCast_natCast, ← e1]; grind
  have a2 : z * ((d : Rat) * (r.den : Rat)) = ((N * (r.den : Int) : Int) : Rat) := by rw [Rat.intCast_mul, Rat.intCast_natCast, ← e2]; grind
  have hp : (0 : Rat) < (d : Rat) * (r.den : Rat) := Rat.mul_pos hdr hr
  constructor
  · intro h
    have := Rat.mul_le_mul_of_nonneg_right h (c := (d : Rat) * (r.den : Rat)) (by grind)
    rw [a1, a2] at this
    exact Rat.intCast_le_intCast.1 this
  · intro h
    refine Rat.le_of_mul_le_mul_right ?_ hp
    rw [a1, a2]
    exact Rat.intCast_le_intCast.2 h
/-- What Heights answers at a valid log, where the core is kept. -/
structure HeV (l : LogD) (core x : Int) (an ad bn bd : Int) : Prop where
  ne : heightsL l core x ≠ []
  a1 : (heightsV (fun a b => decide (a < b)) l core x).num = an
  a2 : ((heightsV (fun a b => decide (a < b)) l core x).den : Int) = ad
  b1 : (heightsV (fun a b => decide (b < a)) l core x).num = bn
  b2 : ((heightsV (fun a b => decide (b < a)) l core x).den : Int) = bd
theorem he_kept {l : LogD} (h0 : logErr l = 0) {core x : Int} (h1 : -2000 ≤ core) (h2 : core ≤ 2000) (h3 : 0 ≤ x) (h4 : x ≤ 100) (h : (core : Rat) ≤ bestV l) :
    ∃ an ad bn bd : Int, he l core x = .tuple #[.agg #[.int .i64 an, .int .i64 ad], .agg #[.int .i64 bn, .int .i64 bd], .int .i64 0] ∧ HeV l core x an ad bn bd := by
  have hne := (height_ne (logErr_fit' h0) (x := x)).2 h
  have e : heightsE l core x = 0 := by unfold heightsE; rw [if_neg (by simp [h0]), if_neg (by omega), if_neg hne]
  exact ⟨_, _, _, _, by unfold he; rw [if_pos e, if_pos e, e]; rfl, hne, rfl, rfl, rfl, rfl⟩
theorem he_not {l : LogD} (h0 : logErr l = 0) {core x : Int} (h1 : -2000 ≤ core) (h2 : core ≤ 2000) (h3 : 0 ≤ x) (h4 : x ≤ 100) (h : ¬ (core : Rat) ≤ bestV l) :
    he l core x = .tuple #[.agg #[.int .i64 0, .int .i64 0], .agg #[.int .i64 0, .int .i64 0], .int .i64 17] := by
  have hne : heightsL l core x = [] := Classical.byContradiction fun hn => h ((height_ne (logErr_fit' h0) (x := x)).1 hn)
  have e : heightsE l core x = 17 := by unfold heightsE; rw [if_neg (by simp [h0]), if_neg (by omega), if_pos hne]
  unfold he
  rw [if_neg (by rw [e]; decide), if_neg (by rw [e]; decide), e]
/-- The whole number below a core, and what a line that keeps it has at a number. -/
theorem floor_ok {l : LogD} (hf : Fit l.at_ [l.edges]) {D s t core x : Int} {c : Rat} {an ad bn bd : Int} (hD : 0 < D) (hc : coreOf l D s t = c) (h : core * (c.den : Int) ≤ c.num) (V : HeV l core x an ad bn bd) :
    an * D ≤ (s + t * x) * ad ∧ (s + t * x) * bd ≤ bn * D := by
  obtain ⟨hne, v1, v2, v3, v4⟩ := V
  have hk : Keep l (core : Rat) ((s : Rat) / (D : Rat)) ((t : Rat) / (D : Rat)) := (core_keep hf hD).1 (by rw [hc]; exact le_num.2 h)
  have w1 := (height_least hf hne).2 _ _ hk
  have w2 := (height_most hf hne).2 _ _ hk
  rw [← strAt_eq hD, strAt] at w1 w2
  have u1 := (le_str hD).1 w1
  have u2 := (str_le hD).1 w2
  rw [v1, v2] at u1
  rw [v3, v4] at u2
  rw [show s + t * x = s + x * t by rw [Int.mul_comm]]
  exact ⟨u1, u2⟩
theorem floor_best {l : LogD} (hf : Fit l.at_ [l.edges]) {D s t core : Int} {c : Rat} (hD : 0 < D) (hc : coreOf l D s t = c) (h : core * (c.den : Int) ≤ c.num) : (core : Rat) ≤ bestV l ∧ core ≤ 1000 := by
  have h1 : (core : Rat) ≤ bestV l := Rat.le_trans (le_num.2 h) (hc ▸ core_le_best hf hD)
  have h2 := (bestCore hf).2.2
  have c2 : ((1000 : Int) : Rat) = 1000 := rfl
  exact ⟨h1, Rat.intCast_le_intCast.1 (by rw [c2]; exact Rat.le_trans h1 h2)⟩
end Go.Proofs.YtkggjpdjjnnhaaaDoor
