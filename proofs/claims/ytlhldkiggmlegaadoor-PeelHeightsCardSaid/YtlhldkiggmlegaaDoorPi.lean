import Derived.Test.YtlhldkiggmlegaaDoorPh
import Derived.Test.YtlhldkiggmlegaaDoorNy
namespace Go.Proofs.YtlhldkiggmlegaaDoor
open Go.RowKit Go.Shelf Go.Sort

/-! ## The reference's Heights: what its two fractions hold on the way -/
def oN (p : Option Rat) : Int := match p with | none => 0 | some r => r.num
def oD (p : Option Rat) : Int := match p with | none => 0 | some r => (r.den : Int)
def FineO (p : Option Rat) : Prop := ∀ r, p = some r → Fine r
theorem FineO.some {r : Rat} (h : Fine r) : FineO (some r) := fun _ e => Option.some.inj e ▸ h
theorem FineO.none : FineO none := fun _ e => by cases e
abbrev oLt : Rat → Rat → Bool := fun a b => decide (a < b)
abbrev oGt : Rat → Rat → Bool := fun a b => decide (b < a)
def oNew (better : Rat → Rat → Bool) (q : Option Rat) (r : Rat) : Option Rat := match q with | none => some r | some y => if better r y = true then some r else some y
theorem hi_snoc (better : Rat → Rat → Bool) (p : Option Rat) (f : B3 → B3 → List Rat) (ls ms : List B3) (i : Nat) {k : Nat} (h : k < ms.length) {q : Option Rat} (hq : bestBy better (cK p f ls ms i k) = q) :
    (f (bAt ls i) (bAt ms k) = [] → bestBy better (cK p f ls ms i (k + 1)) = q) ∧
    ∀ r, f (bAt ls i) (bAt ms k) = [r] → bestBy better (cK p f ls ms i (k + 1)) = oNew better q r := by
  subst hq
  rw [cK_succ p f ls ms i h]
  constructor
  · intro e; rw [e, List.append_nil]
  · intro r e; rw [e, bestBy_snoc]; rfl
theorem hiCand_pos {i k : B3} (h : 0 < aI i k) : hiCand i k = [mkRat (bI i k) (aI i k).toNat] := if_pos h
theorem hiCand_neg {i k : B3} (h : ¬ 0 < aI i k) : hiCand i k = [] := if_neg h
theorem loCand_pos {i k : B3} (h : aI i k < 0) : loCand i k = [mkRat (-bI i k) (-aI i k).toNat] := if_pos h
theorem loCand_neg {i k : B3} (h : ¬ aI i k < 0) : loCand i k = [] := if_neg h
theorem placeV_fine {l : LogD} (hf : Fit l.at_ [l.edges]) {core : Int} (hc : -2000 ≤ core ∧ core ≤ 2000) (x : Int) {n : Nat} (hn : n ≤ l.at_.length) :
    FineO (placeV l x (hiC l core) n) ∧ FineO (placeV l x (loC l core) n) := by
  have h2 := hf.lens _ (List.mem_singleton.2 rfl)
  have pt : ∀ k, k < l.at_.length → -1000 ≤ loD l k ∧ loD l k ≤ hiD l k ∧ hiD l k ≤ 1000 := fun k hk => by
    have hk' : k < l.edges.length := by omega
    obtain ⟨y1, y2, y3⟩ := okEdges_get (hf.edges _ (List.mem_singleton.2 rfl)) k hk'
    rw [loD_eq hk'] at y1 y2
    rw [hiD_eq hk'] at y2 y3
    exact ⟨y1, y2, y3⟩
  constructor
  · intro r h
    obtain ⟨k, hk, _, rfl⟩ := placeV_some h
    have := pt k (by omega)
    exact fine_int (by unfold hiC; omega) (by unfold hiC; omega)
  · intro r h
    obtain ⟨k, hk, _, rfl⟩ := placeV_some h
    have := pt k (by omega)
    exact fine_int (by unfold loC; omega) (by unfold loC; omega)
theorem heights_ref {l : LogD} (hf : Fit l.at_ [l.edges]) {core x : Int} (h0 : logErr l = 0) (hr : -2000 ≤ core ∧ core ≤ 2000 ∧ 0 ≤ x ∧ x ≤ 100) (hb : ¬ bestV l < (core : Rat)) {hi lo : Option Rat}
    (h1 : bestBy oLt (hiList l core x) = hi) (h2 : bestBy oGt (loList l core x) = lo) :
    he l core x = .tuple #[.agg #[.int .i64 (oN lo), .int .i64 (oD lo)], .agg #[.int .i64 (oN hi), .int .i64 (oD hi)], .int .i64 0] := by
  have hne : heightsL l core x ≠ [] := fun e => hb ((heights_none hf).1 e)
  obtain ⟨e1, e2⟩ := heights_eq hf hne
  obtain ⟨n1, n2⟩ := lists_ne hf core x
  obtain ⟨p, hp⟩ := bestBy_some oLt n1
  obtain ⟨q, hq⟩ := bestBy_some oGt n2
  have hE : heightsE l core x = 0 := by
    unfold heightsE
    rw [if_neg (by simp [h0]), if_neg (by simp; omega), if_neg hne]
  rw [he, hE, if_pos rfl, if_pos rfl]
  unfold heightsV
  rw [e1, e2]
  rw [h1] at hp
  rw [h2] at hq
  rw [show bestBy (fun a b => decide (b < a)) (loList l core x) = lo from h2, show bestBy (fun a b => decide (a < b)) (hiList l core x) = hi from h1, hp, hq]
  rfl
theorem he_none {l : LogD} (hf : Fit l.at_ [l.edges]) {core x : Int} (h0 : logErr l = 0) (hr : -2000 ≤ core ∧ core ≤ 2000 ∧ 0 ≤ x ∧ x ≤ 100) (hb : bestV l < (core : Rat)) : he l core x = .tuple #[zq, zq, .int .i64 17] := by
  have hE : heightsE l core x = 17 := by
    unfold heightsE
    rw [if_neg (by simp [h0]), if_neg (by simp; omega), if_pos ((heights_none hf).2 hb)]
  rw [he, hE]
  rfl
theorem he_range {l : LogD} {core x : Int} (h0 : logErr l = 0) (hr : ¬ (-2000 ≤ core ∧ core ≤ 2000 ∧ 0 ≤ x ∧ x ≤ 100)) : he l core x = .tuple #[zq, zq, .int .i64 3] := by
  have hE : heightsE l core x = 3 := by
    unfold heightsE
    rw [if_neg (by simp [h0]), if_pos hr]
  rw [he, hE]
  rfl
theorem he_err {l : LogD} {core x : Int} (h0 : logErr l ≠ 0) : he l core x = .tuple #[zq, zq, .int .i64 (logErr l)] := by
  have hE : heightsE l core x = logErr l := by
    unfold heightsE
    rw [if_pos h0]
  rw [he, hE, if_neg h0, if_neg h0]
theorem bAt_ok {ls : List B3} (h : ∀ b ∈ ls, BOk b) {i : Nat} (hi : i < ls.length) : BOk (bAt ls i) := by
  rw [bAt_get hi]; exact h _ (List.getElem_mem hi)
theorem TripsAt.slice {W : World} {v : Value} {ls : List B3} (h : TripsAt W v ls) : ∃ a cap, v = .slice a ls.length cap := by
  obtain ⟨a, cap, e, _⟩ := h
  exact ⟨a, cap, e⟩
theorem TripsAt.at {W : World} {a : Option Addr} {n cap i : Nat} {ls : List B3} (h : TripsAt W (.slice a n cap) ls) (hi : i < ls.length) {d s t : Int} (hb : bAt ls i = (d, s, t)) :
    ∃ b off, a = some ⟨b, off, none⟩ ∧ ∀ W', Below W.heap.size W W' → W'.cell? ⟨b, off + i * 3, none⟩ = some (.int .i64 d) ∧ W'.cell? ⟨b, off + i * 3 + 1, none⟩ = some (.int .i64 s) ∧ W'.cell? ⟨b, off + i * 3 + 2, none⟩ = some (.int .i64 t) := by
  obtain ⟨a', cap', e, h1⟩ := h
  cases e
  obtain ⟨b, off, e, h2⟩ := h1 (fun e => by rw [e] at hi; simp at hi)
  rw [bAt_get hi] at hb
  have h3 := h2 i hi
  rw [hb] at h3
  exact ⟨b, off, e, fun W' hW => ⟨cellB h3.1 hW, cellB h3.2.1 hW, cellB h3.2.2 hW⟩⟩
theorem TripsAt.over {W : World} {v : Value} {ls : List B3} {b j : Nat} {x y : Value} {t : TypeId} {z : Nat × Nat} (h : TripsAt W v ls) (hb : Blk W b (.cells #[x, y] t z)) (u : Value) : TripsAt (W.setCell ⟨b, j, none⟩ u) v ls := by
  obtain ⟨a, cap, rfl, h1⟩ := h
  refine ⟨a, cap, rfl, fun hn => ?_⟩
  obtain ⟨g, off, e, h2⟩ := h1 hn
  have hne : g ≠ b := by
    rintro rfl
    have h0 : 0 < ls.length := List.length_pos_iff.2 hn
    have h3 := (h2 0 h0).2.2
    rw [hb.cell] at h3
    simp at h3
  refine ⟨g, off, e, fun i hi => ⟨(World.cell?_setCell_other _ _ _ _ ?_).trans (h2 i hi).1, (World.cell?_setCell_other _ _ _ _ ?_).trans (h2 i hi).2.1, (World.cell?_setCell_other _ _ _ _ ?_).trans (h2 i hi).2.2⟩⟩
  all_goals exact fun e => hne (congrArg Addr.block e).symm
abbrev oC (n d : Int) : Obj := .cells #[.int .i64 n, .int .i64 d] 31
/-- What stands in the loops: the log's box, both results' boxes, both fractions, the bounds. -/
structure HtS (w : World) (lc : Array Value) (LO HI : Nat) (v1 v2 : Value) (ls ms : List B3) (W : World) (p q : Option Rat) : Prop where
  log : Blk W w.heap.size (.cells lc 25)
  r6 : Blk W (w.heap.size + 1) (oC 0 0)
  r7 : Blk W (w.heap.size + 1 + 1) (oC 0 0)
  lo : Blk W LO (oC (oN p) (oD p))
  hi : Blk W HI (oC (oN q) (oD q))
  tl : TripsAt W v1 ls
  tm : TripsAt W v2 ms
  bel : Below w.heap.size w W
  fp : FineO p
  fq : FineO q
  n1 : w.heap.size + 2 < LO
  n2 : LO < HI
theorem HtS.below {w : World} {lc : Array Value} {LO HI : Nat} {v1 v2 : Value} {ls ms : List B3} {W W' : World} {p q : Option Rat} (h : HtS w lc LO HI v1 v2 ls ms W p q) (hb : Below W.heap.size W W') : HtS w lc LO HI v1 v2 ls ms W' p q :=
  ⟨h.log.below hb, h.r6.below hb, h.r7.below hb, h.lo.below hb, h.hi.below hb, h.tl.below hb, h.tm.below hb, bC h.bel hb, h.fp, h.fq, h.n1, h.n2⟩
theorem HtS.setHi {w : World} {lc : Array Value} {LO HI : Nat} {v1 v2 : Value} {ls ms : List B3} {W : World} {p q : Option Rat} (h : HtS w lc LO HI v1 v2 ls ms W p q) {r : Rat} (hr : Fine r) :
    HtS w lc LO HI v1 v2 ls ms ((W.setCell ⟨HI, 0, none⟩ (.int .i64 r.num)).setCell ⟨HI, 1, none⟩ (.int .i64 (r.den : Int))) p (some r) := by
  have n1 := h.n1
  have n2 := h.n2
  have h1 := h.hi.set (j := 0) (.int .i64 r.num)
  exact ⟨(h.log.other (by omega) _).other (by omega) _, (h.r6.other (by omega) _).other (by omega) _, (h.r7.other (by omega) _).other (by omega) _, (h.lo.other (by omega) _).other (by omega) _, h1.set (j := 1) (.int .i64 (r.den : Int)),
    (h.tl.over h.hi _).over h1 _, (h.tm.over h.hi _).over h1 _, (h.bel.setCell (by simp only; omega) _).setCell (by simp only; omega) _, h.fp, FineO.some hr, n1, n2⟩
theorem HtS.setLo {w : World} {lc : Array Value} {LO HI : Nat} {v1 v2 : Value} {ls ms : List B3} {W : World} {p q : Option Rat} (h : HtS w lc LO HI v1 v2 ls ms W p q) {r : Rat} (hr : Fine r) :
    HtS w lc LO HI v1 v2 ls ms ((W.setCell ⟨LO, 0, none⟩ (.int .i64 r.num)).setCell ⟨LO, 1, none⟩ (.int .i64 (r.den : Int))) (some r) q := by
  have n1 := h.n1
  have n2 := h.n2
  have h1 := h.lo.set (j := 0) (.int .i64 r.num)
  exact ⟨(h.log.other (by omega) _).other (by omega) _, (h.r6.other (by omega) _).other (by omega) _, (h.r7.other (by omega) _).other (by omega) _, h1.set (j := 1) (.int .i64 (r.den : Int)), (h.hi.other (by omega) _).other (by omega) _,
    (h.tl.over h.lo _).over h1 _, (h.tm.over h.lo _).over h1 _, (h.bel.setCell (by simp only; omega) _).setCell (by simp only; omega) _, FineO.some hr, h.fq, n1, n2⟩
theorem rby_r (n d : Int) {r : Rat} (hr : mkRat n d.toNat = r) (w : World) (h1 : -4611686018427387904 ≤ n) (h2 : n ≤ 4611686018427387904) (h3 : 0 < d) (h4 : d ≤ 4611686018427387904) :
    Calls Tryd.prog 51 #[.int .i64 n, .int .i64 d] w fun e w' => e = .returned (.agg #[.int .i64 r.num, .int .i64 (r.den : Int)]) ∧ Below w.heap.size w w' := by
  subst hr
  exact rby_any n d w h1 h2 h3 h4
theorem rless_r (a b : Rat) {c : Bool} (hc : decide (a < b) = c) (w : World) (ha : Fine a) (hb : Fine b) :
    Calls Tryd.prog 45 #[.agg #[.int .i64 a.num, .int .i64 (a.den : Int)], .agg #[.int .i64 b.num, .int .i64 (b.den : Int)]] w fun e w' => e = .returned (.bool c) ∧ Below w.heap.size w w' := by
  subst hc
  exact rless_any a b w ha hb
theorem mk_one (n : Int) : mkRat n (1 : Int).toNat = (n : Rat) := by
  rw [Rat.mkRat_eq_div]
  simp
  grind
theorem bok_mul {d s t d' s' t' : Int} (hi : BOk (d, s, t)) (hk : BOk (d', s', t')) : (-100 ≤ t * d' ∧ t * d' ≤ 100) ∧ (-100 ≤ t' * d ∧ t' * d ≤ 100) ∧ (-300000 ≤ s' * d ∧ s' * d ≤ 300000) ∧ -300000 ≤ s * d' ∧ s * d' ≤ 300000 := by
  have p1 := mul_bd s' d 3000 100 hk.s1 hk.s2 (by have := hi.d1; simp only at this; omega) hi.d2 (by omega)
  have p2 := mul_bd s d' 3000 100 hi.s1 hi.s2 (by have := hk.d1; simp only at this; omega) hk.d2 (by omega)
  have q1 := hi.d1
  have q2 := hi.d2
  have q3 := hk.d1
  have q4 := hk.d2
  simp only at q1 q2 q3 q4
  rcases hi.t with e | e <;> rcases hk.t with e' | e' <;> simp only at e e' <;> subst e <;> subst e' <;> refine ⟨?_, ?_, ?_, ?_⟩ <;> omega
end Go.Proofs.YtlhldkiggmlegaaDoor
