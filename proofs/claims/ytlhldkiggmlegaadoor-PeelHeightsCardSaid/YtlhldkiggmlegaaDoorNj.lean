import Derived.Test.YtlhldkiggmlegaaDoorNh
import Derived.Test.YtlhldkiggmlegaaDoorNi
import Derived.Test.YtlhldkiggmlegaaDoorNe
import Derived.Test.YtlhldkiggmlegaaDoorNf
import Derived.Test.YtlhldkiggmlegaaDoorNd
import Derived.Lib.QuietBelow
namespace Go.Proofs.YtlhldkiggmlegaaDoor
open Go.RowKit Go.Shelf Go.Sort
attribute [local go_sem] Oper.semAt_some

/-! ## The best core of a log -/
noncomputable def fineOr (r : Rat) : FR := open Classical in if h : Fine r then ⟨r, h⟩ else ⟨0, ⟨by decide, by decide, by decide⟩⟩
theorem fineOr_val {r : Rat} (h : Fine r) : (fineOr r).1 = r := by unfold fineOr; rw [dif_pos h]
def valR (l : LogD) (p : PK) : Rat := provesV l p.m.toNat p.f.toNat p.t.toNat p.s
noncomputable def EV (l : LogD) (clock : Nat) (ps : List PK) : EL := ps.zipIdx.map fun x => (x.1, fineOr (valR l x.1), clock + x.2)
theorem EV_snoc (l : LogD) (clock : Nat) (ps : List PK) (p : PK) : EV l clock (ps ++ [p]) = EV l clock ps ++ [(p, fineOr (valR l p), clock + ps.length)] := by
  unfold EV
  rw [List.zipIdx_append, List.map_append]
  simp
theorem EV_keys (l : LogD) (clock : Nat) (ps : List PK) : keysOf (asE (EV l clock ps)) = ps := by
  unfold keysOf asE EV
  rw [List.map_map, List.map_map]
  exact List.zipIdx_map_fst ..
theorem EV_borns (l : LogD) (clock : Nat) (ps : List PK) : bornsOf (EV l clock ps) = (List.range' 0 ps.length).map (clock + ·) := by
  unfold bornsOf EV
  rw [List.map_map]
  have : ((fun x : PK × FR × Nat => x.2.2) ∘ fun x : PK × Nat => (x.1, fineOr (valR l x.1), clock + x.2)) = (clock + ·) ∘ Prod.snd := rfl
  rw [this, ← List.map_map, List.zipIdx_map_snd]
theorem EV_nodup (l : LogD) (clock : Nat) (ps : List PK) : (bornsOf (EV l clock ps)).Nodup := by
  rw [EV_borns]
  exact List.Pairwise.map _ (fun a b (h : a ≠ b) => by show clock + a ≠ clock + b; omega) List.nodup_range'
theorem EV_old (l : LogD) (clock : Nat) (ps : List PK) : ∀ e ∈ EV l clock ps, e.2.2 < clock + ps.length := by
  intro e he
  have : e.2.2 ∈ bornsOf (EV l clock ps) := List.mem_map_of_mem he
  rw [EV_borns] at this
  obtain ⟨i, hi, h⟩ := List.mem_map.1 this
  have := List.mem_range'.1 hi
  omega

theorem IntsAt.frM {w W : World} {M : Nat} {es : Array MapEntry} {c : Nat} {v : Value} {l : List Int} (hM : Blk w M (.map es c)) (h : IntsAt w v l) (hF : FrL w M W) : IntsAt W v l := by
  obtain ⟨a, cap, e, hc⟩ := h
  refine ⟨a, cap, e, fun hn => ?_⟩
  obtain ⟨b, off, ea, hc⟩ := hc hn
  refine ⟨b, off, ea, fun i hi => ?_⟩
  have hx := hc i hi
  have hb : b ≠ M := by
    rintro rfl
    unfold Blk at hM
    simp [World.cell?, hM] at hx
  rw [← hx]
  exact World.cell?_of_block (hF.same b (lt_of_cell hx) hb)
theorem PairsAt.frM {w W : World} {M : Nat} {es : Array MapEntry} {c : Nat} {v : Value} {l : List (Int × Int)} (hM : Blk w M (.map es c)) (h : PairsAt w v l) (hF : FrL w M W) : PairsAt W v l := by
  obtain ⟨a, cap, e, hc⟩ := h
  refine ⟨a, cap, e, fun hn => ?_⟩
  obtain ⟨b, off, ea, hc⟩ := hc hn
  refine ⟨b, off, ea, fun i hi => ?_⟩
  obtain ⟨hx, hy⟩ := hc i hi
  have hb : b ≠ M := by
    rintro rfl
    unfold Blk at hM
    simp [World.cell?, hM] at hx
  rw [← hx, ← hy]
  exact ⟨World.cell?_of_block (hF.same b (lt_of_cell hx) hb), World.cell?_of_block (hF.same b (lt_of_cell hx) hb)⟩
theorem Blk.fr {w W : World} {M k : Nat} {o : Obj} (h : Blk w k o) (hF : FrL w M W) (hk : k ≠ M) : Blk W k o := (hF.same k h.lt hk).trans h
theorem LatheAt.frM {w W : World} {L M : Nat} {es : Array MapEntry} {c : Nat} {l : LogD} (hM : Blk w M (.map es c)) (h : LatheAt w L M l) (hF : FrL w M W) : LatheAt W L M l := by
  obtain ⟨va, ve, h1, h2, h3⟩ := h
  have hLM : L ≠ M := by
    rintro rfl
    unfold Blk at hM h1
    rw [hM] at h1
    cases h1
  exact ⟨va, ve, h1.fr hF hLM, h2.frM hM hF, h3.frM hM hF⟩
theorem FrL.refl (w : World) (M : Nat) : FrL w M w := ⟨Nat.le_refl _, fun _ _ _ => rfl, rfl, rfl, rfl⟩
theorem FrL.keepsB {w W W' : World} {M B : Nat} (h : FrL w M W) (hk : KeepsB B W W') (hB : w.heap.size ≤ B) : FrL w M W' :=
  ⟨Nat.le_trans h.size hk.size, fun k hlt hne => by
    have hlt' : k < W.heap.size := Nat.lt_of_lt_of_le hlt h.size
    rw [hk.same k W.heap[k] (Array.getElem?_eq_getElem hlt') (Or.inl (by omega)), ← Array.getElem?_eq_getElem hlt', h.same k hlt hne], hk.os.trans h.os, hk.tape.trans h.tape, hk.output.trans h.output⟩
theorem FrL.putM {w W : World} {M : Nat} (h : FrL w M W) (o : Obj) : FrL w M (W.putObj M o) :=
  ⟨by simpa using h.size, fun k hk h1 => (World.putObj_heap_other h1).trans (h.same k hk h1), h.os, h.tape, h.output⟩
/-- What has come, each once. -/
def ddAdd (c : List PK) (p : PK) : List PK := if p ∈ c then c else c ++ [p]
def dd (ps : List PK) : List PK := ps.foldl ddAdd []
theorem nodup_flat {f : Nat → List PK} (g : PK → Int) (h1 : ∀ i, ∀ p ∈ f i, g p = i) : ∀ (n : Nat), (∀ i, i < n → (f i).Nodup) → ((List.range n).flatMap f).Nodup
  | 0, _ => by simp
  | n + 1, h2 => by
    rw [flat_succ]
    refine List.nodup_append.2 ⟨nodup_flat g h1 n (fun i hi => h2 i (by omega)), h2 n (by omega), fun a ha b hb e => ?_⟩
    subst e
    obtain ⟨i, hi, ha⟩ := List.mem_flatMap.1 ha
    have e1 := h1 i a ha
    have e2 := h1 n a hb
    have := List.mem_range.1 hi
    omega
theorem proofsL_nodup (n : Nat) : (proofsL n).Nodup := by
  unfold proofsL
  refine List.nodup_append.2 ⟨?_, ?_, ?_⟩
  · refine List.Pairwise.map _ (fun a b (h : a ≠ b) => ?_) List.nodup_range
    intro e
    have := congrArg PK.f e
    simp only [single] at this
    omega
  · refine nodup_flat PK.t ?_ n (fun i _ => nodup_flat PK.m ?_ i (fun j _ => nodup_flat PK.f ?_ j (fun k _ => ?_)))
    · intro i p hp
      simp only [tri1, tri2, List.mem_flatMap] at hp
      obtain ⟨b, _, c, _, hp⟩ := hp
      simp only [tri3, List.mem_cons, List.not_mem_nil, or_false] at hp
      rcases hp with rfl | rfl <;> rfl
    · intro j p hp
      simp only [tri2, List.mem_flatMap] at hp
      obtain ⟨c, _, hp⟩ := hp
      simp only [tri3, List.mem_cons, List.not_mem_nil, or_false] at hp
      rcases hp with rfl | rfl <;> rfl
    · intro k p hp
      simp only [tri3, List.mem_cons, List.not_mem_nil, or_false] at hp
      rcases hp with rfl | rfl <;> rfl
    · simp [tri3]
  · intro a ha b hb e
    subst e
    obtain ⟨i, _, rfl⟩ := List.mem_map.1 ha
    simp only [tri1, tri2, List.mem_flatMap] at hb
    obtain ⟨x, _, y, _, z, _, hp⟩ := hb
    simp only [tri3, List.mem_cons, List.not_mem_nil, or_false] at hp
    rcases hp with hp | hp <;> (have := congrArg PK.s hp; simp [single] at this)
theorem dd_snoc (ps : List PK) (p : PK) : dd (ps ++ [p]) = ddAdd (dd ps) p := by simp [dd]
theorem dd_nodup {ps : List PK} (h : ps.Nodup) : dd ps = ps := by
  suffices H : ∀ (ps c : List PK), (c ++ ps).Nodup → ps.foldl ddAdd c = c ++ ps by
    have := H ps [] (by simpa using h)
    rwa [List.nil_append] at this
  intro ps
  induction ps with
  | nil => intro c _; simp
  | cons p ps ih =>
    intro c hn
    have hp : p ∉ c := by
      intro hp
      have := List.nodup_append.1 hn
      exact this.2.2 p hp p (by simp) rfl
    rw [List.foldl_cons, ddAdd, if_neg hp, ih _ (by simpa using hn)]
    simp
/-- The proofs themselves. -/
def unP {N : Nat} (pre : List (PN N)) : List PK := pre.map (·.1)
theorem unP_snoc {N : Nat} (pre : List (PN N)) (x : PN N) : unP (pre ++ [x]) = unP pre ++ [x.1] := by simp [unP]
structure BestI (w : World) (L M b1 b2 clock : Nat) (l : LogD) (pre : List PK) (W : World) : Prop where
  fr : FrL w M W
  p1 : Blk W b1 (.cells #[.pointer (some ⟨L, 0, none⟩)] 85)
  p2 : Blk W b2 (.cells #[.int .i64 0, .int .i64 0] 31)
  mp : Blk W M (entsO (asE (EV l clock (dd pre))) (clock + (dd pre).length))

theorem shaped_proofs {n : Nat} {p : PK} (h : p ∈ proofsL n) : 0 ≤ p.f ∧ p.f ≤ p.m ∧ p.m ≤ p.t ∧ p.t < n ∧ ((p.s = 0 ∧ p.f = p.m ∧ p.m = p.t) ∨ ((p.s = 1 ∨ p.s = 2) ∧ p.f < p.m ∧ p.m < p.t)) := by
  unfold proofsL at h
  rcases List.mem_append.1 h with h | h
  · obtain ⟨i, hi, rfl⟩ := List.mem_map.1 h
    have := List.mem_range.1 hi
    exact ⟨by simp [single], by simp [single], by simp [single], by simp [single]; omega, .inl ⟨rfl, rfl, rfl⟩⟩
  · simp only [tri1, tri2, List.mem_flatMap, List.mem_range] at h
    obtain ⟨a, ha, b, hb, c, hc, h⟩ := h
    simp only [tri3, List.mem_cons, List.not_mem_nil, or_false] at h
    rcases h with rfl | rfl
    · exact ⟨by simp, by simp; omega, by simp; omega, by simp; omega, .inr ⟨.inl rfl, by simp; omega, by simp; omega⟩⟩
    · exact ⟨by simp, by simp; omega, by simp; omega, by simp; omega, .inr ⟨.inr rfl, by simp; omega, by simp; omega⟩⟩

theorem strict_at {l : LogD} (hf : Fit l.at_ [l.edges]) {i j : Nat} (hij : i < j) (hj : j < l.at_.length) : atD l i < atD l j := by
  have hs := (strictB_iff l.at_).1 hf.strict
  have : ∀ d, i + 1 + d < l.at_.length → atD l i < atD l (i + 1 + d) := by
    intro d
    induction d with
    | zero => intro h; rw [← atD_eq (show i < l.at_.length by omega), ← atD_eq h]; exact hs i (by omega)
    | succ d ih =>
      intro h
      have h1 := ih (by omega)
      have h2 := hs (i + 1 + d) (by omega)
      rw [atD_eq, atD_eq] at h2
      exact Int.lt_trans h1 h2
  have := this (j - i - 1) (by omega)
  rwa [show i + 1 + (j - i - 1) = j by omega] at this
theorem proves_pk (L M : Nat) (l : LogD) (p : PK) (w : World) (hl : LatheAt w L M l) (hf : Fit l.at_ [l.edges]) (hp : p ∈ proofsL l.at_.length) :
    Calls Tryd.prog 72 #[.pointer (some ⟨L, 0, none⟩), .agg #[.int .i64 p.f, .int .i64 p.m, .int .i64 p.t, .int .i64 p.s]] w fun e w' => e = .returned (.agg #[.int .i64 (valR l p).num, .int .i64 (valR l p).den]) ∧ Below w.heap.size w w' := by
  obtain ⟨f, m, t, s⟩ := p
  obtain ⟨h1, h2, h3, h4, h5⟩ := shaped_proofs hp
  simp only at h1 h2 h3 h4 h5
  obtain ⟨f, rfl⟩ := Int.eq_ofNat_of_zero_le h1
  obtain ⟨m, rfl⟩ := Int.eq_ofNat_of_zero_le (Int.le_trans h1 h2)
  obtain ⟨t, rfl⟩ := Int.eq_ofNat_of_zero_le (Int.le_trans h1 (Int.le_trans h2 h3))
  have hlen := hf.lens _ (List.mem_singleton.2 rfl)
  exact proves_any L M m f t s l w hl hf (by omega) (by omega) (by omega) (by omega) (by omega) (by omega) (fun hs => strict_at hf (by omega) (by omega))
theorem valR_fine {l : LogD} (hf : Fit l.at_ [l.edges]) {p : PK} (hp : p ∈ proofsL l.at_.length) : Fine (valR l p) := by
  obtain ⟨f, m, t, s⟩ := p
  obtain ⟨h1, h2, h3, h4, h5⟩ := shaped_proofs hp
  simp only at h1 h2 h3 h4 h5
  obtain ⟨f, rfl⟩ := Int.eq_ofNat_of_zero_le h1
  obtain ⟨m, rfl⟩ := Int.eq_ofNat_of_zero_le (Int.le_trans h1 h2)
  obtain ⟨t, rfl⟩ := Int.eq_ofNat_of_zero_le (Int.le_trans h1 (Int.le_trans h2 h3))
  have hlen := hf.lens _ (List.mem_singleton.2 rfl)
  have hedge : ∀ k, k < l.edges.length → -1000 ≤ loD l k ∧ loD l k ≤ 1000 ∧ -1000 ≤ hiD l k ∧ hiD l k ≤ 1000 := by
    intro k hk
    obtain ⟨y1, y2, y3⟩ := okEdges_get (hf.edges _ (List.mem_singleton.2 rfl)) k hk
    rw [loD_eq hk, hiD_eq hk] at *
    omega
  have hats : ∀ k, k < l.at_.length → 0 ≤ atD l k ∧ atD l k ≤ 100 := by
    intro k hk
    obtain ⟨x1, x2⟩ := okInts_get hf.ats k hk
    rw [atD_eq hk] at *
    omega
  obtain ⟨m1, m2, m3, m4⟩ := hedge m (by omega)
  obtain ⟨f1, f2, f3, f4⟩ := hedge f (by omega)
  obtain ⟨t1, t2, t3, t4⟩ := hedge t (by omega)
  obtain ⟨am1, am2⟩ := hats m (by omega)
  obtain ⟨af1, af2⟩ := hats f (by omega)
  obtain ⟨at1, at2⟩ := hats t (by omega)
  have fin : ∀ (D : Nat) (r : Rat), 0 < D → D ≤ 100 → Fr D 202000 r → Fine (half r) := by
    intro D r h0 h1 hr
    unfold half
    have := hr.part (n := 1) (d := 2) (by omega) (by omega) (by omega) (by omega)
    rw [show (2 : Int).toNat = 2 from rfl] at this
    refine this.fine (by omega) (by omega) ?_
    have : (202000 * 100 : Int) * ((D * 2 : Nat) : Int) ≤ 202000 * 100 * 200 := Int.mul_le_mul_of_nonneg_left (by omega) (by omega)
    omega
  unfold valR provesV
  simp only [Int.toNat_natCast]
  split
  · have hlt := strict_at hf (i := f) (j := t) (by omega) (by omega)
    obtain ⟨_, e2⟩ := line_fr (a := atD l f) (b := atD l t) (x := atD l m) f1 f2 t1 t2 (by omega) (by omega) (by omega)
    exact fin (1 * (atD l t - atD l f).toNat) _ (by omega) (by omega) (((fr_int m3 m4 (atD l t - atD l f).toNat (by omega)).sub e2).mono (by omega))
  · split
    · have hlt := strict_at hf (i := f) (j := t) (by omega) (by omega)
      obtain ⟨_, e2⟩ := line_fr (a := atD l f) (b := atD l t) (x := atD l m) f3 f4 t3 t4 (by omega) (by omega) (by omega)
      exact fin (1 * (atD l t - atD l f).toNat) _ (by omega) (by omega) ((e2.sub (fr_int m1 m2 (atD l t - atD l f).toNat (by omega))).mono (by omega))
    · exact fin 1 _ (by omega) (by omega) (((Fr.int (D := 1) m3 m4 (by omega)).sub (Fr.int (D := 1) (M := 1000) m1 m2 (by omega))).mono (by omega))
/-- The value of a key that is there is the one that it would get. -/
theorem EV_same {l : LogD} {clock : Nat} {ps : List PK} {k : PK} : ∀ e ∈ asE (EV l clock ps), e.1 = k → e.2.1 = qv (fineOr (valR l k)).1 := by
  intro e he hk
  unfold asE EV at he
  rw [List.map_map] at he
  obtain ⟨x, _, rfl⟩ := List.mem_map.1 he
  simp only [Function.comp] at hk ⊢
  rw [hk]
theorem store_any {l : LogD} {clock M : Nat} {W : World} {ps : List PK} (k : PK) (hfin : Fine (valR l k)) (h : Blk W M (entsO (asE (EV l clock (dd ps))) (clock + (dd ps).length))) :
    (Instr.mapUpdate 110 (.map (some M)) (.agg #[.int .i64 k.f, .int .i64 k.m, .int .i64 k.t, .int .i64 k.s]) (.agg #[.int .i64 (valR l k).num, .int .i64 (valR l k).den])).run Tryd.prog W =
      .ok () (W.putObj M (entsO (asE (EV l clock (dd (ps ++ [k])))) (clock + (dd (ps ++ [k])).length))) := by
  rw [dd_snoc]
  unfold ddAdd
  by_cases hk : k ∈ dd ps
  · rw [if_pos hk]
    refine run_store_old h k _ (by rw [EV_keys]; exact hk) (fun e he hek => ?_)
    rw [EV_same e he hek, fineOr_val hfin]
    rfl
  · rw [if_neg hk, EV_snoc]
    have := run_store_pk h k (qv (valR l k)) (by rw [EV_keys]; exact hk)
    rw [show asE (EV l clock (dd ps) ++ [(k, fineOr (valR l k), clock + (dd ps).length)]) = asE (EV l clock (dd ps)) ++ [(k, qv (valR l k), clock + (dd ps).length)] by simp [asE, fineOr_val hfin]]
    rw [List.length_append, List.length_singleton, ← Nat.add_assoc]
    exact this
def IsBest (l : LogD) (r : Rat) : Prop := (∃ p ∈ proofsL l.at_.length, valR l p = r) ∧ ∀ p ∈ proofsL l.at_.length, r ≤ valR l p
/-- What 'best' leaves: the least number that a proof proves, and the proofs of it. -/
def BestE (w : World) (M clock : Nat) (l : LogD) (e : Ending) (w' : World) : Prop :=
  ∃ r c', IsBest l r ∧ e = .returned (qv r) ∧ Blk w' M (entsO (asE ((EV l clock (proofsL l.at_.length)).filter fun e => decide (valR l e.1 = r))) c') ∧ FrL w M w'

theorem inj_of_nodup {α β : Type} {f : α → β} : ∀ {l : List α}, (l.map f).Nodup → ∀ {a b}, a ∈ l → b ∈ l → f a = f b → a = b
  | x :: l, hn, a, b, ha, hb, h => by
    obtain ⟨h1, h2⟩ := List.nodup_cons.1 hn
    rcases List.mem_cons.1 ha with rfl | ha' <;> rcases List.mem_cons.1 hb with rfl | hb'
    · rfl
    · exact absurd (h ▸ List.mem_map_of_mem hb') h1
    · exact absurd (h ▸ List.mem_map_of_mem ha') h1
    · exact inj_of_nodup h2 ha' hb' h
theorem born_inj {E0 : EL} (hb : (bornsOf E0).Nodup) {x e : PK × FR × Nat} (hx : x ∈ E0) (he : e ∈ E0) (h : x.2.2 = e.2.2) : x = e := inj_of_nodup hb hx he h
theorem key_inj {E0 : EL} (hb : (E0.map (·.1)).Nodup) {x e : PK × FR × Nat} (hx : x ∈ E0) (he : e ∈ E0) (h : x.1 = e.1) : x = e := inj_of_nodup hb hx he h
theorem EV_mem {l : LogD} (hf : Fit l.at_ [l.edges]) {clock : Nat} {e : PK × FR × Nat} (he : e ∈ EV l clock (proofsL l.at_.length)) : e.1 ∈ proofsL l.at_.length ∧ e.2.1.1 = valR l e.1 := by
  unfold EV at he
  obtain ⟨⟨p, i⟩, hx, rfl⟩ := List.mem_map.1 he
  have hp : p ∈ proofsL l.at_.length := List.fst_mem_of_mem_zipIdx hx
  exact ⟨hp, fineOr_val (valR_fine hf hp)⟩
theorem EV_of {l : LogD} (hf : Fit l.at_ [l.edges]) (clock : Nat) {p : PK} (hp : p ∈ proofsL l.at_.length) : ∃ e ∈ EV l clock (proofsL l.at_.length), e.1 = p ∧ e.2.1.1 = valR l p := by
  have : p ∈ keysOf (asE (EV l clock (proofsL l.at_.length))) := by rw [EV_keys]; exact hp
  unfold keysOf asE at this
  rw [List.map_map] at this
  obtain ⟨e, he, rfl⟩ := List.mem_map.1 this
  exact ⟨e, he, rfl, (EV_mem hf he).2⟩
theorem run_range_pk {es : List (PK × Value × Nat)} {clock M : Nat} {W : World} (h : Blk W M (entsO es clock)) :
    (Instr.range 110 (.map (some M))).run Tryd.prog W = .ok (.pointer (some ⟨W.heap.size, 0, none⟩)) (W.alloc (.mapIter (some M) clock #[] clock)) := by
  have ht : Tryd.prog.underlying 110 = some (.map 45 31) := by kernel_rfl
  simp only [Instr.range, Sem.run_bind, run_underlying ht, Result.andThen_ok, run_getObj_map h, Sem.run_pure]
  rfl
/-- What is left of the entries when those that have come are struck, but for those with a value. -/
def ESeen (E0 : EL) (r : Rat) (seen : Array Nat) : EL := E0.filter fun e => !seen.contains e.2.2 || decide (e.2.1.1 = r)
theorem ESeen_left (E0 : EL) (r : Rat) (seen : Array Nat) : leftE (ESeen E0 r seen) seen = leftE E0 seen := by
  unfold leftE ESeen
  rw [List.filter_filter]
  congr 1
  funext e
  cases seen.contains e.2.2 <;> simp
theorem ESeen_zero (E0 : EL) (r : Rat) : ESeen E0 r #[] = E0 := by unfold ESeen; rw [List.filter_eq_self]; simp
theorem ESeen_keep {E0 : EL} {r : Rat} {seen : Array Nat} {e : PK × FR × Nat} (hb : (bornsOf E0).Nodup) (he : e ∈ E0) (hr : e.2.1.1 = r) : ESeen E0 r (seen.push e.2.2) = ESeen E0 r seen := by
  unfold ESeen
  refine List.filter_congr (fun x hx => ?_)
  by_cases hx2 : x.2.2 = e.2.2
  · have : x = e := born_inj hb hx he hx2
    subst this
    simp [hr]
  · rw [Bool.eq_iff_iff]
    simp [hx2]
theorem ESeen_drop {E0 : EL} {r : Rat} {seen : Array Nat} {e : PK × FR × Nat} (hb : (bornsOf E0).Nodup) (hk : (E0.map (·.1)).Nodup) (he : e ∈ E0) (hr : e.2.1.1 ≠ r) :
    (asE (ESeen E0 r seen)).filter (fun x => !decide (x.1 = e.1)) = asE (ESeen E0 r (seen.push e.2.2)) := by
  unfold asE ESeen
  rw [List.filter_map, List.filter_filter]
  congr 1
  refine List.filter_congr (fun x hx => ?_)
  simp only [Function.comp]
  by_cases hx2 : x.2.2 = e.2.2
  · have : x = e := born_inj hb hx he hx2
    subst this
    simp [hr]
  · have hne : x.1 ≠ e.1 := fun h => hx2 (by rw [key_inj hk hx he h])
    rw [Bool.eq_iff_iff]
    simp [hx2, hne]
theorem ratio_eq (a b : Rat) (w : World) : (Op.equalIn 10000 31 (.agg #[.int .i64 a.num, .int .i64 a.den]) (.agg #[.int .i64 b.num, .int .i64 b.den])).run Tryd.prog w = .ok (decide (a = b)) w := by
  have hp : Tryd.prog.stoodInHeld 31 = false := by kernel_rfl
  have ht : Tryd.prog.underlying 31 = some (.struct (Tryd.prog.fieldsOf 31)) := by kernel_rfl
  have he : Tryd.prog.underlying 2 = some (.int .i64) := by kernel_rfl
  have hf : (Tryd.prog.fieldsOf 31).toList.map (fun f => (f.name, f.type, f.offset)) = [("Num", 2, 0), ("Den", 2, 1)] := by kernel_rfl
  have p0 : ∀ (a b : Int) w, (part 2 #[.int .i64 a, .int .i64 b] 0).run Tryd.prog w = .ok (.int .i64 a) w := fun _ _ w => by kernel_rfl
  have p1 : ∀ (a b : Int) w, (part 2 #[.int .i64 a, .int .i64 b] 1).run Tryd.prog w = .ok (.int .i64 b) w := fun _ _ w => by kernel_rfl
  have h : ∀ a b w, (Op.equalIn 9999 2 (.int .i64 a) (.int .i64 b)).run Tryd.prog w = .ok (a == b) w := fun a b w => run_equalIn_int w 9998 _ _ _ a b he
  rw [run_equalIn_agg w 9999 _ _ _ ht hp]
  obtain ⟨f0, f1, hl⟩ : ∃ f0 f1, (Tryd.prog.fieldsOf 31).toList = [f0, f1] := by
    have hlen : (Tryd.prog.fieldsOf 31).toList.length = 2 := by have := congrArg List.length hf; simpa using this
    generalize (Tryd.prog.fieldsOf 31).toList = fl at hlen
    match fl, hlen with
    | [f0, f1], _ => exact ⟨f0, f1, rfl⟩
  rw [hl] at hf ⊢
  simp only [List.map_cons, List.map_nil, List.cons.injEq, Prod.mk.injEq, and_true] at hf
  obtain ⟨⟨n0, t0, o0⟩, n1, t1, o1⟩ := hf
  simp only [Op.eqFields, n0, t0, o0, n1, t1, o1]
  have hd : (a = b) ↔ (a.num = b.num ∧ (a.den : Int) = b.den) := by
    constructor
    · rintro rfl; exact ⟨rfl, rfl⟩
    · rintro ⟨h1, h2⟩; exact Rat.ext h1 (by omega)
  by_cases h1 : a.num = b.num <;> by_cases h2 : (a.den : Int) = b.den <;> simp [p0, p1, h, h1, h2, hd]
theorem FrL.setNew {w W : World} {M b : Nat} (h : FrL w M W) (hb : w.heap.size ≤ b) (j : Nat) (v : Value) : FrL w M (W.setCell ⟨b, j, none⟩ v) :=
  ⟨by simpa [World.setCell] using h.size, fun k hk hne => (Below.heap_setCell _ _ _ _ (by simp; omega)).trans (h.same k hk hne), h.os, h.tape, h.output⟩
theorem FrL.putNew {w W : World} {M b : Nat} (h : FrL w M W) (hb : w.heap.size ≤ b) (o : Obj) : FrL w M (W.putObj b o) :=
  ⟨by simpa using h.size, fun k hk h1 => (World.putObj_heap_other (by omega)).trans (h.same k hk h1), h.os, h.tape, h.output⟩
set_option maxRecDepth 100000 in
set_option maxHeartbeats 4000000 in
theorem best_any (L M clock : Nat) (l : LogD) (w : World) (hl : LatheAt w L M l) (hf : Fit l.at_ [l.edges]) (hM : Blk w M (.map #[] clock)) :
    Calls Tryd.prog 65 #[.pointer (some ⟨L, 0, none⟩)] w (BestE w M clock l) := by
  have hlen := hf.lens _ (List.mem_singleton.2 rfl)
  have h8 := hf.eight
  have hLM : L ≠ M := by
    obtain ⟨_, _, h1, _, _⟩ := hl
    rintro rfl
    unfold Blk at hM h1
    rw [hM] at h1
    cases h1
  have lM := hM.lt
  have lL : L < w.heap.size := by obtain ⟨_, _, h1, _, _⟩ := hl; exact h1.lt
  have HL := Lib.hid hl
  have HF := Lib.hid hf
  have HM := Lib.hid hM
  clear hl hf hM
  refine (callsIn_wide (n := 8)).1 ?_
  refine callsIn_of_wp_marks Tryd.func65 rfl trivial ?_ rfl
  simp only [Tryd.ntmps65, List.size_toArray, List.length_cons, List.length_nil, Nat.reduceAdd, Nat.reduceSub, Array.replicate_succ, Array.replicate_zero, List.push_toArray, List.append_toArray, List.nil_append, List.cons_append]
  gi_wp2
  refine ⟨trivial, (callsIn_wide.2 (proofs_any L _)).mono ?_⟩
  rintro e w1 ⟨rfl, rfl⟩
  rw [World.size_alloc, World.size_alloc]
  have b1 := ((Blk.new w (.cells #[.pointer (some ⟨L, 0, none⟩)] 85)).alloc (.cells #[.int .i64 0, .int .i64 0] 31)).alloc (.cells #[.pointer (some ⟨L, 0, none⟩)] 85)
  have b2 := (Blk.new (w.alloc (.cells #[.pointer (some ⟨L, 0, none⟩)] 85)) (.cells #[.int .i64 0, .int .i64 0] 31)).alloc (.cells #[.pointer (some ⟨L, 0, none⟩)] 85)
  have b3 := Blk.new ((w.alloc (.cells #[.pointer (some ⟨L, 0, none⟩)] 85)).alloc (.cells #[.int .i64 0, .int .i64 0] 31)) (.cells #[.pointer (some ⟨L, 0, none⟩)] 85)
  have hB1 := below3 w (.cells #[.pointer (some ⟨L, 0, none⟩)] 85) (.cells #[.int .i64 0, .int .i64 0] 31) (.cells #[.pointer (some ⟨L, 0, none⟩)] 85)
  have hz1 : (((w.alloc (.cells #[.pointer (some ⟨L, 0, none⟩)] 85)).alloc (.cells #[.int .i64 0, .int .i64 0] 31)).alloc (.cells #[.pointer (some ⟨L, 0, none⟩)] 85)).heap.size = w.heap.size + 3 := by simp
  rw [World.size_alloc] at b2
  rw [World.size_alloc, World.size_alloc] at b3
  generalize ((w.alloc (.cells #[.pointer (some ⟨L, 0, none⟩)] 85)).alloc (.cells #[.int .i64 0, .int .i64 0] 31)).alloc (.cells #[.pointer (some ⟨L, 0, none⟩)] 85) = w1 at *
  have HZ := Lib.hid hz1
  have hz2 : w.heap.size + 3 ≤ w1.heap.size := by omega
  have HB := Lib.hid hB1
  clear hz1
  have e3 := b3.cell 0
  simp at e3
  obtain ⟨va, ve, bL, hA, hE⟩ := LatheAt.below HL.out hB1
  obtain ⟨a, cap, rfl⟩ := hA.slice
  have eL := bL.cell 0
  simp at eL
  have hseq := proofs_stops (8 - 1) (by omega) (w.heap.size + 1 + 1) L w1.heap.size l.at_.length (fun k => k = w.heap.size + 1 + 1 ∨ k = L) a cap w1 (by omega) (.inl rfl) (.inr rfl) (Nat.le_refl _) e3 eL
  clear hA hE bL eL e3 hB1
  gi_wp2
  refine wpIn_rangeFunc_ownH (F := Fence.wide) rfl (by omega) (gf := 104) (lb := #[.pointer (some ⟨w.heap.size + 1 + 1, 0, none⟩)]) rfl trivial (enters_of Tryd.func104 (by kernel_rfl) rfl)
    hseq kpP_t (kpP_b (by rintro k (rfl | rfl) <;> omega)) (Below.refl _ _) (fun _ => rfl)
    (fun (pre : List (PN l.at_.length)) W => BestI w L M w.heap.size (w.heap.size + 1) clock l (unP pre) W ∧ w1.heap.size ≤ W.heap.size)
    (fun _ _ _ => False)
    (ownFrom_of fun pre W W' hI hk => ⟨⟨hI.1.fr.keepsB hk (by omega), hI.1.p1.keepsC hk, hI.1.p2.keepsC hk, hI.1.mp.keeps hk (.inl (by omega))⟩, Nat.le_trans hI.2 hk.size⟩)
    (fun _ _ _ _ _ hs _ _ => hs)
    ⟨⟨FrL.of_below HB.out, b1, b2, ?m0⟩, Nat.le_refl _⟩
    (fun (x : PN l.at_.length) a' W => ∃ Bx, w1.heap.size ≤ Bx ∧ Blk W Bx (.cells #[.int .i64 x.1.f, .int .i64 x.1.m, .int .i64 x.1.t, .int .i64 x.1.s] 45) ∧ a' = { tmps := #[.pointer (some ⟨L, 0, none⟩), .pointer (some ⟨w.heap.size, 0, none⟩), .pointer (some ⟨w.heap.size + 1, 0, none⟩), .pointer (some ⟨Bx, 0, none⟩), undef, undef, undef, .pointer (some ⟨L, 0, none⟩), .func (.func 104) #[] #[.pointer (some ⟨w.heap.size + 1 + 1, 0, none⟩)], pkV x.1, undef, undef, undef, undef, undef, undef, undef, undef, undef, undef, undef, undef, undef, undef, undef, undef, undef, undef, undef, undef, undef, undef, undef, undef, undef, undef, undef, undef, undef, undef, undef, undef, undef], defers := [] })
    (fun x a' => ownFrom_of fun _ W W' h hk => by obtain ⟨Bx, h1, h2, h3⟩ := h; exact ⟨Bx, h1, h2.keepsC hk, h3⟩)
    ?assign ?body ?done ?stop
  case m0 =>
    have := HM.out.below HB.out
    exact this
  case assign =>
    rintro l0 pre x W K ⟨hI, hs⟩ hK
    unfold pkV
    gi_wp2
    exact hK _ _ ((KeepsOthers.alloc _ _).from _) ((KpP.refl _ _ _).alloc _) ⟨⟨hI.fr.below (below1 _ _), hI.p1.alloc _, hI.p2.alloc _, hI.mp.alloc _⟩, by simp; omega⟩ ⟨W.heap.size, hs, Blk.new _ _, rfl⟩
  case body =>
    rintro l0 pre x a' W hl0 hloop ⟨hI, hs⟩ ⟨Bx, hBx, bX, rfl⟩ hlt
    obtain ⟨hfr, q1, q2, hmp⟩ := hI
    have hlW := LatheAt.frM HM.out HL.out hfr
    obtain ⟨va', ve', bL', _, _⟩ := hlW
    have eM := bL'.cell 2
    have e1 := q1.cell 0
    have x0 := bX.cell 0
    have x1 := bX.cell 1
    have x2 := bX.cell 2
    have x3 := bX.cell 3
    simp at eM e1 x0 x1 x2 x3
    have gM := fun d os => cell_regrown eM d os
    have g1 := fun d os => cell_regrown e1 d os
    have y0 := fun d os => cell_regrown x0 d os
    have y1 := fun d os => cell_regrown x1 d os
    have y2 := fun d os => cell_regrown x2 d os
    have y3 := fun d os => cell_regrown x3 d os
    have hcall := fun (d : Nat) (os : Array Obj) => Calls.regrown_of (proves_pk L M l x.1 (grow (redrawn W d) os) (LatheAt.below (LatheAt.frM HM.out HL.out hfr) (below_regrown W d os)) HF.out x.2)
    have HFR := Lib.hid hfr
    clear hfr eM e1 x0 x1 x2 x3
    gi_wp2
    refine wpIn_region_tail 8 (by kernel_rfl) (by kernel_rfl) ?_
    repeat (quiet_step (exact hcall _ _))
    refine wpQuiet_nil ?_
    intro _ hw'
    obtain ⟨⟨dq, osq⟩, hw''⟩ := hw'
    subst hw''
    have hB2 := below_regrown W dq osq
    have hmp2 := hmp.below hB2
    have hrun := store_any x.1 (valR_fine HF.out x.2) hmp2
    have hfr2 := HFR.out.below hB2
    have q12 := q1.below hB2
    have q22 := q2.below hB2
    simp only [List.drop_succ_cons, List.drop_zero]
    clear g1 gM y0 y1 y2 y3 hcall hmp hmp2
    generalize grow (redrawn W dq) osq = W2 at *
    have hs2 := hB2.size
    gi_wp2
    refine ⟨⟨by simpa using hs2, fun k o hk ho hc => ?_⟩, (KpP.of_below hB2).trans ⟨by simp, fun k o ho hk => ?_⟩, ⟨hfr2.putM _, q12.put (by omega) _, q22.put (by omega) _, ?_⟩, by simpa using Nat.le_trans hs hs2⟩
    · exact (World.putObj_heap_other (by omega)).trans ((hB2.block k (Array.getElem?_eq_some_iff.1 ho).1).trans ho)
    · refine (World.putObj_heap_other ?_).trans ho
      rcases hk with (rfl | rfl) | ⟨hk, _⟩ <;> omega
    · rw [unP_snoc]
      exact World.putObj_heap_same (by omega)
  case done =>
    rintro D zs W hD hS ⟨⟨hfr, q1, q2, hmp⟩, hs⟩ hK
    rw [show unP zs = proofsL l.at_.length from hS, dd_nodup (proofsL_nodup _)] at hmp
    have hlW := LatheAt.frM HM.out HL.out hfr
    obtain ⟨va', ve', bL', _, _⟩ := hlW
    have eM := bL'.cell 2
    have e1 := q1.cell 0
    simp at eM e1
    gi_wp2
    refine ⟨trivial, (callsIn_wide.2 (mValues_any M W)).mono ?_⟩
    rintro e w2 ⟨rfl, rfl⟩
    have hE0 := EV_nodup l clock (proofsL l.at_.length)
    have hE1 := EV_old l clock (proofsL l.at_.length)
    have hne0 : (EV l clock (proofsL l.at_.length)) ≠ [] := by
      have h2 := HF.out.two
      intro h
      have := congrArg (fun x => keysOf (asE x)) h
      simp only [EV_keys] at this
      have hm : single 0 ∈ proofsL l.at_.length := List.mem_append_left _ (List.mem_map_of_mem (List.mem_range.2 (by omega)))
      rw [this] at hm
      cases hm
    have hmp1 := hmp.alloc (.cells #[.map (some M)] 110)
    have hbm := Blk.new W (.cells #[.map (some M)] 110)
    gi_wp2
    refine ⟨trivial, (callsIn_wide.2 ((callsIn_wide (n := 5)).1 (pick_any 5 (by omega) 80 (fun a b => decide (a < b)) (enters_of Tryd.func80 (by kernel_rfl) rfl) (fun a b w ha hb => less_any a b w ha hb)
      108 #[.pointer (some ⟨W.heap.size, 0, none⟩)] (fun ys => ys.Perm ((EV l clock (proofsL l.at_.length)).map (·.2.1))) (fun _ => True) (EV l clock (proofsL l.at_.length)).length
      (fun ys hp h => by rw [h] at hp; have := hp.length_eq; simp at this; exact hne0 (List.length_eq_zero_iff.1 this.symm)) _ (enters_of Tryd.func108 (by kernel_rfl) rfl)
      (fun n hn => mvals_stops n hn W.heap.size M _ _ (EV l clock (proofsL l.at_.length)) _ hE0 hE1 (by simp; omega) (Nat.le_refl _) hbm.cell0 hmp1)))).mono ?_⟩
    rintro e w3 ⟨⟨ys, r, hys, hr, rfl⟩, hb3⟩
    have hbest : IsBest l r := by
      obtain ⟨h1, h2⟩ := best_least hr
      have hm : ∀ x : FR, x ∈ ys ↔ x ∈ (EV l clock (proofsL l.at_.length)).map (·.2.1) := fun x => hys.mem_iff
      constructor
      · obtain ⟨x, hx, rfl⟩ := List.mem_map.1 h1
        obtain ⟨e, he, rfl⟩ := List.mem_map.1 ((hm x).1 hx)
        obtain ⟨hp, hv⟩ := EV_mem HF.out he
        exact ⟨e.1, hp, hv.symm⟩
      · intro p hp
        obtain ⟨e, he, rfl, hv⟩ := EV_of HF.out clock hp
        rw [← hv]
        exact h2 _ (List.mem_map_of_mem ((hm _).2 (List.mem_map_of_mem he)))
    have hfr3 := (hfr.below (below1 W (.cells #[.map (some M)] 110))).below hb3
    have q13 := (q1.alloc (.cells #[.map (some M)] 110)).below hb3
    have q23 := (q2.alloc (.cells #[.map (some M)] 110)).below hb3
    have hmp3 := hmp1.below hb3
    have hK3 : Blk w3 D (.deferred (some [])) := (Blk.alloc (W := W) hK (.cells #[.map (some M)] 110)).below hb3
    have hs3 : w1.heap.size ≤ w3.heap.size := by have := hb3.size; simp at this; omega
    have hDlt := hK3.lt
    clear hys hr hmp1 hbm hb3 hmp q1 q2 hfr hK e1 eM bL' hs
    have hmp4 := hmp3.alloc (.cells #[.int .i64 r.num, .int .i64 r.den] 31)
    have hrng := run_range_pk hmp4
    rw [World.size_alloc] at hrng
    have hlW := LatheAt.frM HM.out HL.out hfr3
    obtain ⟨va', ve', bL', _, _⟩ := hlW
    have eM := bL'.cell 2
    have e1 := q13.cell 0
    have e2 := q23.cell 0
    have e3 := q23.cell 1
    simp at eM e1 e2 e3
    have l1 : L < w3.heap.size := by omega
    have l2 : w.heap.size < w3.heap.size := by omega
    have l3 : w.heap.size + 1 < w3.heap.size := by omega
    unfold qv
    gi_wp2
    have it0 := Blk.new (w3.alloc (.cells #[.int .i64 r.num, .int .i64 r.den] 31)) (.mapIter (some M) (clock + (proofsL l.at_.length).length) #[] (clock + (proofsL l.at_.length).length))
    rw [World.size_alloc] at it0
    have b40 := (Blk.new w3 (.cells #[.int .i64 r.num, .int .i64 r.den] 31)).alloc (.mapIter (some M) (clock + (proofsL l.at_.length).length) #[] (clock + (proofsL l.at_.length).length))
    have hb4 := below2 w3 (.cells #[.int .i64 r.num, .int .i64 r.den] 31) (.mapIter (some M) (clock + (proofsL l.at_.length).length) #[] (clock + (proofsL l.at_.length).length))
    have hfr4 := hfr3.below hb4
    have q14 := q13.below hb4
    have q24 := q23.below hb4
    have hmp5 := hmp3.below hb4
    have hK5 := hK3.below hb4
    obtain ⟨b4, hb4e⟩ : ∃ b, b = w3.heap.size := ⟨_, rfl⟩
    rw [← hb4e] at it0 b40 hDlt hs3 ⊢
    clear e1 e2 e3 eM bL' hrng l1 l2 l3 hmp4 hmp3 hK3 hfr3 q13 q23 hb4
    generalize (w3.alloc (.cells #[.int .i64 r.num, .int .i64 r.den] 31)).alloc (.mapIter (some M) (clock + (proofsL l.at_.length).length) #[] (clock + (proofsL l.at_.length).length)) = w5 at *
    clear hb4e
    have HE0 := Lib.hid hE0
    have HE1 := Lib.hid hE1
    obtain ⟨E0, hE0d⟩ : ∃ E, E = EV l clock (proofsL l.at_.length) := ⟨_, rfl⟩
    rw [← hE0d] at hmp5 hE0 hE1
    have HED := Lib.hid hE0d
    clear hE0d HE0 HE1
    obtain ⟨c5, hc5⟩ : ∃ c, c = clock + (proofsL l.at_.length).length := ⟨_, rfl⟩
    rw [← hc5] at hmp5 it0 hE1
    clear hc5
    have hkeys : (E0.map (·.1)).Nodup := by
      have h := EV_keys l clock (proofsL l.at_.length)
      unfold keysOf asE at h
      rw [List.map_map, ← HED.out] at h
      have h' : E0.map (·.1) = proofsL l.at_.length := h
      rw [h']
      exact proofsL_nodup _
    gi_loopw [29] (fun _ wr => ∃ seen : Array Nat, Blk wr (b4 + 1) (.mapIter (some M) c5 seen c5) ∧ Blk wr M (entsO (asE (ESeen E0 r seen)) c5) ∧ Blk wr b4 (.cells #[.int .i64 r.num, .int .i64 r.den] 31) ∧ FrL w M wr ∧
        Blk wr w.heap.size (.cells #[.pointer (some ⟨L, 0, none⟩)] 85) ∧ Blk wr (w.heap.size + 1) (.cells #[.int .i64 0, .int .i64 0] 31) ∧ Blk wr D (.deferred (some [])))
      (fun _ wr => leftN M (b4 + 1) wr)
    case atStart =>
      exact ⟨#[], it0, by rw [ESeen_zero]; exact hmp5, b40, hfr4, q14, q24, hK5⟩
    case round =>
      obtain ⟨seen, hit, hMb, hb4, hfr, q1, q2, hK⟩ := hrel
      have hleft := ESeen_left E0 r seen
      have hN := Lib.hid (leftN_eq hMb hit)
      have hrlt := hit.lt
      have hnx := run_next_at (P := Tryd.prog) wr 0 (b4 + 1) M c5 c5 seen ((asE (ESeen E0 r seen)).map ent).toArray c5 hit hMb (by
        intro x hx
        rw [asE_ent] at hx
        obtain ⟨e, he, rfl⟩ := List.mem_map.1 hx
        exact hE1 e (List.mem_filter.1 he).1) (Nat.le_refl _)
      rw [leftOf_asE, hleft] at hnx
      have HLf := Lib.hid hleft
      clear hleft
      rcases hnx with ⟨hz, hrun⟩ | ⟨me, hme, w1', hw1, hrun⟩
      · have hnil : leftE E0 seen = [] := by simpa using hz
        have hrun' : ∀ ty, (Instr.next (.pointer (some ⟨b4 + 1, 0, none⟩)) false ty).run Tryd.prog wr = .ok (.tuple #[.bool false]) wr := fun ty => hrun
        have hfin : ESeen E0 r seen = (EV l clock (proofsL l.at_.length)).filter fun e => decide (valR l e.1 = r) := by
          rw [← HED.out]
          unfold ESeen
          refine List.filter_congr (fun x hx => ?_)
          have h1 : seen.contains x.2.2 = true := by
            have : x ∉ leftE E0 seen := by rw [hnil]; simp
            unfold leftE at this
            simp [hx] at this
            simpa using this
          rw [HED.out] at hx
          rw [h1, (EV_mem HF.out hx).2]
          simp
        rw [hfin] at hMb
        have HMb := Lib.hid hMb
        clear hrun hz hnil hN hfin hMb HLf
        have g0 := hb4.cell 0
        have g1 := hb4.cell 1
        have f0 := q2.frozen 0
        have f1 := q2.frozen 1
        have k0 := q2.cell 0
        have k1 := q2.cell 1
        simp at g0 g1 k0 k1
        gi_wp2
        have d1 := (q2.set (j := 0) (.int .i64 r.num)).set (j := 1) (.int .i64 r.den)
        have hK3 := ((KeepsOthers.setCell wr ⟨w.heap.size + 1, 0, none⟩ (.int .i64 r.num)).trans (KeepsOthers.setCell _ ⟨w.heap.size + 1, 1, none⟩ (.int .i64 r.den))).same D _ hK rfl
        refine ⟨by simp, .inl ⟨_, _, rfl, run_takeDeferred hK3, ?_⟩⟩
        have d1' := d1.put (b := D) (by omega) (.deferred none)
        have g0 := d1'.cell 0
        have g1 := d1'.cell 1
        simp at g0 g1
        refine ⟨qv r, ?_, r, c5, hbest, rfl, ((HMb.out.other (by omega) _).other (by omega) _).put (by omega) _, ?_⟩
        · simp [results, Tryd.results65, go_sem, qv, g0, g1]
        · exact ((hfr.setNew (by omega) 0 _).setNew (by omega) 1 _).putNew (by omega) _
      · obtain ⟨e, he, rfl⟩ := List.mem_map.1 hme
        have hrun' : ∀ ty, (Instr.next (.pointer (some ⟨b4 + 1, 0, none⟩)) false ty).run Tryd.prog wr = .ok (.tuple #[.bool true, pkV e.1, qv e.2.1.1]) (w1'.putObj (b4 + 1) (.mapIter (some M) c5 (seen.push e.2.2) c5)) := fun ty => hrun
        have hBw : Below wr.heap.size wr w1' := by
          rcases hw1 with rfl | rfl
          · exact Below.refl _ _
          · exact (Below.refl _ _).drew
        clear hrun hw1 hme
        have hmem : e ∈ E0 := (List.mem_filter.1 he).1
        have hM1 := (hMb.below hBw).put (b := b4 + 1) (by omega) (.mapIter (some M) c5 (seen.push e.2.2) c5)
        have hit2 : Blk (w1'.putObj (b4 + 1) (.mapIter (some M) c5 (seen.push e.2.2) c5)) (b4 + 1) (.mapIter (some M) c5 (seen.push e.2.2) c5) := World.putObj_heap_same (hit.below hBw).lt
        have hb42 := (hb4.below hBw).put (b := b4 + 1) (by omega) (.mapIter (some M) c5 (seen.push e.2.2) c5)
        have q12 := (q1.below hBw).put (b := b4 + 1) (by omega) (.mapIter (some M) c5 (seen.push e.2.2) c5)
        have q22 := (q2.below hBw).put (b := b4 + 1) (by omega) (.mapIter (some M) c5 (seen.push e.2.2) c5)
        have hK2 := (hK.below hBw).put (b := b4 + 1) (by omega) (.mapIter (some M) c5 (seen.push e.2.2) c5)
        have hfr2 := (hfr.below hBw).putNew (b := b4 + 1) (by omega) (.mapIter (some M) c5 (seen.push e.2.2) c5)
        clear hBw hb4 q1 q2 hK hfr hit hMb
        generalize w1'.putObj (b4 + 1) (.mapIter (some M) c5 (seen.push e.2.2) c5) = w2 at *
        have hent : (Instr.entry (.pointer (some ⟨b4 + 1, 0, none⟩))).run Tryd.prog w2 = .ok (.tuple #[pkV e.1, qv e.2.1.1]) w2 := by
          refine run_entry_at (P := Tryd.prog) w2 (b4 + 1) M c5 seen ((asE (ESeen E0 r seen)).map ent).toArray c5 (entE e) hit2 hM1 ?_ ?_
          · rw [asE_ent]
            refine List.mem_map_of_mem (List.mem_filter.2 ⟨hmem, ?_⟩)
            have := (List.mem_filter.1 he).2
            simp only [Bool.not_eq_true'] at this
            rw [this]; rfl
          · rw [asE_ent]
            show (((ESeen E0 r seen).map entE).map (·.born)).Nodup
            rw [List.map_map]
            exact (List.filter_sublist.map _).nodup hE0
        have hpl := leftE_perm hE0 he
        have hlen2 : (leftE E0 (seen.push e.2.2)).length < (leftE E0 seen).length := by have := hpl.length_eq; simp at this; omega
        have HL2 := Lib.hid hlen2
        clear hlen2 hpl
        have hgd : Tryd.prog.eqGuardType Tryd.prog.depth 31 = false := by kernel_rfl
        have hlW := LatheAt.frM HM.out HL.out hfr2
        obtain ⟨va', ve', bL', _, _⟩ := hlW
        have eM := bL'.cell 2
        have e1 := q12.cell 0
        have g0 := hb42.cell 0
        have g1 := hb42.cell 1
        simp at eM e1 g0 g1
        have hlt2 := hit2.lt
        have n1 : b4 < w2.heap.size := by omega
        have n2 : b4 < w2.heap.size + 1 := by omega
        have n3 : L < w2.heap.size := bL'.lt
        have n4 : L < w2.heap.size + 1 := by omega
        have n5 : w.heap.size < w2.heap.size := q12.lt
        have n6 : w.heap.size < w2.heap.size + 1 := by omega
        unfold qv at hent hrun'
        unfold pkV at hent hrun'
        by_cases hv : e.2.1.1 = r
        · have heq : ∀ w, (Op.equalIn 10000 31 (.agg #[.int .i64 e.2.1.1.num, .int .i64 e.2.1.1.den]) (.agg #[.int .i64 r.num, .int .i64 r.den])).run Tryd.prog w = .ok true w := fun w => by
            have := ratio_eq e.2.1.1 r w
            rwa [decide_eq_true hv] at this
          have HV := Lib.hid hv
          clear hv
          gi_wp2
          have hbb := below2 w2 (.cells #[.int .i64 e.1.f, .int .i64 e.1.m, .int .i64 e.1.t, .int .i64 e.1.s] 45) (.cells #[.int .i64 e.2.1.1.num, .int .i64 e.2.1.1.den] 31)
          have hM3 : Blk ((w2.alloc (.cells #[.int .i64 e.1.f, .int .i64 e.1.m, .int .i64 e.1.t, .int .i64 e.1.s] 45)).alloc (.cells #[.int .i64 e.2.1.1.num, .int .i64 e.2.1.1.den] 31)) M (entsO (asE (ESeen E0 r (seen.push e.2.2))) c5) := by
            rw [ESeen_keep hE0 hmem HV.out]; exact hM1.below hbb
          have hN4 := Lib.hid (leftN_eq hM3 (hit2.below hbb))
          go_roundw
          case rel => exact ⟨seen.push e.2.2, hit2.below hbb, hM3, hb42.below hbb, hfr2.below hbb, q12.below hbb, q22.below hbb, hK2.below hbb⟩
          case measure => rw [hN.out, hN4.out, HLf.out, ESeen_left]; exact HL2.out
        · have heq : ∀ w, (Op.equalIn 10000 31 (.agg #[.int .i64 e.2.1.1.num, .int .i64 e.2.1.1.den]) (.agg #[.int .i64 r.num, .int .i64 r.den])).run Tryd.prog w = .ok false w := fun w => by
            have := ratio_eq e.2.1.1 r w
            rwa [decide_eq_false hv] at this
          gi_wp2
          have hbb := below2 w2 (.cells #[.int .i64 e.1.f, .int .i64 e.1.m, .int .i64 e.1.t, .int .i64 e.1.s] 45) (.cells #[.int .i64 e.2.1.1.num, .int .i64 e.2.1.1.den] 31)
          have b5 := (Blk.new w2 (.cells #[.int .i64 e.1.f, .int .i64 e.1.m, .int .i64 e.1.t, .int .i64 e.1.s] 45)).alloc (.cells #[.int .i64 e.2.1.1.num, .int .i64 e.2.1.1.den] 31)
          have hM3 := hM1.below hbb
          have hit3 := hit2.below hbb
          have hb43 := hb42.below hbb
          have q13 := q12.below hbb
          have q23 := q22.below hbb
          have hK3 := hK2.below hbb
          have hfr3 := hfr2.below hbb
          have bL3 := bL'.below hbb
          obtain ⟨b5n, hb5n⟩ : ∃ b, b = w2.heap.size := ⟨_, rfl⟩
          rw [← hb5n] at b5 ⊢
          clear eM e1 g0 g1 hent hrun' bL' hM1 hit2 hb42 q12 q22 hK2 hfr2 heq
          generalize (w2.alloc (.cells #[.int .i64 e.1.f, .int .i64 e.1.m, .int .i64 e.1.t, .int .i64 e.1.s] 45)).alloc (.cells #[.int .i64 e.2.1.1.num, .int .i64 e.2.1.1.den] 31) = w3' at *
          clear hb5n n1 n2 n3 n4 n5 n6 hlt2
          have eM := bL3.cell 2
          have e1 := q13.cell 0
          have x0 := b5.cell 0
          have x1 := b5.cell 1
          have x2 := b5.cell 2
          have x3 := b5.cell 3
          simp at eM e1 x0 x1 x2 x3
          have gM := fun d os => cell_regrown eM d os
          have g1 := fun d os => cell_regrown e1 d os
          have y0 := fun d os => cell_regrown x0 d os
          have y1 := fun d os => cell_regrown x1 d os
          have y2 := fun d os => cell_regrown x2 d os
          have y3 := fun d os => cell_regrown x3 d os
          clear eM e1 x0 x1 x2 x3
          refine wpIn_wide.2 (wp_region_tail 5 (by kernel_rfl) (by kernel_rfl) ?_)
          repeat (quiet_step (fail))
          refine wpQuiet_nil ?_
          intro _ hw'
          obtain ⟨⟨dq, osq⟩, hw''⟩ := hw'
          subst hw''
          simp only [List.drop_succ_cons, List.drop_zero]
          have hB2 := below_regrown w3' dq osq
          clear gM g1 y0 y1 y2 y3
          generalize grow (redrawn w3' dq) osq = W2 at *
          have hM4 := hM3.below hB2
          have hkn : (keysOf (asE (ESeen E0 r seen))).Nodup := by
            unfold keysOf asE ESeen
            rw [List.map_map]
            exact (List.filter_sublist.map _).nodup hkeys
          have hkm : e.1 ∈ keysOf (asE (ESeen E0 r seen)) := by
            unfold keysOf asE
            rw [List.map_map]
            refine List.mem_map.2 ⟨e, List.mem_filter.2 ⟨hmem, ?_⟩, rfl⟩
            have := (List.mem_filter.1 he).2
            simp only [Bool.not_eq_true'] at this
            rw [this]; rfl
          have hdel := fun ty ts => run_delete_pk hM4 e.1 hkn hkm ty ts
          rw [ESeen_drop hE0 hkeys hmem hv] at hdel
          unfold pkV at hdel
          have hM5 : Blk (W2.putObj M (entsO (asE (ESeen E0 r (seen.push e.2.2))) c5)) M (entsO (asE (ESeen E0 r (seen.push e.2.2))) c5) := World.putObj_heap_same hM4.lt
          have hit5 := (hit3.below hB2).put (b := M) (by omega) (entsO (asE (ESeen E0 r (seen.push e.2.2))) c5)
          have hb45 := (hb43.below hB2).put (b := M) (by omega) (entsO (asE (ESeen E0 r (seen.push e.2.2))) c5)
          have q15 := (q13.below hB2).put (b := M) (by omega) (entsO (asE (ESeen E0 r (seen.push e.2.2))) c5)
          have q25 := (q23.below hB2).put (b := M) (by omega) (entsO (asE (ESeen E0 r (seen.push e.2.2))) c5)
          have hK5 := (hK3.below hB2).put (b := M) (by omega) (entsO (asE (ESeen E0 r (seen.push e.2.2))) c5)
          have hfr5 := (hfr3.below hB2).putM (entsO (asE (ESeen E0 r (seen.push e.2.2))) c5)
          have hN4 := Lib.hid (leftN_eq hM5 hit5)
          clear hkn hkm hM3 hM4 hit3 hb43 q13 q23 hK3 hfr3 bL3 b5
          go_wp2
          go_roundw
          case rel => exact ⟨seen.push e.2.2, hit5, hM5, hb45, hfr5, q15, q25, hK5⟩
          case measure => rw [hN.out, hN4.out, HLf.out, ESeen_left]; exact HL2.out
  case stop =>
    rintro D c pre W _ _ h _
    exact h.elim
end Go.Proofs.YtlhldkiggmlegaaDoor

namespace Go.Proofs.YtlhldkiggmlegaaDoor
open Go.RowKit Go.Sort

/-! ## Best, CheckProof, Turns -/
def bestV (l : LogD) : Rat := (bestBy (fun a b => decide (a < b)) ((proofsL l.at_.length).map (valR l))).getD 0
theorem isBest_eq {l : LogD} {r : Rat} (h : IsBest l r) : bestV l = r := by
  obtain ⟨⟨p, hp, rfl⟩, h2⟩ := h
  have hne : (proofsL l.at_.length).map (valR l) ≠ [] := by intro e; rw [List.map_eq_nil_iff] at e; rw [e] at hp; cases hp
  obtain ⟨r, hr⟩ := bestBy_some (fun a b => decide (a < b)) hne
  obtain ⟨h3, h4⟩ := best_least hr
  unfold bestV
  rw [hr]
  obtain ⟨q, hq, rfl⟩ := List.mem_map.1 h3
  have a := h2 q hq
  have b := h4 _ (List.mem_map_of_mem hp)
  show valR l q = valR l p
  exact Rat.le_antisymm b a
theorem below_frL {w w1 w' : World} {M : Nat} (hb : Below w.heap.size w w1) (hM : w.heap.size ≤ M) (h : FrL w1 M w') : Below w.heap.size w w' :=
  ⟨h.os.trans hb.os, h.tape.trans hb.tape, h.output.trans hb.output, Nat.le_trans hb.size h.size, fun k hk => (h.same k (by have := hb.size; omega) (by omega)).trans (hb.block k hk)⟩
theorem bS2 {w W : World} {b : Nat} {u v : Value} (h : Below w.heap.size w W) (hb : w.heap.size ≤ b) : Below w.heap.size w ((W.setCell ⟨b, 0, none⟩ u).setCell ⟨b, 1, none⟩ v) := (h.setCell hb _).setCell hb _
/-- A fraction with its error. -/
def qe (r : Rat) (e : Int) : Value := .tuple #[if e = 0 then qv r else zq, .int .i64 e]

set_option maxHeartbeats 1000000 in
theorem Best_any (v : Value) (l : LogD) (w : World) (hv : LogAt w v l) (hs : l.small) :
    Calls Tryd.prog 26 #[v] w fun e w' => e = .returned (qe (bestV l) (logErr l)) ∧ Below w.heap.size w w' := by
  obtain ⟨va, ve, rfl, h1, h2⟩ := hv
  obtain ⟨a, cap, rfl⟩ := h1.slice
  obtain ⟨a', cap', rfl⟩ := h2.slice
  have HV : Hid (LogAt w (.agg #[.slice a l.at_.length cap, .slice a' l.edges.length cap']) l) := Lib.hid ⟨_, _, rfl, h1, h2⟩
  have HS := Lib.hid hs
  clear h1 h2 hs
  by_cases h0 : logErr l = 0
  · have H0 := Lib.hid h0
    clear h0
    go_enter Tryd.func26, Tryd.ntmps26
    go_wp2_with fail
    refine (lay_ok _ l _ (HV.out.below (below2 _ _ _)) HS.out H0.out).mono ?_
    rintro e w1 ⟨L, M, clock, rfl, hL, hM, l1, l2, hb1⟩
    have hz1 := hb1.size
    simp at hz1 l1 l2
    have hB1 := after2 hb1
    have bR := (Blk.new (w.alloc (.cells #[.slice a l.at_.length cap, .slice a' l.edges.length cap'] 25)) (.cells #[.int .i64 0, .int .i64 0] 31)).below hb1
    rw [World.size_alloc] at bR
    have HLM := Lib.hid (And.intro hL hM)
    clear hL hM hb1
    go_wp2_with fail
    refine (best_any L M clock l _ HLM.out.1 (placesErr_zero H0.out) HLM.out.2).mono ?_
    rintro e w2 ⟨r, c', hr, rfl, hM2, hfr⟩
    have bR2 := bR.fr hfr (by omega)
    have r0 := bR2.cell 0
    have r1 := bR2.cell 1
    have f0 := bR2.frozen 0
    have f1 := bR2.frozen 1
    simp at r0 r1
    have HR := Lib.hid hr
    have HF := Lib.hid hfr
    have hlt := bR2.lt
    clear hr hM2 hfr
    unfold qv
    go_wp2
    refine bodyPost_ret (v := .tuple #[qv r, .int .i64 0]) (by simp [results, Tryd.results26, go_sem, qv, r0, r1]) rfl ⟨by rw [H0.out, qe, if_pos rfl, isBest_eq HR.out], ?_⟩
    exact bS2 (below_frL hB1 (by omega) HF.out) (by omega)
  · have h0' : (logErr l != 0) = true := by simp [h0]
    have H0 := Lib.hid h0
    clear h0
    go_enter Tryd.func26, Tryd.ntmps26
    go_wp2_with fail
    refine (lay_err _ l _ (HV.out.below (below2 _ _ _)) HS.out H0.out).mono ?_
    rintro e w1 ⟨rfl, hb1⟩
    have hz1 := hb1.size
    simp at hz1
    have hB1 := after2 hb1
    have bR := (Blk.new (w.alloc (.cells #[.slice a l.at_.length cap, .slice a' l.edges.length cap'] 25)) (.cells #[.int .i64 0, .int .i64 0] 31)).below hb1
    rw [World.size_alloc] at bR
    have r0 := bR.cell 0
    have r1 := bR.cell 1
    have f0 := bR.frozen 0
    have f1 := bR.frozen 1
    simp at r0 r1
    clear hb1
    go_wp2
    refine bodyPost_ret (v := .tuple #[zq, .int .i64 (logErr l)]) (by simp [results, Tryd.results26, go_sem, r0, r1]) rfl ⟨by rw [qe, if_neg H0.out], ?_⟩
    exact bS2 hB1 (by omega)

theorem mem_proofs {n : Nat} {p : PK} (h : Shaped n p.f p.m p.t p.s) : p ∈ proofsL n := by
  obtain ⟨f, m, t, s⟩ := p
  obtain ⟨h1, h2, h3, h4, h5⟩ := h
  simp only at h1 h2 h3 h4 h5
  obtain ⟨f, rfl⟩ := Int.eq_ofNat_of_zero_le h1
  obtain ⟨m, rfl⟩ := Int.eq_ofNat_of_zero_le (Int.le_trans h1 h2)
  obtain ⟨t, rfl⟩ := Int.eq_ofNat_of_zero_le (Int.le_trans h1 (Int.le_trans h2 h3))
  unfold proofsL
  rcases h5 with ⟨rfl, e1, e2⟩ | ⟨hs, e1, e2⟩
  · refine List.mem_append_left _ (List.mem_map.2 ⟨f, List.mem_range.2 (by omega), ?_⟩)
    simp only [single, PK.mk.injEq]
    exact ⟨trivial, e1, by omega, trivial⟩
  · refine List.mem_append_right _ (List.mem_flatMap.2 ⟨t, List.mem_range.2 (by omega), List.mem_flatMap.2 ⟨m, List.mem_range.2 (by omega), List.mem_flatMap.2 ⟨f, List.mem_range.2 (by omega), ?_⟩⟩⟩)
    rcases hs with rfl | rfl <;> simp [tri3]
theorem of_mem_proofs {n : Nat} {p : PK} (h : p ∈ proofsL n) : Shaped n p.f p.m p.t p.s := by
  obtain ⟨h1, h2, h3, h4, h5⟩ := shaped_proofs h
  exact ⟨h1, h2, h3, h4, h5⟩
open Classical in
noncomputable def cpE (l : LogD) (p : PK) : Int := if logErr l ≠ 0 then logErr l else if Shaped l.at_.length p.f p.m p.t p.s then 0 else 2

set_option maxRecDepth 100000 in
set_option maxHeartbeats 1000000 in
theorem CheckProof_any (v : Value) (l : LogD) (p : PK) (w : World) (hG : NoneAt w) (hv : LogAt w v l) (hs : l.small) :
    Calls Tryd.prog 31 #[v, pkV p] w fun e w' => e = .returned (qe (valR l p) (cpE l p)) ∧ Below w.heap.size w w' := by
  obtain ⟨va, ve, rfl, h1, h2⟩ := hv
  obtain ⟨a, cap, rfl⟩ := h1.slice
  obtain ⟨a', cap', rfl⟩ := h2.slice
  have HV : Hid (LogAt w (.agg #[.slice a l.at_.length cap, .slice a' l.edges.length cap']) l) := Lib.hid ⟨_, _, rfl, h1, h2⟩
  have HS := Lib.hid hs
  have HG := Lib.hid hG
  clear h1 h2 hs hG
  unfold pkV
  by_cases h0 : logErr l = 0
  · have H0 := Lib.hid h0
    clear h0
    go_enter Tryd.func31, Tryd.ntmps31
    go_wp2_with fail
    refine (lay_ok _ l _ (HV.out.below (below3 _ _ _ _)) HS.out H0.out).mono ?_
    rintro e w1 ⟨L, M, clock, rfl, hL, hM, l1, l2, hb1⟩
    have hz1 := hb1.size
    simp at hz1 l1 l2
    have hB1 := after3 hb1
    have bP := ((Blk.new (w.alloc (.cells #[.slice a l.at_.length cap, .slice a' l.edges.length cap'] 25)) (.cells #[.int .i64 p.f, .int .i64 p.m, .int .i64 p.t, .int .i64 p.s] 45)).alloc (.cells #[.int .i64 0, .int .i64 0] 31)).below hb1
    have bR := (Blk.new ((w.alloc (.cells #[.slice a l.at_.length cap, .slice a' l.edges.length cap'] 25)).alloc (.cells #[.int .i64 p.f, .int .i64 p.m, .int .i64 p.t, .int .i64 p.s] 45)) (.cells #[.int .i64 0, .int .i64 0] 31)).below hb1
    rw [World.size_alloc] at bP
    rw [World.size_alloc, World.size_alloc] at bR
    have HL := Lib.hid hL
    have hG1 := HG.out.below hB1
    have h8 : l.at_.length ≤ 8 := (placesErr_zero H0.out).eight
    clear hL hM hb1
    have hgd : Tryd.prog.eqGuardType Tryd.prog.depth 102 = false := by kernel_rfl
    obtain ⟨n0, n1, n2⟩ := hG1
    have p0 := bP.cell 0
    have p1 := bP.cell 1
    have p2 := bP.cell 2
    have p3 := bP.cell 3
    simp at p0 p1 p2 p3
    have k0 := fun d os => cell_regrown p0 d os
    have k1 := fun d os => cell_regrown p1 d os
    have k2 := fun d os => cell_regrown p2 d os
    have k3 := fun d os => cell_regrown p3 d os
    have m0 := fun d os => cell_regrown n0 d os
    have m1 := fun d os => cell_regrown n1 d os
    have m2 := fun d os => cell_regrown n2 d os
    by_cases hsh : Shaped l.at_.length p.f p.m p.t p.s
    · have hcall := fun (d : Nat) (os : Array Obj) => Calls.regrown_of (places_yes L M p.f p.m p.t p.s l (grow (redrawn w1 d) os) (NoneAt.below ⟨n0, n1, n2⟩ (below_regrown w1 d os)) (HL.out.below (below_regrown w1 d os)) h8 hsh)
      have hea : ∀ w, (Op.equalIn 10000 102 (.agg #[.int .i64 p.f, .int .i64 p.m, .int .i64 p.t]) (.agg #[.int .i64 (-1), .int .i64 (-1), .int .i64 (-1)])).run Tryd.prog w = .ok false w := fun w => by
        have h := arr3_eq p.f p.m p.t (-1) (-1) (-1) 9998 w
        have hne : (p.f == -1) = false := by have := hsh.f0; simp; omega
        rw [hne] at h
        exact h
      have hE : cpE l p = 0 := by unfold cpE; rw [if_neg (by simp [H0.out]), if_pos hsh]
      have HE := Lib.hid hE
      have HSH := Lib.hid hsh
      clear hsh hE p0 p1 p2 p3 n0 n1 n2
      go_upto_region 4 with (fail)
      refine wp_region_quiet_below (by kernel_rfl) (by kernel_rfl) ?_
      repeat (quiet_step (exact hcall _ _))
      refine wpQuiet_nil ?_
      intro _ hw'
      obtain ⟨⟨dq, osq⟩, hw''⟩ := hw'
      subst hw''
      have hB2 := below_regrown w1 dq osq
      clear k0 k1 k2 k3 m0 m1 m2 hcall
      generalize grow (redrawn w1 dq) osq = w2 at *
      have bP2 := bP.below hB2
      have bR2 := bR.below hB2
      have p0 := bP2.cell 0
      have p1 := bP2.cell 1
      have p2 := bP2.cell 2
      have p3 := bP2.cell 3
      simp at p0 p1 p2 p3
      go_wp2_with fail
      refine (proves_pk L M l p _ (HL.out.below hB2) (placesErr_zero H0.out) (mem_proofs HSH.out)).mono ?_
      rintro e w3 ⟨rfl, hb3⟩
      have bR3 := bR2.below hb3
      have r0 := bR3.cell 0
      have r1 := bR3.cell 1
      have f0 := bR3.frozen 0
      have f1 := bR3.frozen 1
      simp at r0 r1
      have HB3 := Lib.hid hb3
      have hlt := bR3.lt
      clear p0 p1 p2 p3 hb3
      go_wp2
      refine bodyPost_ret (v := .tuple #[qv (valR l p), .int .i64 0]) (by simp [results, Tryd.results31, go_sem, qv, r0, r1]) rfl ⟨by rw [HE.out, qe, if_pos rfl], ?_⟩
      exact bS2 ((hB1.trans (hB2.mono hB1.size)).trans (HB3.out.mono (Nat.le_trans hB1.size hB2.size))) (by omega)
    · have hcall := fun (d : Nat) (os : Array Obj) => Calls.regrown_of (places_no L M p.f p.m p.t p.s l (grow (redrawn w1 d) os) (NoneAt.below ⟨n0, n1, n2⟩ (below_regrown w1 d os)) (HL.out.below (below_regrown w1 d os)) h8 hsh)
      have hea : ∀ w, (Op.equalIn 10000 102 (.agg #[.int .i64 (-1), .int .i64 (-1), .int .i64 (-1)]) (.agg #[.int .i64 (-1), .int .i64 (-1), .int .i64 (-1)])).run Tryd.prog w = .ok true w := fun w => arr3_eq (-1) (-1) (-1) (-1) (-1) (-1) 9998 w
      have hE : cpE l p = 2 := by unfold cpE; rw [if_neg (by simp [H0.out]), if_neg hsh]
      have HE := Lib.hid hE
      clear hsh hE p0 p1 p2 p3 n0 n1 n2
      go_upto_region 4 with (fail)
      refine wp_region_quiet_below (by kernel_rfl) (by kernel_rfl) ?_
      repeat (quiet_step (exact hcall _ _))
      refine wpQuiet_nil ?_
      intro _ hw'
      obtain ⟨⟨dq, osq⟩, hw''⟩ := hw'
      subst hw''
      have hB2 := below_regrown w1 dq osq
      clear k0 k1 k2 k3 m0 m1 m2 hcall
      generalize grow (redrawn w1 dq) osq = w2 at *
      have bR3 := bR.below hB2
      have r0 := bR3.cell 0
      have r1 := bR3.cell 1
      have f0 := bR3.frozen 0
      have f1 := bR3.frozen 1
      simp at r0 r1
      go_wp2
      refine bodyPost_ret (v := .tuple #[zq, .int .i64 2]) (by simp [results, Tryd.results31, go_sem, r0, r1]) rfl ⟨by rw [HE.out, qe, if_neg (by decide)], ?_⟩
      exact bS2 (hB1.trans (hB2.mono hB1.size)) (by omega)
  · have h0' : (logErr l != 0) = true := by simp [h0]
    have H0 := Lib.hid h0
    clear h0
    go_enter Tryd.func31, Tryd.ntmps31
    go_wp2_with fail
    refine (lay_err _ l _ (HV.out.below (below3 _ _ _ _)) HS.out H0.out).mono ?_
    rintro e w1 ⟨rfl, hb1⟩
    have hz1 := hb1.size
    simp at hz1
    have hB1 := after3 hb1
    have bR := (Blk.new ((w.alloc (.cells #[.slice a l.at_.length cap, .slice a' l.edges.length cap'] 25)).alloc (.cells #[.int .i64 p.f, .int .i64 p.m, .int .i64 p.t, .int .i64 p.s] 45)) (.cells #[.int .i64 0, .int .i64 0] 31)).below hb1
    rw [World.size_alloc, World.size_alloc] at bR
    have r0 := bR.cell 0
    have r1 := bR.cell 1
    have f0 := bR.frozen 0
    have f1 := bR.frozen 1
    simp at r0 r1
    clear hb1
    go_wp2
    have hE : cpE l p = logErr l := by unfold cpE; rw [if_pos H0.out]
    refine bodyPost_ret (v := .tuple #[zq, .int .i64 (logErr l)]) (by simp [results, Tryd.results31, go_sem, r0, r1]) rfl ⟨by rw [hE, qe, if_neg H0.out], ?_⟩
    exact bS2 hB1 (by omega)
end Go.Proofs.YtlhldkiggmlegaaDoor

namespace Go.Proofs.YtlhldkiggmlegaaDoor
open Go.RowKit Go.Sort

/-! ## Turns -/
theorem sub_int (r : Rat) (n : Int) : (r - (n : Rat)).num = r.num - n * r.den ∧ (r - (n : Rat)).den = r.den := by
  have h : r - (n : Rat) = mkRat (r.num - n * r.den) r.den := by
    rw [Rat.sub_def']; simp
  have hg : Nat.gcd r.den (r.num - n * r.den).natAbs = 1 := by
    have h1 : Int.gcd (r.num - n * r.den) r.den = Int.gcd r.num r.den := by
      rw [Int.sub_eq_add_neg, ← Int.neg_mul]; simp
    have h2 : Int.gcd r.num r.den = 1 := by
      have := r.reduced
      simpa [Int.gcd, Nat.Coprime] using this
    rw [Nat.gcd_comm]
    have := h1.trans h2
    simpa [Int.gcd] using this
  rw [h, Rat.num_mkRat, Rat.den_mkRat, if_neg r.den_nz, if_neg r.den_nz, hg]
  simp
theorem valR_fr {l : LogD} (hf : Fit l.at_ [l.edges]) {p : PK} (hp : p ∈ proofsL l.at_.length) : ∃ D : Nat, 0 < D ∧ D ≤ 200 ∧ Fr D 20200000 (valR l p) := by
  obtain ⟨f, m, t, s⟩ := p
  obtain ⟨h1, h2, h3, h4, h5⟩ := shaped_proofs hp
  simp only at h1 h2 h3 h4 h5
  obtain ⟨f, rfl⟩ := Int.eq_ofNat_of_zero_le h1
  obtain ⟨m, rfl⟩ := Int.eq_ofNat_of_zero_le (Int.le_trans h1 h2)
  obtain ⟨t, rfl⟩ := Int.eq_ofNat_of_zero_le (Int.le_trans h1 (Int.le_trans h2 h3))
  have hlen := hf.lens _ (List.mem_singleton.2 rfl)
  have hedge : ∀ k, k < l.edges.length → -1000 ≤ loD l k ∧ loD l k ≤ 1000 ∧ -1000 ≤ hiD l k ∧ hiD l k ≤ 1000 := by
    intro k hk
    obtain ⟨y1, y2, y3⟩ := okEdges_get (hf.edges _ (List.mem_singleton.2 rfl)) k hk
    rw [loD_eq hk, hiD_eq hk] at *
    omega
  have hats : ∀ k, k < l.at_.length → 0 ≤ atD l k ∧ atD l k ≤ 100 := by
    intro k hk
    obtain ⟨x1, x2⟩ := okInts_get hf.ats k hk
    rw [atD_eq hk] at *
    omega
  obtain ⟨m1, m2, m3, m4⟩ := hedge m (by omega)
  obtain ⟨f1, f2, f3, f4⟩ := hedge f (by omega)
  obtain ⟨t1, t2, t3, t4⟩ := hedge t (by omega)
  obtain ⟨am1, am2⟩ := hats m (by omega)
  obtain ⟨af1, af2⟩ := hats f (by omega)
  obtain ⟨at1, at2⟩ := hats t (by omega)
  have fin : ∀ (D : Nat) (r : Rat), 0 < D → D ≤ 100 → Fr D 202000 r → ∃ D : Nat, 0 < D ∧ D ≤ 200 ∧ Fr D 20200000 (half r) := by
    intro D r h0 h1 hr
    unfold half
    have := hr.part (n := 1) (d := 2) (by omega) (by omega) (by omega) (by omega)
    rw [show (2 : Int).toNat = 2 from rfl] at this
    exact ⟨D * 2, by omega, by omega, this⟩
  unfold valR provesV
  simp only [Int.toNat_natCast]
  split
  · have hlt := strict_at hf (i := f) (j := t) (by omega) (by omega)
    obtain ⟨_, e2⟩ := line_fr (a := atD l f) (b := atD l t) (x := atD l m) f1 f2 t1 t2 (by omega) (by omega) (by omega)
    exact fin (1 * (atD l t - atD l f).toNat) _ (by omega) (by omega) (((fr_int m3 m4 (atD l t - atD l f).toNat (by omega)).sub e2).mono (by omega))
  · split
    · have hlt := strict_at hf (i := f) (j := t) (by omega) (by omega)
      obtain ⟨_, e2⟩ := line_fr (a := atD l f) (b := atD l t) (x := atD l m) f3 f4 t3 t4 (by omega) (by omega) (by omega)
      exact fin (1 * (atD l t - atD l f).toNat) _ (by omega) (by omega) ((e2.sub (fr_int m1 m2 (atD l t - atD l f).toNat (by omega))).mono (by omega))
    · exact fin 1 _ (by omega) (by omega) (((Fr.int (D := 1) m3 m4 (by omega)).sub (Fr.int (D := 1) (M := 1000) m1 m2 (by omega))).mono (by omega))
/-- The best core of a valid log is a small fraction. -/
theorem best_small {l : LogD} (hf : Fit l.at_ [l.edges]) {r : Rat} (h : IsBest l r) : Fine r ∧ r.den ≤ 200 ∧ -4040000000 ≤ r.num ∧ r.num ≤ 4040000000 := by
  obtain ⟨⟨p, hp, rfl⟩, _⟩ := h
  obtain ⟨D, h1, h2, h3⟩ := valR_fr hf hp
  refine ⟨valR_fine hf hp, Nat.le_trans (h3.dens h1) h2, ?_⟩
  obtain ⟨k, hk, k1, k2⟩ := h3
  rw [hk, ← Rat.mkRat_eq_div]
  obtain ⟨b1, b2, _⟩ := mkRat_bd k D h1
  have hD : (20200000 : Int) * (D : Int) ≤ 20200000 * 200 := Int.mul_le_mul_of_nonneg_left (by omega) (by omega)
  omega

theorem below_of3 {w w3 w4 w5 : World} (h : Below w.heap.size w w3) (h4 : Below w3.heap.size w3 w4) (h5 : Below w4.heap.size w4 w5) : Below w.heap.size w w5 :=
  (h.trans (h4.mono h.size)).trans (h5.mono (Nat.le_trans h.size h4.size))
def turnsE (l : LogD) (spindle sheet : Int) : Int :=
  if logErr l ≠ 0 then logErr l else if spindle < 0 ∨ 1000 < spindle ∨ sheet < 1 ∨ 1000 < sheet then 3 else if (bestV l).num - spindle * (bestV l).den < 0 then 17 else 0
def turnsV (l : LogD) (spindle sheet : Int) : Int := if turnsE l spindle sheet = 0 then ((bestV l).num - spindle * (bestV l).den) / ((bestV l).den * sheet) else 0

set_option maxRecDepth 100000 in
set_option maxHeartbeats 1000000 in
theorem Turns_any (v : Value) (l : LogD) (spindle sheet : Int) (w : World) (hv : LogAt w v l) (hs : l.small) :
    Calls Tryd.prog 29 #[v, .int .i64 spindle, .int .i64 sheet] w fun e w' => e = .returned (.tuple #[.int .i64 (turnsV l spindle sheet), .int .i64 (turnsE l spindle sheet)]) ∧ Below w.heap.size w w' := by
  obtain ⟨va, ve, rfl, h1, h2⟩ := hv
  obtain ⟨a, cap, rfl⟩ := h1.slice
  obtain ⟨a', cap', rfl⟩ := h2.slice
  have HV : Hid (LogAt w (.agg #[.slice a l.at_.length cap, .slice a' l.edges.length cap']) l) := Lib.hid ⟨_, _, rfl, h1, h2⟩
  have HS := Lib.hid hs
  clear h1 h2 hs
  by_cases h0 : logErr l = 0
  · have H0 := Lib.hid h0
    clear h0
    go_enter Tryd.func29, Tryd.ntmps29
    go_wp2_with fail
    refine (lay_ok _ l _ (HV.out.below (below1 _ _)) HS.out H0.out).mono ?_
    rintro e w1 ⟨L, M, clock, rfl, hL, hM, l1, l2, hb1⟩
    have hz1 := hb1.size
    simp at hz1 l1 l2
    have hB1 := after1 hb1
    have HLM := Lib.hid (And.intro hL hM)
    clear hL hM hb1
    by_cases hs1 : 0 ≤ spindle ∧ spindle ≤ 1000
    · have k1 : okInts 0 1000 [spindle] = true := by simp [okInts]; omega
      by_cases hs2 : 1 ≤ sheet ∧ sheet ≤ 1000
      · have k2 : okInts 1 1000 [sheet] = true := by simp [okInts]; omega
        have K1 := Lib.hid k1
        have K2 := Lib.hid k2
        clear k1 k2
        go_wp2_with fail
        refine (within_any 0 1000 _ [spindle] _ (IntsAt.mk1 (by go_simp)) (by simp)).mono ?_
        rintro e w2 ⟨rfl, rfl⟩
        rw [K1.out]
        go_wp2_with fail
        refine (within_any 1 1000 _ [sheet] _ (IntsAt.mk1 (by go_simp)) (by simp)).mono ?_
        rintro e w2 ⟨rfl, rfl⟩
        rw [K2.out]
        have hB2 := hB1.trans ((below2 w1 (.cells #[.int .i64 spindle] 2) (.cells #[.int .i64 sheet] 2)).mono hB1.size)
        have HLM2 := Lib.hid (And.intro (HLM.out.1.below (below2 w1 (.cells #[.int .i64 spindle] 2) (.cells #[.int .i64 sheet] 2))) (HLM.out.2.below (below2 w1 (.cells #[.int .i64 spindle] 2) (.cells #[.int .i64 sheet] 2))))
        have hz2 : w1.heap.size ≤ ((w1.alloc (.cells #[.int .i64 spindle] 2)).alloc (.cells #[.int .i64 sheet] 2)).heap.size := by simp; omega
        generalize (w1.alloc (.cells #[.int .i64 spindle] 2)).alloc (.cells #[.int .i64 sheet] 2) = w2 at *
        go_wp2_with fail
        refine (best_any L M clock l _ HLM2.out.1 (placesErr_zero H0.out) HLM2.out.2).mono ?_
        rintro e w3 ⟨r, c', hr, rfl, hM2, hfr⟩
        have HR := Lib.hid hr
        have HFR := Lib.hid hfr
        obtain ⟨x1, x2, x3, x4⟩ := best_small (placesErr_zero H0.out) hr
        have X1 := Lib.hid x1
        clear hr hM2 hfr x1
        go_wp2_with fail
        refine (whole_any spindle _).mono ?_
        rintro e w4 ⟨rfl, hb4⟩
        go_wp2_with fail
        refine (minus_any r spindle _ X1.out (fine_int (by omega) (by omega))).mono ?_
        rintro e w5 ⟨rfl, hb5⟩
        obtain ⟨y1, y2⟩ := sub_int r spindle
        unfold qv
        rw [y1, y2]
        have HY := Lib.hid (below_frL hB2 (by omega) HFR.out)
        clear y1 y2
        have hd := r.den_pos
        have hm1 : -200000 ≤ spindle * (r.den : Int) ∧ spindle * (r.den : Int) ≤ 200000 := by
          have := mul_bd spindle (r.den : Int) 1000 200 (by omega) (by omega) (by omega) (by omega) (by omega)
          omega
        obtain ⟨m1, m2⟩ := hm1
        have hm3 : 0 < (r.den : Int) * sheet ∧ (r.den : Int) * sheet ≤ 200000 := by
          have := mul_bd (r.den : Int) sheet 200 1000 (by omega) (by omega) (by omega) (by omega) (by omega)
          have h0 : 0 < (r.den : Int) * sheet := Int.mul_pos (by omega) (by omega)
          omega
        obtain ⟨m3, m4⟩ := hm3
        have hE0 : turnsE l spindle sheet = if r.num - spindle * (r.den : Int) < 0 then 17 else 0 := by
          unfold turnsE
          rw [if_neg (by simp [H0.out]), if_neg (by omega), isBest_eq HR.out]
        by_cases hneg : r.num - spindle * (r.den : Int) < 0
        · rw [if_pos hneg] at hE0
          have hV : turnsV l spindle sheet = 0 := by unfold turnsV; rw [if_neg (by rw [hE0]; decide)]
          have HEV := Lib.hid (And.intro hE0 hV)
          have hdec : decide (r.num - spindle * (r.den : Int) < 0) = true := by simpa using hneg
          clear hE0 hV
          go_wp2
          go_ret2
          exact ⟨by rw [HEV.out.1, HEV.out.2]; rfl, bA (below_of3 HY.out hb4 hb5)⟩
        · rw [if_neg hneg] at hE0
          have hV : turnsV l spindle sheet = (r.num - spindle * (r.den : Int)) / ((r.den : Int) * sheet) := by unfold turnsV; rw [if_pos hE0, isBest_eq HR.out]
          have HEV := Lib.hid (And.intro hE0 hV)
          have hdec : decide (r.num - spindle * (r.den : Int) < 0) = false := by simpa using hneg
          clear hE0 hV
          go_wp2
          go_ret2
          exact ⟨by rw [HEV.out.1, HEV.out.2]; rfl, bA (below_of3 HY.out hb4 hb5)⟩
      · have k2 : okInts 1 1000 [sheet] = false := by simp [okInts]; omega
        have K1 := Lib.hid k1
        have K2 := Lib.hid k2
        have hE : turnsE l spindle sheet = 3 := by unfold turnsE; rw [if_neg (by simp [H0.out]), if_pos (by omega)]
        have hV : turnsV l spindle sheet = 0 := by unfold turnsV; rw [if_neg (by rw [hE]; decide)]
        have HEV := Lib.hid (And.intro hE hV)
        clear k1 k2 hE hV
        go_wp2_with fail
        refine (within_any 0 1000 _ [spindle] _ (IntsAt.mk1 (by go_simp)) (by simp)).mono ?_
        rintro e w2 ⟨rfl, rfl⟩
        rw [K1.out]
        go_wp2_with fail
        refine (within_any 1 1000 _ [sheet] _ (IntsAt.mk1 (by go_simp)) (by simp)).mono ?_
        rintro e w2 ⟨rfl, rfl⟩
        rw [K2.out]
        go_wp2
        go_ret2
        exact ⟨by rw [HEV.out.1, HEV.out.2]; rfl, hB1.trans ((below2 w1 _ _).mono hB1.size)⟩
    · have k1 : okInts 0 1000 [spindle] = false := by simp [okInts]; omega
      have K1 := Lib.hid k1
      have hE : turnsE l spindle sheet = 3 := by unfold turnsE; rw [if_neg (by simp [H0.out]), if_pos (by omega)]
      have hV : turnsV l spindle sheet = 0 := by unfold turnsV; rw [if_neg (by rw [hE]; decide)]
      have HEV := Lib.hid (And.intro hE hV)
      clear k1 hE hV
      go_wp2_with fail
      refine (within_any 0 1000 _ [spindle] _ (IntsAt.mk1 (by go_simp)) (by simp)).mono ?_
      rintro e w2 ⟨rfl, rfl⟩
      rw [K1.out]
      go_wp2
      go_ret2
      exact ⟨by rw [HEV.out.1, HEV.out.2]; rfl, hB1.trans ((below1 w1 _).mono hB1.size)⟩
  · have h0' : (logErr l != 0) = true := by simp [h0]
    have H0 := Lib.hid h0
    clear h0
    go_enter Tryd.func29, Tryd.ntmps29
    go_wp2_with fail
    refine (lay_err _ l _ (HV.out.below (below1 _ _)) HS.out H0.out).mono ?_
    rintro e w1 ⟨rfl, hb1⟩
    have hz1 := hb1.size
    simp at hz1
    have hB1 := after1 hb1
    have hE : turnsE l spindle sheet = logErr l := by unfold turnsE; rw [if_pos H0.out]
    have hV : turnsV l spindle sheet = 0 := by unfold turnsV; rw [if_neg (by rw [hE]; exact H0.out)]
    have HEV := Lib.hid (And.intro hE hV)
    clear hb1 hE hV
    go_wp2
    go_ret2
    exact ⟨by rw [HEV.out.1, HEV.out.2]; rfl, hB1⟩
end Go.Proofs.YtlhldkiggmlegaaDoor
