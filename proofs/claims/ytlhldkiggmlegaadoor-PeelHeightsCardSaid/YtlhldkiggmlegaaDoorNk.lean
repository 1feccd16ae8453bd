import Derived.Test.YtlhldkiggmlegaaDoorNg
import Derived.Test.YtlhldkiggmlegaaDoorNi
import Derived.Test.YtlhldkiggmlegaaDoorNe
namespace Go.Proofs.YtlhldkiggmlegaaDoor
open Go.RowKit
/-! ## A range over a function that tells of what it yields where it lies -/
/-- The iterator yields elements of which G holds where they are yielded; no round leaves early. -/
def Gives {α : Type} (n : Nat) (P : Program) (g : Nat) (lb : Array Value) (encs : α → Array Value) (Kp : World → World → Prop) (G : List α → α → World → Prop) (S : List α → Prop) (w : World) : Prop :=
  ∀ (l : Nat) (J : List α → World → Prop) (W : World), Below w.heap.size w W → AbidesFrom W.heap.size J →
    (∀ pre x W1, G pre x W1 → J pre W1 → YieldAt Fence.wide (n - 1) P l (encs x) W1 fun e W' => e = .returned (.bool true) ∧ J (pre ++ [x]) W' ∧ Kp W1 W') →
    J [] W →
    CallsIn Fence.wide n P g (#[.func (.yield l) #[] #[]] ++ lb) W fun e W' => (∃ v, e = .returned v) ∧ ∃ xs, S xs ∧ J xs W'

theorem wpIn_range_gives {α : Type} {n : Nat} {P : Program} {gop : Operand} {ps : Array Tmp} {assign body : Code} {Q : Exit → Act → World → Prop} {a : Act} {w : World}
    {gf : Nat} {lb : Array Value} (hg : a.eval gop = .func (.func gf) #[] lb) (eg : ∀ args w, (callFunc gf args).run P w = .ok (.enter gf args) w)
    {encs : α → Array Value} {Kp : World → World → Prop} {G : List α → α → World → Prop} {S : List α → Prop} (hseq : Gives (n - 1) P gf lb encs Kp G S w)
    (hKt : ∀ {A B C : World}, Kp A B → Kp B C → Kp A C) (hKb : ∀ (W : World) (l : Nat) (o o' : Obj), w.heap.size ≤ l → W.heap[l]? = some o → o.isCells = false → o.isWalk = false → Kp W (W.putObj l o'))
    (hps : ∀ x, (encs x).size = ps.size) (I : List α → World → Prop) (hI : OwnFrom w.heap.size I) (hG : ∀ pre x, OwnFrom w.heap.size (fun (_ : Unit) W => G pre x W)) (h0 : I [] w) (a₁ : α → Act)
    (hassign : ∀ (l : Nat) (x : α) (W : World) (K : Act → World → Prop), K (a₁ x) W →
      assign.wpIn (Fence.wide.inRound l) (n - 1 - 1) P (Exit.then K (fun _ _ _ => False)) { tmps := (ps.zip (encs x)).foldl (fun t (p, v) => t.setIfInBounds p v) a.tmps, defers := [] } W)
    (hbody : ∀ (l : Nat) (pre : List α) (x : α) (W : World), G pre x W → I pre W →
      body.wpIn (Fence.wide.inRound l) (n - 1 - 1) P (Exit.then (fun _ W' => KeepsFrom w.heap.size W W' ∧ Kp W W' ∧ I (pre ++ [x]) W') (fun _ _ _ => False)) (a₁ x) W)
    (hdone : ∀ (D : Nat) (xs : List α) (W : World), w.heap.size ≤ D → S xs → I xs W → W.heap[D]? = some (.deferred (some [])) → Q .normal { a with defers := { target := .collected D, args := #[] } :: a.defers } W) :
    (Code.rangeFunc gop ps assign body).wpIn Fence.wide n P Q a w := by
  refine wpIn_rangeFunc ?_
  intro fn _
  generalize hD : w.heap.size = D at *
  obtain ⟨rec, hrec⟩ : ∃ rec : LoopState → Loop, ∀ st, rec st = { state := st, pending := none, fn, tmps := a.tmps, params := ps, assign, body, defers := D } := ⟨_, fun _ => rfl⟩
  obtain ⟨W1, hW1⟩ : ∃ W1, (w.alloc (.deferred (some []))).alloc (.loop (rec .ready)) = W1 := ⟨_, rfl⟩
  have hz1 : W1.heap.size = D + 2 := by rw [← hW1, ← hD]; simp
  have hL1 : W1.heap[D + 1]? = some (.loop (rec .ready)) := by
    have := World.alloc_heap_new (w.alloc (.deferred (some []))) (.loop (rec .ready))
    rwa [World.size_alloc, hD, hW1] at this
  have hK1 : W1.heap[D]? = some (.deferred (some [])) := by
    rw [← hW1, ← hD]; exact (Below.heap_alloc _ _ _ (by simp)).trans (World.alloc_heap_new w _)
  have hI1 : I [] W1 := by rw [← hW1]; exact hI.alloc _ (hI.alloc _ h0)
  have hb1 : Below w.heap.size w W1 := by rw [← hW1]; exact below2 _ _ _
  refine ⟨D + 1, [{ target := .collected D, args := #[] }], W1, { target := .fn (.func gf) lb, args := #[.func (.yield (D + 1)) #[] #[]] }, W1, gf, #[.func (.yield (D + 1)) #[] #[]] ++ lb, W1, ?_, ?_, fun _ _ => trivial, ?_, fun h => by simp [Fence.wide] at h, ?_⟩
  · show (Instr.enterLoop fn a.tmps ps assign body none).run P w = _
    rw [run_enterLoop_outer, ← hW1, hrec, hD]
  · simp only [resolve, hg]
    simp [go_sem]
  · simp [invoke, go_sem, eg]
  -- a block of the loop's own book-keeping is turned
  have own : ∀ {X Y : World} {row : Option Nat}, (∀ r, row = some r → W1.heap.size ≤ r ∧ ∃ o : Obj, X.heap[r]? = some o ∧ o.isWalk = true) → ∀ r, row = some r → D ≤ r ∧ ∃ o : Obj, X.heap[r]? = some o ∧ o.isCells = false := by
    intro X Y row hr r e
    obtain ⟨h1, o, h2, h3⟩ := hr r e
    exact ⟨by omega, o, h2, Obj.not_cells_of_walk h3⟩
  refine (hseq (D + 1) (fun pre W => I pre W ∧ W.heap[D + 1]? = some (.loop (rec .ready)) ∧ W.heap[D]? = some (.deferred (some []))) W1 hb1 ?_ ?_ ⟨hI1, hL1, hK1⟩).mono ?_
  · intro s X Y row hs hgr hr
    have keep := fun {k : Nat} {o : Obj} (h : X.heap[k]? = some o) (hw : o.isWalk = false) => (grownBy_keeps hgr (fun r e => (hr r e).2) h hw).trans h
    exact ⟨hI s X Y row hs.1 hgr (own (Y := Y) hr), keep hs.2.1 rfl, keep hs.2.2 rfl⟩
  · rintro pre x W hGx ⟨hi, hl, hk⟩
    have hlt : D + 1 < W.heap.size := (Array.getElem?_eq_some_iff.1 hl).1
    have hy := run_yield (P := P) (args := encs x) hl (by rw [hrec]; exact hps x)
    rw [hrec] at hy
    refine ⟨fn, _, assign, body, hy, roundIn_of_wpIn trivial (hassign _ x W _ ⟨_, run_beginRound hl (by rw [hrec]), ?_⟩)⟩
    have hl2 : (W.putObj (D + 1) (.loop { rec .ready with state := .busy })).heap[D + 1]? = some (.loop { rec .ready with state := .busy }) := World.putObj_heap_same hlt
    have hk2 : (W.putObj (D + 1) (.loop { rec .ready with state := .busy })).heap[D]? = some (.deferred (some [])) := (World.putObj_heap_other (by omega)).trans hk
    refine wpIn_mono (hbody _ pre x _ ((hG pre x).putObj (s := ()) _ hGx (by omega) hl rfl) (hI.putObj _ hi (by omega) hl rfl)) ?_
    rintro e a3 W3 hp
    cases e with
    | normal =>
      obtain ⟨h1, h2, h3⟩ := hp
      have hl3 := h1.same _ _ (by omega) hl2 rfl
      have hk3 := h1.same _ _ (Nat.le_refl _) hk2 rfl
      have hend := run_endRound (P := P) none hl3
      refine ⟨_, _, hend, rfl, ⟨hI.putObj _ h3 (by omega) hl3 rfl, ?_, (World.putObj_heap_other (by omega)).trans hk3⟩, hKt (hKt (hKb _ _ _ _ (by omega) hl rfl rfl) h2) (hKb _ _ _ _ (by omega) hl3 rfl rfl)⟩
      rw [World.putObj_heap_same (Array.getElem?_eq_some_iff.1 hl3).1]
      simp [hrec]
    | _ => exact hp.elim
  · rintro e W2 ⟨⟨v, rfl⟩, xs, hS, hi, hl, hk⟩
    have hend := run_endLoop (P := P) hl (by rw [hrec]; simp)
    exact ⟨none, _, by rw [hrec] at hend; exact hend, hdone D xs _ (Nat.le_refl _) hS (hI.putObj _ hi (by omega) hl rfl) ((World.putObj_heap_other (by omega)).trans hk)⟩
end Go.Proofs.YtlhldkiggmlegaaDoor

namespace Go.Proofs.YtlhldkiggmlegaaDoor
open Go.RowKit Go.Shelf Go.Sort
attribute [local go_sem] Oper.semAt_some

/-! ## The lines that are as high or as low as a core allows at two places -/
def lowP (l : LogD) (core : Rat) (k : Nat) : Pt := (atD l k, (loD l k : Rat) + core)
def uppP (l : LogD) (core : Rat) (k : Nat) : Pt := (atD l k, (hiD l k : Rat) - core)
def two1 (l : LogD) (core : Rat) (j : Nat) (a : Pt) : List (Pt × Pt) := [(a, lowP l core j), (a, uppP l core j)]
def cn2 (l : LogD) (core : Rat) (j i : Nat) : List (Pt × Pt) := two1 l core j (lowP l core i) ++ two1 l core j (uppP l core i)
def cnJ (l : LogD) (core : Rat) (j : Nat) : List (Pt × Pt) := (List.range j).flatMap (cn2 l core j)
def cornersL (l : LogD) (core : Rat) : List (Pt × Pt) := (List.range l.at_.length).flatMap (cnJ l core)

/-- A core that is asked for. -/
structure CoreOk (core : Rat) : Prop where
  den : core.den ≤ 200
  lo : -2000 ≤ core
  hi : core ≤ 2000
theorem CoreOk.fr {core : Rat} (h : CoreOk core) : Fr core.den 2000 core := by
  have hd : (0 : Rat) < (core.den : Rat) := Rat.natCast_pos.2 core.den_pos
  have e : core = (core.num : Rat) / (core.den : Rat) := by rw [← Rat.mkRat_eq_div]; exact (Rat.mkRat_self core).symm
  have h1 := h.lo
  have h2 := h.hi
  have e2 : core * (core.den : Rat) = (core.num : Rat) := by
    have := congrArg (· * (core.den : Rat)) e
    simpa [Rat.div_mul_cancel (show (core.den : Rat) ≠ 0 by grind)] using this
  have a1 := Rat.mul_le_mul_of_nonneg_right h1 (c := (core.den : Rat)) (by grind)
  have a2 := Rat.mul_le_mul_of_nonneg_right h2 (c := (core.den : Rat)) (by grind)
  rw [e2] at a1 a2
  refine ⟨core.num, e, ?_, ?_⟩
  · have : ((-(2000 * (core.den : Int)) : Int) : Rat) ≤ (core.num : Rat) := by
      rw [Rat.intCast_neg, Rat.intCast_mul]
      have : ((core.den : Int) : Rat) = (core.den : Rat) := Rat.intCast_natCast _
      rw [this]
      have h3 : ((2000 : Int) : Rat) = 2000 := rfl
      rw [h3]
      grind
    exact Rat.intCast_le_intCast.1 this
  · have : (core.num : Rat) ≤ ((2000 * (core.den : Int) : Int) : Rat) := by
      rw [Rat.intCast_mul]
      have : ((core.den : Int) : Rat) = (core.den : Rat) := Rat.intCast_natCast _
      rw [this]
      exact a2
    exact Rat.intCast_le_intCast.1 this
theorem CoreOk.fine {core : Rat} (h : CoreOk core) : Fine core := by
  have h1 := core.den_pos
  have h2 := h.den
  refine h.fr.fine h1 (by omega) ?_
  have : (2000 : Int) * (core.den : Int) ≤ 2000 * 200 := Int.mul_le_mul_of_nonneg_left (by omega) (by omega)
  omega
theorem low_fr {l : LogD} (hf : Fit l.at_ [l.edges]) {core : Rat} (h : CoreOk core) {k : Nat} (hk : k < l.at_.length) : Fr core.den 3000 (lowP l core k).2 ∧ Fr core.den 3000 (uppP l core k).2 := by
  have hlen := hf.lens _ (List.mem_singleton.2 rfl)
  have hk' : k < l.edges.length := by omega
  obtain ⟨y1, y2, y3⟩ := okEdges_get (hf.edges _ (List.mem_singleton.2 rfl)) k hk'
  rw [loD_eq hk', hiD_eq hk'] at *
  exact ⟨((Fr.int (D := core.den) (M := 1000) (by omega) (by omega) core.den_pos).add h.fr).mono (by omega), ((Fr.int (D := core.den) (M := 1000) (by omega) (by omega) core.den_pos).sub h.fr).mono (by omega)⟩
theorem pt_fine {D : Nat} {r : Rat} (hD : 0 < D) (hD' : D ≤ 200) (h : Fr D 3000 r) : Fine r := by
  refine h.fine hD (by omega) ?_
  have : (3000 : Int) * (D : Int) ≤ 3000 * 200 := Int.mul_le_mul_of_nonneg_left (by omega) (by omega)
  omega

theorem low_call (L M k : Nat) (l : LogD) (core : Rat) (w : World) (hl : LatheAt w L M l) (hf : Fit l.at_ [l.edges]) (hc : CoreOk core) (hk : k < l.at_.length) :
    Calls Tryd.prog 97 #[.pointer (some ⟨L, 0, none⟩), .int .i64 k, .agg #[.int .i64 core.num, .int .i64 core.den]] w fun e w' => e = .returned (.agg #[.int .i64 (lowP l core k).1, .int .i64 (lowP l core k).2.num, .int .i64 (lowP l core k).2.den]) ∧ Below w.heap.size w w' := by
  have hlen := hf.lens _ (List.mem_singleton.2 rfl)
  have hk' : k < l.edges.length := by omega
  obtain ⟨y1, y2, y3⟩ := okEdges_get (hf.edges _ (List.mem_singleton.2 rfl)) k hk'
  have h8 := hf.eight
  have := lower_any L M k l core w hl hk hk' (by omega) (by omega) hc.fine (by omega) (by omega)
  rw [atD_eq hk, loD_eq hk'] at this
  exact this
theorem upp_call (L M k : Nat) (l : LogD) (core : Rat) (w : World) (hl : LatheAt w L M l) (hf : Fit l.at_ [l.edges]) (hc : CoreOk core) (hk : k < l.at_.length) :
    Calls Tryd.prog 98 #[.pointer (some ⟨L, 0, none⟩), .int .i64 k, .agg #[.int .i64 core.num, .int .i64 core.den]] w fun e w' => e = .returned (.agg #[.int .i64 (uppP l core k).1, .int .i64 (uppP l core k).2.num, .int .i64 (uppP l core k).2.den]) ∧ Below w.heap.size w w' := by
  have hlen := hf.lens _ (List.mem_singleton.2 rfl)
  have hk' : k < l.edges.length := by omega
  obtain ⟨y1, y2, y3⟩ := okEdges_get (hf.edges _ (List.mem_singleton.2 rfl)) k hk'
  have h8 := hf.eight
  have := upper_any L M k l core w hl hk hk' (by omega) (by omega) hc.fine (by omega) (by omega)
  rw [atD_eq hk, hiD_eq hk'] at this
  exact this

/-- The heights that are yielded, by the blocks of their variables. -/
structure Cn where
  b1 : Nat
  b2 : Nat
  b3 : Nat
  a : Pt
  b : Pt
def Cn.val (c : Cn) : Value := hv c.b1 c.b2 c.b3
def Cn.Is (c : Cn) (W : World) : Prop := HAt W c.b1 c.b2 c.b3 c.a c.b
def ptsOf (cs : List Cn) : List (Pt × Pt) := cs.map fun c => (c.a, c.b)
theorem ptsOf_snoc (cs : List Cn) (c : Cn) : ptsOf (cs ++ [c]) = ptsOf cs ++ [(c.a, c.b)] := by simp [ptsOf]
def eJ (l : LogD) (core : Rat) (j : Nat) : List (Pt × Pt) := (List.range j).flatMap (cnJ l core)
def eI (l : LogD) (core : Rat) (j i : Nat) : List (Pt × Pt) := eJ l core j ++ (List.range i).flatMap (cn2 l core j)
theorem eJ_succ (l : LogD) (core : Rat) (j : Nat) : eJ l core (j + 1) = eI l core j j := by unfold eJ eI; rw [flat_succ]; rfl
theorem eI_succ (l : LogD) (core : Rat) (j i : Nat) : eI l core j (i + 1) = eI l core j i ++ cn2 l core j i := by unfold eI; rw [flat_succ, List.append_assoc]
theorem eI_zero (l : LogD) (core : Rat) (j : Nat) : eI l core j 0 = eJ l core j := by simp [eI]

/-- Two points in a list. -/
def twoB (a b : Pt) : Obj := .cells #[.int .i64 a.1, .int .i64 a.2.num, .int .i64 a.2.den, .int .i64 b.1, .int .i64 b.2.num, .int .i64 b.2.den] 142
def ptB (a : Pt) : Obj := .cells #[.int .i64 a.1, .int .i64 a.2.num, .int .i64 a.2.den] 142
def ptK (a b : Pt) (c : Nat) : Pt := if c = 0 then a else b
/-- A corner: a point of each of two places. -/
def IsCorner (l : LogD) (core : Rat) (x : Pt × Pt) : Prop :=
  ∃ i j c d, i < j ∧ j < l.at_.length ∧ c < 2 ∧ d < 2 ∧ x = (ptK (lowP l core i) (uppP l core i) c, ptK (lowP l core j) (uppP l core j) d)
theorem flat_len {β : Type} {f : Nat → List β} (h : ∀ k, (f k).length = 4) (i : Nat) : ((List.range i).flatMap f).length = 4 * i := by
  induction i with
  | zero => rfl
  | succ i ih => rw [flat_succ, List.length_append, ih, h]; omega
theorem eI_len' (l : LogD) (core : Rat) (j i : Nat) : (eI l core j i).length = (eJ l core j).length + 4 * i := by
  unfold eI
  rw [List.length_append, flat_len (fun k => rfl)]
theorem eJ_len (l : LogD) (core : Rat) (j : Nat) (hj : j ≤ 20) : (eJ l core j).length ≤ 80 * j := by
  induction j with
  | zero => simp [eJ]
  | succ j ih => rw [eJ_succ, eI_len']; have := ih (by omega); omega
theorem eI_len {l : LogD} {core : Rat} {j i c : Nat} (hj : j ≤ 20) (hi : i ≤ j) {ys : List Cn} (h : ptsOf ys = eI l core j i ++ (cn2 l core j i).take c) : ys.length ≤ 2000 := by
  have h1 := congrArg List.length h
  have h2 := eJ_len l core j hj
  rw [List.length_append, eI_len'] at h1
  have h3 : ((cn2 l core j i).take c).length ≤ 4 := by rw [List.length_take]; exact Nat.min_le_right _ _
  simp only [ptsOf, List.length_map] at h1
  omega
theorem cn2_take (l : LogD) (core : Rat) (j i : Nat) {c : Nat} (hc : c < 2) {d : Nat} (hd : d < 2) :
    (cn2 l core j i).take (2 * c + (d + 1)) = (cn2 l core j i).take (2 * c + d) ++ [(ptK (lowP l core i) (uppP l core i) c, ptK (lowP l core j) (uppP l core j) d)] := by
  rcases (by omega : c = 0 ∨ c = 1) with rfl | rfl <;> rcases (by omega : d = 0 ∨ d = 1) with rfl | rfl <;> rfl
theorem ptK_fine {l : LogD} (hf : Fit l.at_ [l.edges]) {core : Rat} (h : CoreOk core) {k : Nat} (hk : k < l.at_.length) (c : Nat) : Fine (ptK (lowP l core k) (uppP l core k) c).2 := by
  obtain ⟨h1, h2⟩ := low_fr hf h hk
  unfold ptK
  split
  · exact pt_fine core.den_pos h.den h1
  · exact pt_fine core.den_pos h.den h2
theorem twoB_cell {W : World} {b : Nat} {p q : Pt} {c : Nat} (h : Blk W b (twoB p q)) (hc : c < 2) :
    W.cell? ⟨b, c * 3, none⟩ = some (.int .i64 (ptK p q c).1) ∧ W.cell? ⟨b, c * 3 + 1, none⟩ = some (.int .i64 (ptK p q c).2.num) ∧ W.cell? ⟨b, c * 3 + 2, none⟩ = some (.int .i64 (ptK p q c).2.den) := by
  unfold twoB at h
  rcases (by omega : c = 0 ∨ c = 1) with rfl | rfl <;> exact ⟨by rw [h.cell]; rfl, by rw [h.cell]; rfl, by rw [h.cell]; rfl⟩

set_option maxRecDepth 100000 in
set_option maxHeartbeats 4000000 in
theorem corners1_in (n : Nat) (_hn : 1 ≤ n) (l0 Bl Bc L M n₁ : Nat) (l : LogD) (core : Rat) (Pr : Nat → Prop) (W : World) (hf : Fit l.at_ [l.edges]) (hc : CoreOk core) (hPl : Pr Bl) (hPc : Pr Bc) (hnW : n₁ ≤ W.heap.size)
    (hLat : ∀ W', KpP Pr n₁ W W' → LatheAt W' L M l) (J : List Cn → World → Prop)
    (hY : ∀ pre x W, Cn.Is x W → IsCorner l core (x.a, x.b) → pre.length ≤ 2000 → J pre W → YieldAt Fence.wide (n - 1) Tryd.prog l0 #[x.val] W fun e W' => e = .returned (.bool true) ∧ J (pre ++ [x]) W' ∧ KpP Pr n₁ W W')
    (hJb : ∀ pre W W', J pre W → Below W.heap.size W W' → J pre W')
    (hBl : W.cell? ⟨Bl, 0, none⟩ = some (.pointer (some ⟨L, 0, none⟩)))
    (hBc0 : W.cell? ⟨Bc, 0, none⟩ = some (.int .i64 core.num)) (hBc1 : W.cell? ⟨Bc, 1, none⟩ = some (.int .i64 core.den)) (h0 : J [] W) :
    CallsIn Fence.wide n Tryd.prog 109 #[.func (.yield l0) #[] #[], .pointer (some ⟨Bl, 0, none⟩), .pointer (some ⟨Bc, 0, none⟩)] W fun e W' => (∃ v, e = .returned v) ∧ ∃ ys, ptsOf ys = cornersL l core ∧ J ys W' := by
  have h8 := hf.eight
  have HF := Lib.hid hf
  have HC := Lib.hid hc
  have hl0 := hLat W (KpP.refl _ _ _)
  obtain ⟨va, ve, bL, hA, hE⟩ := hl0
  obtain ⟨a, cap, rfl⟩ := hA.slice
  have eL := bL.cell 0
  simp at eL
  clear hf hc hA hE bL
  refine callsIn_of_wp Tryd.func109 rfl trivial ?_ rfl
  simp only [Tryd.ntmps109, List.size_toArray, List.length_cons, List.length_nil, Nat.reduceAdd, Nat.reduceSub, Array.replicate_succ, Array.replicate_zero, List.push_toArray, List.append_toArray, List.nil_append, List.cons_append]
  gi_wp2
  gi_loopw [16] (fun i wr => ∃ j : Nat, j ≤ l.at_.length ∧ i = .int .i64 j ∧ (∃ ys, ptsOf ys = eJ l core j ∧ J ys wr) ∧ KpP Pr n₁ W wr)
    (fun i _ => l.at_.length - (intOf i).toNat)
  case atStart => exact ⟨0, Nat.zero_le _, rfl, ⟨[], rfl, h0⟩, KpP.refl _ _ _⟩
  case round =>
    obtain ⟨j, hj, rfl, ⟨ys, hys, hJs⟩, hnx⟩ := hrel
    by_cases hlt : j < l.at_.length
    · have hJ0 : ∃ ys, ptsOf ys = eI l core j 0 ∧ J ys wr := ⟨ys, by rw [eI_zero]; exact hys, hJs⟩
      clear hys hJs
      obtain ⟨W2, rfl⟩ : ∃ W2 : World, W2 = wr := ⟨_, rfl⟩
      gi_wp2
      gi_loopw [20] (fun v wr => ∃ i : Nat, i ≤ j ∧ v = .int .i64 i ∧ (∃ ys, ptsOf ys = eI l core j i ∧ J ys wr) ∧ KpP Pr n₁ W wr)
        (fun v _ => j - (intOf v).toNat)
      case atStart => exact ⟨0, Nat.zero_le _, rfl, hJ0, hnx⟩
      case round =>
        obtain ⟨i, hi, rfl, hJi, hni⟩ := hrel
        by_cases hli : i < j
        · obtain ⟨W3, rfl⟩ : ∃ W3 : World, W3 = wr := ⟨_, rfl⟩
          have el := hni.cell hPl hBl
          have ec0 := hni.cell hPc hBc0
          have ec1 := hni.cell hPc hBc1
          have gl := fun d os => cell_regrown el d os
          have g0 := fun d os => cell_regrown ec0 d os
          have g1 := fun d os => cell_regrown ec1 d os
          have hcL := fun (d : Nat) (os : Array Obj) => Calls.regrown_of (low_call L M i l core (grow (redrawn W3 d) os) (hLat _ (hni.below (below_regrown W3 d os))) HF.out HC.out (by omega))
          have hcU := fun (d : Nat) (os : Array Obj) => Calls.regrown_of (upp_call L M i l core (grow (redrawn W3 d) os) (hLat _ (hni.below (below_regrown W3 d os))) HF.out HC.out (by omega))
          clear el ec0 ec1
          gi_wp2
          refine wpIn_wide.2 (wp_region_tail1 8 10 _ _ (by kernel_rfl) rfl rfl rfl rfl (by kernel_rfl) (by kernel_rfl) (by kernel_rfl) (by kernel_rfl) (fun _ _ _ h => h) ?_)
          repeat (quiet_step (first | (go_at_call 97; exact hcL _ _) | (go_at_call 98; exact hcU _ _)))
          refine wpQuiet_nil ?_
          intro _ hw'
          obtain ⟨⟨dq, osq⟩, hw''⟩ := hw'
          subst hw''
          simp only [List.take_succ_cons, List.take_zero, List.drop_succ_cons, List.drop_zero]
          have hB2 := below_regrown W3 dq osq
          have hn4 := hni.below hB2
          have hJi4 : ∃ ys, ptsOf ys = eI l core j i ++ (cn2 l core j i).take (2 * 0) ∧ J ys (grow (redrawn W3 dq) osq) := by
            obtain ⟨ys, h1, h2⟩ := hJi
            exact ⟨ys, by simpa using h1, hJb _ _ _ h2 hB2⟩
          clear gl g0 g1 hcL hcU hJi
          generalize grow (redrawn W3 dq) osq = W4 at *
          go_wp2
          gi_wp2
          have hK0 := hn4.alloc (twoB (lowP l core i) (uppP l core i))
          have hJ0 : ∃ ys, ptsOf ys = eI l core j i ++ (cn2 l core j i).take (2 * 0) ∧ J ys (W4.alloc (twoB (lowP l core i) (uppP l core i))) := by
            obtain ⟨ys, h1, h2⟩ := hJi4
            exact ⟨ys, h1, hJb _ _ _ h2 (below1 _ _)⟩
          have hB0 := Blk.new W4 (twoB (lowP l core i) (uppP l core i))
          have hn5 : n₁ ≤ W4.heap.size := Nat.le_trans hnW hn4.size
          obtain ⟨b, hbe⟩ : ∃ b, b = W4.heap.size := ⟨_, rfl⟩
          rw [← hbe] at hB0 hn5 ⊢
          clear hbe hJi4
          unfold twoB at hK0 hJ0 hB0
          generalize W4.alloc (.cells #[.int .i64 (lowP l core i).1, .int .i64 (lowP l core i).2.num, .int .i64 (lowP l core i).2.den, .int .i64 (uppP l core i).1, .int .i64 (uppP l core i).2.num, .int .i64 (uppP l core i).2.den] 142) = W5 at *
          gi_loopw [33] (fun v wr => ∃ c : Nat, c ≤ 2 ∧ v = .int .i64 c ∧ (∃ ys, ptsOf ys = eI l core j i ++ (cn2 l core j i).take (2 * c) ∧ J ys wr) ∧ KpP Pr n₁ W wr ∧ Blk wr b (twoB (lowP l core i) (uppP l core i)))
            (fun v _ => 2 - (intOf v).toNat)
          case atStart => exact ⟨0, Nat.zero_le _, rfl, hJ0, hK0, hB0⟩
          case round =>
            obtain ⟨c, hcc, rfl, hJc, hKc, hBc⟩ := hrel
            by_cases hlc : c < 2
            · obtain ⟨q0, q1, q2⟩ := twoB_cell hBc hlc
              obtain ⟨W6, rfl⟩ : ∃ W6 : World, W6 = wr := ⟨_, rfl⟩
              have HN := Lib.hid (fun (d : Nat) (hd : d < 2) => cn2_take l core j i hlc hd)
              have HPa := Lib.hid (show ∃ q, q < 2 ∧ ptK (lowP l core i) (uppP l core i) c = ptK (lowP l core i) (uppP l core i) q from ⟨c, hlc, rfl⟩)
              have HFa := Lib.hid (ptK_fine HF.out HC.out (show i < l.at_.length by omega) c)
              generalize ptK (lowP l core i) (uppP l core i) c = pa at *
              gi_wp2
              have hK7 := hKc.alloc (ptB pa)
              have hJ7 : ∃ ys, ptsOf ys = eI l core j i ++ (cn2 l core j i).take (2 * c + 0) ∧ J ys (W6.alloc (ptB pa)) := by
                obtain ⟨ys, h1, h2⟩ := hJc
                exact ⟨ys, h1, hJb _ _ _ h2 (below1 _ _)⟩
              have hB7 := hBc.alloc (ptB pa)
              have hA7 := Blk.new W6 (ptB pa)
              have hn7 : n₁ ≤ W6.heap.size := Nat.le_trans hnW hKc.size
              obtain ⟨ba, hbe⟩ : ∃ ba, ba = W6.heap.size := ⟨_, rfl⟩
              rw [← hbe] at hA7 hn7 ⊢
              clear hbe hJc q0 q1 q2
              unfold ptB at hK7 hJ7 hB7 hA7
              generalize W6.alloc (.cells #[.int .i64 pa.1, .int .i64 pa.2.num, .int .i64 pa.2.den] 142) = W7 at *
              have el := hK7.cell hPl hBl
              have ec0 := hK7.cell hPc hBc0
              have ec1 := hK7.cell hPc hBc1
              have gl := fun d os => cell_regrown el d os
              have g0 := fun d os => cell_regrown ec0 d os
              have g1 := fun d os => cell_regrown ec1 d os
              have hcL := fun (d : Nat) (os : Array Obj) => Calls.regrown_of (low_call L M j l core (grow (redrawn W7 d) os) (hLat _ (hK7.below (below_regrown W7 d os))) HF.out HC.out hlt)
              have hcU := fun (d : Nat) (os : Array Obj) => Calls.regrown_of (upp_call L M j l core (grow (redrawn W7 d) os) (hLat _ (hK7.below (below_regrown W7 d os))) HF.out HC.out hlt)
              clear el ec0 ec1
              refine wpIn_wide.2 (wp_region_tail1 8 10 _ _ (by kernel_rfl) rfl rfl rfl rfl (by kernel_rfl) (by kernel_rfl) (by kernel_rfl) (by kernel_rfl) (fun _ _ _ h => h) ?_)
              repeat (quiet_step (first | (go_at_call 97; exact hcL _ _) | (go_at_call 98; exact hcU _ _)))
              refine wpQuiet_nil ?_
              intro _ hw'
              obtain ⟨⟨dq, osq⟩, hw''⟩ := hw'
              subst hw''
              simp only [List.take_succ_cons, List.take_zero, List.drop_succ_cons, List.drop_zero]
              have hB8 := below_regrown W7 dq osq
              have hK8 := hK7.below hB8
              have hBi8 := hB7.below hB8
              have hA8 := hA7.below hB8
              have hJ8 : ∃ ys, ptsOf ys = eI l core j i ++ (cn2 l core j i).take (2 * c + 0) ∧ J ys (grow (redrawn W7 dq) osq) := by
                obtain ⟨ys, h1, h2⟩ := hJ7
                exact ⟨ys, h1, hJb _ _ _ h2 hB8⟩
              clear gl g0 g1 hcL hcU hJ7 hK7 hB7 hA7
              generalize grow (redrawn W7 dq) osq = W8 at *
              go_wp2
              gi_wp2
              have hK0 := hK8.alloc (twoB (lowP l core j) (uppP l core j))
              have hJ0 : ∃ ys, ptsOf ys = eI l core j i ++ (cn2 l core j i).take (2 * c + 0) ∧ J ys (W8.alloc (twoB (lowP l core j) (uppP l core j))) := by
                obtain ⟨ys, h1, h2⟩ := hJ8
                exact ⟨ys, h1, hJb _ _ _ h2 (below1 _ _)⟩
              have hBi := hBi8.alloc (twoB (lowP l core j) (uppP l core j))
              have hA0 := hA8.alloc (twoB (lowP l core j) (uppP l core j))
              have hB0 := Blk.new W8 (twoB (lowP l core j) (uppP l core j))
              have hn8 : n₁ ≤ W8.heap.size := Nat.le_trans hnW hK8.size
              obtain ⟨b', hbe⟩ : ∃ b', b' = W8.heap.size := ⟨_, rfl⟩
              rw [← hbe] at hB0 hn8 ⊢
              clear hbe hJ8 hA8 hBi8
              unfold twoB at hK0 hJ0 hB0 hBi hA0
              generalize W8.alloc (.cells #[.int .i64 (lowP l core j).1, .int .i64 (lowP l core j).2.num, .int .i64 (lowP l core j).2.den, .int .i64 (uppP l core j).1, .int .i64 (uppP l core j).2.num, .int .i64 (uppP l core j).2.den] 142) = W9 at *
              gi_loopw [47] (fun v wr => ∃ d : Nat, d ≤ 2 ∧ v = .int .i64 d ∧ (∃ ys, ptsOf ys = eI l core j i ++ (cn2 l core j i).take (2 * c + d) ∧ J ys wr) ∧ KpP Pr n₁ W wr ∧
                  Blk wr b (twoB (lowP l core i) (uppP l core i)) ∧ Blk wr b' (twoB (lowP l core j) (uppP l core j)) ∧ Blk wr ba (ptB pa))
                (fun v _ => 2 - (intOf v).toNat)
              case atStart => exact ⟨0, Nat.zero_le _, rfl, hJ0, hK0, hBi, hB0, hA0⟩
              case round =>
                obtain ⟨d, hdd, rfl, hJd, hKd, hBd, hBd', hAd⟩ := hrel
                by_cases hld : d < 2
                · obtain ⟨q0, q1, q2⟩ := twoB_cell hBd' hld
                  have a0 := hAd.cell 0
                  have a1 := hAd.cell 1
                  have a2 := hAd.cell 2
                  simp at a0 a1 a2
                  obtain ⟨W10, rfl⟩ : ∃ W10 : World, W10 = wr := ⟨_, rfl⟩
                  have la := hAd.lt
                  have la1 : ba < W10.heap.size + 1 := by omega
                  have HPb := Lib.hid (show ∃ q, q < 2 ∧ ptK (lowP l core j) (uppP l core j) d = ptK (lowP l core j) (uppP l core j) q from ⟨d, hld, rfl⟩)
                  have HFb := Lib.hid (ptK_fine HF.out HC.out hlt d)
                  have HNd := Lib.hid (HN.out d hld)
                  generalize ptK (lowP l core j) (uppP l core j) d = pb at *
                  have hBt := Lib.hid (fun W => between_any pa pb W HFa.out HFb.out)
                  gi_wp2_with fail
                  refine ⟨trivial, callsIn_wide.2 ((hBt.out _).mono ?_)⟩
                  rintro e w1 ⟨b1, b2, b3, rfl, hH, hb⟩
                  have hb1 := (below1 W10 _).trans (hb.mono (by simp))
                  obtain ⟨ys, hys, hJy⟩ := hJd
                  have HJ := Lib.hid (hJb _ _ _ hJy hb1)
                  have HKd := Lib.hid (hKd.below hb1)
                  have HB1 := Lib.hid (hBd.below hb1)
                  have HB2 := Lib.hid (hBd'.below hb1)
                  have HB3 := Lib.hid (hAd.below hb1)
                  obtain ⟨fn, tmps, assign, body, hy, hR⟩ := hY ys ⟨b1, b2, b3, pa, pb⟩ w1 hH (by obtain ⟨q, hq, eq⟩ := HPa.out; obtain ⟨q', hq', eq'⟩ := HPb.out; rw [eq, eq']; exact ⟨i, j, q, q', hli, hlt, hq, hq', rfl⟩) (eI_len (by omega) hi hys) HJ.out
                  unfold Cn.val hv at hy
                  unfold hv
                  have Hys := Lib.hid hys
                  clear hb hb1 hys hJy hKd hBd hBd' hAd hH q0 q1 q2 a0 a1 a2 la la1
                  gi_wp2
                  refine hR.mono ?_
                  rintro e W11 ⟨rfl, hJ11, hk11⟩
                  gi_wp2
                  go_roundw
                  case rel => exact ⟨d + 1, by omega, by simp, ⟨_, by rw [ptsOf_snoc, Hys.out, HNd.out, List.append_assoc], hJ11⟩, HKd.out.trans hk11, hk11.new hn5 HB1.out, hk11.new hn8 HB2.out, hk11.new hn7 HB3.out⟩
                  case measure => simp [intOf]; omega
                · obtain rfl : d = 2 := by omega
                  gi_wp2
                  go_roundw
                  case rel => exact ⟨c + 1, by omega, by simp, by simpa [Nat.mul_add] using hJd, hKd, hBd⟩
                  case measure => simp [intOf]; omega
            · obtain rfl : c = 2 := by omega
              gi_wp2
              go_roundw
              case rel => exact ⟨i + 1, by omega, by simp, by rw [eI_succ]; simpa [cn2, two1] using hJc, hKc⟩
              case measure => simp [intOf]; omega
        · obtain rfl : i = j := by omega
          gi_wp2
          go_roundw
          case rel => exact ⟨i + 1, by omega, by simp, by rw [eJ_succ]; exact hJi, hni⟩
          case measure => simp [intOf]; omega
    · obtain rfl : j = l.at_.length := by omega
      gi_wp2
      go_end0
      exact ⟨⟨_, rfl⟩, ys, hys, hJs⟩
end Go.Proofs.YtlhldkiggmlegaaDoor
