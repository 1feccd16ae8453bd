import Derived.BigQuiet
import Derived.BigRegion
import Derived.Deep.DeepCutAuto
import Derived.Deep.QuietTactic
import Derived.Deep.RegionHeld3
import Derived.Deep.RegionLawGrows
import Derived.Deep.RegionWith
import Derived.IntWalk
import Derived.Laws.CopyOwn
import Derived.Laws.MakeOwn
import Derived.Laws.ResultCell
import Derived.Lib.Hide
import Derived.LoopIn
import Derived.LoopNIn
import Derived.Maps.AppendAt
import Derived.OwnWalkIn
import Derived.RangeFuncBound
import Derived.RangeFuncCalls
import Derived.RangeFuncLeaves
import Derived.RangeFuncNested
import Derived.RegionTactic
import Derived.Shelf.Abstract
import Derived.Shelf.RegionOpen
import Derived.TacticsInMore
import Derived.Test.YtjbeoakikdkdaaaProg
import Derived.WalkKit
import Derived.WalkLawsBesides
import Derived.WalkSpells
import Derived.OwnWalk
import Derived.Laws.OwnMore
namespace Go.Proofs.Ytjbeoakikdkdaaa
open Go.RowKit Go.Shelf
attribute [local go_sem] Oper.semAt_some
/-! What all layers share: made of general parts by base.py. -/
theorem ret_int {k : IntKind} {a b : Int} (h : a = b) : Ending.returned (.int k a) = .returned (.int k b) := by rw [h]
theorem below1 (w : World) (a : Obj) : Below w.heap.size w (w.alloc a) :=
  (Below.refl _ _).alloc (Nat.le_refl _) _
theorem below2 (w : World) (a b : Obj) : Below w.heap.size w ((w.alloc a).alloc b) :=
  ((Below.refl _ _).alloc (Nat.le_refl _) _).alloc (by simp) _
/-- Three new blocks. -/
theorem below3 (w : World) (a b c : Obj) : Below w.heap.size w (((w.alloc a).alloc b).alloc c) :=
  (((Below.refl _ _).alloc (Nat.le_refl _) _).alloc (by simp) _).alloc (by simp; omega) _
theorem after1 {w : World} {a : Obj} {w' : World} (h : Below (w.alloc a).heap.size (w.alloc a) w') : Below w.heap.size w w' :=
  (below1 w a).trans (h.mono (by simp))
theorem after2 {w : World} {a b : Obj} {w' : World} (h : Below ((w.alloc a).alloc b).heap.size ((w.alloc a).alloc b) w') : Below w.heap.size w w' :=
  (below2 w a b).trans (h.mono (by simp; omega))
theorem bcell {W w1 : World} (hb : Below W.heap.size W w1) : (∀ b o, b < W.heap.size → w1.cell? ⟨b, o, none⟩ = W.cell? ⟨b, o, none⟩) ∧ (∀ b o, b < W.heap.size → w1.frozen? ⟨b, o, none⟩ = W.frozen? ⟨b, o, none⟩) :=
  ⟨fun b o h => hb.cell (p := ⟨b, o, none⟩) h, fun b o h => hb.frozen (p := ⟨b, o, none⟩) h⟩
/-- The slice value v reads as the list l of numbers. -/
def IntsAt (w : World) (v : Value) (l : List Int) : Prop :=
  ∃ a cap, v = .slice a l.length cap ∧ (l ≠ [] → ∃ b off, a = some ⟨b, off, none⟩ ∧ ∀ i (h : i < l.length), w.cell? ⟨b, off + i, none⟩ = some (.int .i64 l[i]))
/-- The slice value v reads as the list l of pairs of numbers. -/
def PairsAt (w : World) (v : Value) (l : List (Int × Int)) : Prop :=
  ∃ a cap, v = .slice a l.length cap ∧ (l ≠ [] → ∃ b off, a = some ⟨b, off, none⟩ ∧ ∀ i (h : i < l.length), w.cell? ⟨b, off + i * 2, none⟩ = some (.int .i64 l[i].1) ∧ w.cell? ⟨b, off + i * 2 + 1, none⟩ = some (.int .i64 l[i].2))
/-- The slice value v reads as the list l of values of one cell each. -/
def ValsAt (w : World) (v : Value) (l : List Value) : Prop :=
  ∃ a cap, v = .slice a l.length cap ∧ (l ≠ [] → ∃ b off, a = some ⟨b, off, none⟩ ∧ ∀ i (h : i < l.length), w.cell? ⟨b, off + i, none⟩ = some l[i])
theorem lt_of_cell {w : World} {b o : Nat} {v : Value} (h : w.cell? ⟨b, o, none⟩ = some v) : b < w.heap.size := by
  unfold World.cell? at h
  split at h
  · rename_i hb; exact (Array.getElem?_eq_some_iff.1 hb).1
  · cases h
theorem IntsAt.below {w w' : World} {v : Value} {l : List Int} (h : IntsAt w v l) (hb : Below w.heap.size w w') : IntsAt w' v l := by
  obtain ⟨a, cap, e, hc⟩ := h
  refine ⟨a, cap, e, fun hne => ?_⟩
  obtain ⟨b, off, ea, hc⟩ := hc hne
  exact ⟨b, off, ea, fun i hi => (hb.cell (p := ⟨b, _, none⟩) (lt_of_cell (hc i hi))).trans (hc i hi)⟩
theorem PairsAt.below {w w' : World} {v : Value} {l : List (Int × Int)} (h : PairsAt w v l) (hb : Below w.heap.size w w') : PairsAt w' v l := by
  obtain ⟨a, cap, e, hc⟩ := h
  refine ⟨a, cap, e, fun hne => ?_⟩
  obtain ⟨b, off, ea, hc⟩ := hc hne
  exact ⟨b, off, ea, fun i hi => ⟨(hb.cell (p := ⟨b, _, none⟩) (lt_of_cell (hc i hi).1)).trans (hc i hi).1, (hb.cell (p := ⟨b, _, none⟩) (lt_of_cell (hc i hi).2)).trans (hc i hi).2⟩⟩
theorem ValsAt.below {w w' : World} {v : Value} {l : List Value} (h : ValsAt w v l) (hb : Below w.heap.size w w') : ValsAt w' v l := by
  obtain ⟨a, cap, e, hc⟩ := h
  refine ⟨a, cap, e, fun hne => ?_⟩
  obtain ⟨b, off, ea, hc⟩ := hc hne
  exact ⟨b, off, ea, fun i hi => (hb.cell (p := ⟨b, _, none⟩) (lt_of_cell (hc i hi))).trans (hc i hi)⟩
theorem IntsAt.at {w : World} {a : Option Addr} {n cap : Nat} {l : List Int} (h : IntsAt w (.slice a n cap) l) : n = l.length ∧ ∀ k (h : k < l.length), ∃ b off, a = some ⟨b, off, none⟩ ∧ w.cell? ⟨b, off + k, none⟩ = some (.int .i64 l[k]) := by
  obtain ⟨a', cap', e, hc⟩ := h
  cases e
  refine ⟨rfl, fun k hk => ?_⟩
  obtain ⟨b, off, ea, hc⟩ := hc (by intro h; subst h; exact absurd hk (Nat.not_lt_zero _))
  exact ⟨b, off, ea, hc k hk⟩
def okInts (lo hi : Int) (l : List Int) : Bool := l.all fun x => decide (lo ≤ x) && decide (x ≤ hi)
theorem okInts_false {lo hi : Int} {l : List Int} {k : Nat} (h : k < l.length) (hx : ¬ (lo ≤ l[k] ∧ l[k] ≤ hi)) : okInts lo hi l = false := by
  cases e : okInts lo hi l with
  | false => rfl
  | true =>
    exfalso
    unfold okInts at e
    rw [List.all_eq_true] at e
    have := e l[k] (List.getElem_mem h)
    simp at this
    exact hx this
theorem okInts_snoc {lo hi : Int} {l : List Int} {k : Nat} (h : k < l.length) (ht : okInts lo hi (l.take k) = true) (h1 : lo ≤ l[k]) (h2 : l[k] ≤ hi) : okInts lo hi (l.take (k + 1)) = true := by
  rw [List.take_succ_eq_append_getElem h]
  unfold okInts at ht ⊢
  rw [List.all_append, ht]
  simp [h1, h2]
theorem all_false {α : Type} {p : α → Bool} {l : List α} {k : Nat} (h : k < l.length) (hx : p l[k] = false) : l.all p = false := by
  cases e : l.all p with
  | false => rfl
  | true =>
    rw [List.all_eq_true] at e
    rw [e _ (List.getElem_mem h)] at hx
    cases hx
theorem all_snoc {α : Type} {p : α → Bool} {l : List α} {k : Nat} (h : k < l.length) (ht : (l.take k).all p = true) (hx : p l[k] = true) : (l.take (k + 1)).all p = true := by
  rw [List.take_succ_eq_append_getElem h, List.all_append, ht]
  simp [hx]
theorem IntsAt.mk1 {w : World} {b off cap : Nat} {x : Int} (h0 : w.cell? ⟨b, off, none⟩ = some (.int .i64 x)) : IntsAt w (.slice (some ⟨b, off, none⟩) 1 cap) [x] := by
  refine ⟨_, cap, rfl, fun _ => ⟨b, off, rfl, ?_⟩⟩
  intro i hi
  match i, hi with
  | 0, _ => simpa using h0
theorem IntsAt.mk2 {w : World} {b off cap : Nat} {x y : Int} (h0 : w.cell? ⟨b, off, none⟩ = some (.int .i64 x)) (h1 : w.cell? ⟨b, off + 1, none⟩ = some (.int .i64 y)) : IntsAt w (.slice (some ⟨b, off, none⟩) 2 cap) [x, y] := by
  refine ⟨_, cap, rfl, fun _ => ⟨b, off, rfl, ?_⟩⟩
  intro i hi
  match i, hi with
  | 0, _ => simpa using h0
  | 1, _ => simpa using h1
theorem PairsAt.at {w : World} {a : Option Addr} {n cap : Nat} {l : List (Int × Int)} (h : PairsAt w (.slice a n cap) l) : n = l.length ∧ ∀ k (h : k < l.length), ∃ b off, a = some ⟨b, off, none⟩ ∧ w.cell? ⟨b, off + k * 2, none⟩ = some (.int .i64 l[k].1) ∧ w.cell? ⟨b, off + k * 2 + 1, none⟩ = some (.int .i64 l[k].2) := by
  obtain ⟨a', cap', e, hc⟩ := h
  cases e
  refine ⟨rfl, fun k hk => ?_⟩
  obtain ⟨b, off, ea, hc⟩ := hc (by intro h; subst h; exact absurd hk (Nat.not_lt_zero _))
  exact ⟨b, off, ea, hc k hk⟩
theorem any_take {α : Type} {p : α → Bool} {l : List α} {k : Nat} (h : k < l.length) (ht : (l.take k).any p = false) (hx : p l[k] = false) : (l.take (k + 1)).any p = false := by
  rw [List.take_succ_eq_append_getElem h, List.any_append, ht]
  simp [hx]
theorem any_true {α : Type} {p : α → Bool} {l : List α} {k : Nat} (h : k < l.length) (hx : p l[k] = true) : l.any p = true :=
  List.any_eq_true.2 ⟨_, List.getElem_mem h, hx⟩
theorem IntsAt.slice {w : World} {v : Value} {l : List Int} (h : IntsAt w v l) : ∃ a cap, v = .slice a l.length cap := let ⟨a, cap, e, _⟩ := h; ⟨a, cap, e⟩
theorem PairsAt.slice {w : World} {v : Value} {l : List (Int × Int)} (h : PairsAt w v l) : ∃ a cap, v = .slice a l.length cap := let ⟨a, cap, e, _⟩ := h; ⟨a, cap, e⟩
theorem upto_succ' {α : Type} (xs : List α) (k : Nat) (h : k < xs.length) : xs.take (k + 1) = xs.take k ++ [xs[k]] := by
  rw [List.take_succ_eq_append_getElem h]
/-- What a loop's book-keeping leaves of a world: all blocks below B, and all that are cells. -/
structure KeepsB (B : Nat) (W W' : World) : Prop where
  size : W.heap.size ≤ W'.heap.size
  same : ∀ (k : Nat) (o : Obj), W.heap[k]? = some o → (k < B ∨ o.isCells = true) → W'.heap[k]? = some o
  tape : W'.tape = W.tape
  os : W'.os = W.os
  output : W'.output = W.output
theorem ownFrom_of {β : Type} {B : Nat} {I : β → World → Prop} (h : ∀ s W W', I s W → KeepsB B W W' → I s W') : OwnFrom B I := by
  intro s W W' row hs hg hr
  refine h s W W' hs ⟨hg.size, ?_, hg.tape, hg.os, hg.output⟩
  intro k o hk hc
  have hlt : k < W.heap.size := (Array.getElem?_eq_some_iff.1 hk).1
  refine (hg.block k hlt (fun e => ?_)).trans hk
  obtain ⟨h1, o', ho', hn⟩ := hr k e.symm
  rw [hk] at ho'
  cases ho'
  rcases hc with hc | hc
  · omega
  · rw [hc] at hn; cases hn
/-- Block k is o. -/
def Blk (W : World) (k : Nat) (o : Obj) : Prop := W.heap[k]? = some o
theorem Blk.lt {W : World} {k : Nat} {o : Obj} (h : Blk W k o) : k < W.heap.size := (Array.getElem?_eq_some_iff.1 h).1
theorem Blk.new (W : World) (o : Obj) : Blk (W.alloc o) W.heap.size o := World.alloc_heap_new W o
theorem Blk.alloc {W : World} {k : Nat} {o : Obj} (h : Blk W k o) (o' : Obj) : Blk (W.alloc o') k o := (Below.heap_alloc W o' k h.lt).trans h
theorem Blk.below {W W' : World} {k : Nat} {o : Obj} (h : Blk W k o) (hb : Below W.heap.size W W') : Blk W' k o := (hb.block k h.lt).trans h
theorem Blk.below' {B : Nat} {W W' : World} {k : Nat} {o : Obj} (h : Blk W k o) (hb : Below B W W') (hk : k < B) : Blk W' k o := (hb.block k hk).trans h
theorem Blk.drew {W : World} {k : Nat} {o : Obj} (h : Blk W k o) : Blk W.drew k o := h
theorem Blk.keeps {B : Nat} {W W' : World} {k : Nat} {o : Obj} (h : Blk W k o) (hb : KeepsB B W W') (hc : k < B ∨ o.isCells = true) : Blk W' k o := hb.same k o h hc
theorem Blk.keepsC {B : Nat} {W W' : World} {k : Nat} {c : Array Value} {T : TypeId} {z : Nat × Nat} (h : Blk W k (.cells c T z)) (hb : KeepsB B W W') : Blk W' k (.cells c T z) := hb.same k _ h (Or.inr rfl)
theorem Blk.set {W : World} {k j : Nat} {c : Array Value} {T : TypeId} {z : Nat × Nat} (h : Blk W k (.cells c T z)) (v : Value) : Blk (W.setCell ⟨k, j, none⟩ v) k (.cells (c.setIfInBounds j v) T z) := by
  unfold Blk at h ⊢
  simp [World.setCell, Array.getElem?_modify, h]
theorem Blk.other {W : World} {k b j : Nat} {o : Obj} (h : Blk W k o) (hne : k ≠ b) (v : Value) : Blk (W.setCell ⟨b, j, none⟩ v) k o := by
  unfold Blk at h ⊢
  simp [World.setCell, Array.getElem?_modify, h, Ne.symm hne]
theorem Blk.cell {W : World} {k : Nat} {c : Array Value} {T : TypeId} {z : Nat × Nat} (h : Blk W k (.cells c T z)) (i : Nat) : W.cell? ⟨k, i, none⟩ = c[i]? := by
  simp [World.cell?, show W.heap[k]? = _ from h]
theorem Blk.frozen {W : World} {k : Nat} {c : Array Value} {T : TypeId} (h : Blk W k (.cells c T (0, 0))) (i : Nat) : W.frozen? ⟨k, i, none⟩ = false := by
  simp [World.frozen?, show W.heap[k]? = _ from h]
theorem Blk.put {W : World} {k b : Nat} {o : Obj} (h : Blk W k o) (hne : k ≠ b) (o' : Obj) : Blk (W.putObj b o') k o := (World.putObj_heap_other hne).trans h
theorem below_keeps {n₀ B : Nat} {w W W' : World} (h : Below n₀ w W) (hk : KeepsB B W W') (hn : n₀ ≤ B) (hs : n₀ ≤ W.heap.size) : Below n₀ w W' :=
  h.trans ⟨hk.os, hk.tape, hk.output, hk.size, fun k hlt => by
    have hlt' : k < W.heap.size := by omega
    rw [hk.same k W.heap[k] (Array.getElem?_eq_getElem hlt') (Or.inl (by omega)), Array.getElem?_eq_getElem hlt']⟩
theorem below4 (w : World) (a b c d : Obj) : Below w.heap.size w ((((w.alloc a).alloc b).alloc c).alloc d) := (below3 w a b c).alloc (by simp; omega) _
/-- An iterator's contract holds in every later world. -/
theorem SeqStopsK.from {α : Type} {F : Fence} {n : Nat} {P : Program} {g : Nat} {lb : Array Value} {encs : α → Array Value} {Kp : World → World → Prop} {S Sp : List α → Prop} {N : Nat} {w w' : World}
    (hb : Below w.heap.size w w') (h : SeqStopsK F n P g lb encs Kp S Sp N w) : SeqStopsK F n P g lb encs Kp S Sp N w' :=
  fun l J Jx W hW hJ hJx hY h0 => h l J Jx W (hb.trans (hW.mono hb.size)) hJ hJx hY h0
theorem KeepsOthers.of_below {W W' : World} (h : Below W.heap.size W W') : KeepsOthers W W' :=
  ⟨h.size, fun k _o hk _ => (h.block k (Array.getElem?_eq_some_iff.1 hk).1).trans hk⟩
theorem PairsAt.get {w : World} {v : Value} {l : List (Int × Int)} (h : PairsAt w v l) (k : Nat) (hk : k < l.length) : ∃ b off cap, v = .slice (some ⟨b, off, none⟩) l.length cap ∧ w.cell? ⟨b, off + k * 2, none⟩ = some (.int .i64 l[k].1) ∧ w.cell? ⟨b, off + k * 2 + 1, none⟩ = some (.int .i64 l[k].2) := by
  obtain ⟨a, cap, e, hc⟩ := h
  obtain ⟨b, off, ea, hc⟩ := hc (by intro h; subst h; exact absurd hk (Nat.not_lt_zero _))
  exact ⟨b, off, cap, by rw [e, ea], hc k hk⟩
theorem IntsAt.get {w : World} {v : Value} {l : List Int} (h : IntsAt w v l) (k : Nat) (hk : k < l.length) : ∃ b off cap, v = .slice (some ⟨b, off, none⟩) l.length cap ∧ w.cell? ⟨b, off + k, none⟩ = some (.int .i64 l[k]) := by
  obtain ⟨a, cap, e, hc⟩ := h
  obtain ⟨b, off, ea, hc⟩ := hc (by intro h; subst h; exact absurd hk (Nat.not_lt_zero _))
  exact ⟨b, off, cap, by rw [e, ea], hc k hk⟩
theorem cellB {W W' : World} {b o : Nat} {v : Value} (h : W.cell? ⟨b, o, none⟩ = some v) (hb : Below W.heap.size W W') : W'.cell? ⟨b, o, none⟩ = some v :=
  (hb.cell (p := ⟨b, o, none⟩) (lt_of_cell h)).trans h
/-- What a cell holds, whatever it is. -/
def theCell (W : World) (a : Addr) : Value := (W.cell? a).getD undef
theorem theCell_of {W : World} {a : Addr} {v : Value} (h : W.cell? a = some v) : W.cell? a = some (theCell W a) := by
  unfold theCell; rw [h]; rfl
theorem some_set {W : World} {p a : Addr} {u : Value} (h : ((W.setCell p u).cell? a).isSome = true) : (W.cell? a).isSome = true := by
  unfold World.cell? World.setCell at h
  unfold World.cell?
  simp only [Array.getElem?_modify] at h
  by_cases e : p.block = a.block
  · rw [if_pos e] at h
    cases hb : W.heap[a.block]? with
    | none => rw [hb] at h; simp at h
    | some o =>
      rw [hb] at h
      cases o with
      | cells c t f =>
        simp at h ⊢
        have e2 : (if p.spot.isSome = true then c else c.setIfInBounds p.off u).size = c.size := by split <;> simp
        split at h <;> simp_all
      | _ => simp at h
  · rw [if_neg e] at h
    exact h
theorem some_set3 {W : World} {p q r a : Addr} {u v z x : Value} (h : (((W.setCell p u).setCell q v).setCell r z).cell? a = some x) : (W.cell? a).isSome = true :=
  some_set (some_set (some_set (by rw [h]; rfl)))
theorem cell_other {W : World} {b o b' o' : Nat} {v u : Value} (h : W.cell? ⟨b, o, none⟩ = some v) (hne : b ≠ b') : (W.setCell ⟨b', o', none⟩ u).cell? ⟨b, o, none⟩ = some v := by
  rw [World.cell?_setCell_other]
  · exact h
  · intro e; cases e; exact hne rfl
theorem cell_some {W : World} {a p : Addr} {v u : Value} (h : W.cell? a = some v) : ∃ v', (W.setCell p u).cell? a = some v' := by
  obtain ⟨v', h'⟩ := cell?_setCell_some (w := W) (p := p) (x := u) (q := a) (v := v) h
  exact ⟨v', h'⟩
theorem some_set2 {W : World} {p q a : Addr} {u v x : Value} (h : ((W.setCell p u).setCell q v).cell? a = some x) : (W.cell? a).isSome = true :=
  some_set (some_set (by rw [h]; rfl))
/-- The slice value v is a row of the call's own: n elements of so many cells each. -/
def Row (w : World) (v : Value) (n size : Nat) (xs : List Value) : Prop :=
  xs.length = n * size ∧ ((v = .slice none 0 0 ∧ n = 0) ∨
    ∃ g cap cur e, v = .slice (some ⟨g, 0, none⟩) n cap ∧ Blk w g (.cells cur e (0, 0)) ∧ n ≤ cap ∧ cap ≤ maxLen ∧ cur.size = cap * size ∧ cur.toList.take (n * size) = xs)
theorem Row.nil (w : World) (size : Nat) : Row w (.slice none 0 0) 0 size [] := ⟨by simp, Or.inl ⟨rfl, rfl⟩⟩
theorem Row.of_owns {w : World} {base : Nat} {e : TypeId} {size : Nat} {v : Value} {n : Nat} {xs : List Value} (h : w.ownsRow base e size v n xs) : Row w v n size xs := by
  obtain ⟨h1, h2 | ⟨g, cap, cur, e1, e2, e3, e4, e5, e6, e7⟩⟩ := h
  · exact ⟨h1, Or.inl h2⟩
  · exact ⟨h1, Or.inr ⟨g, cap, cur, e, e1, e3, e4, e5, e6, e7⟩⟩
theorem Row.below {w w' : World} {v : Value} {n size : Nat} {xs : List Value} (h : Row w v n size xs) (hb : Below w.heap.size w w') : Row w' v n size xs := by
  obtain ⟨h1, h2 | ⟨g, cap, cur, e, e1, e3, e4, e5, e6, e7⟩⟩ := h
  · exact ⟨h1, Or.inl h2⟩
  · exact ⟨h1, Or.inr ⟨g, cap, cur, e, e1, e3.below hb, e4, e5, e6, e7⟩⟩
theorem Row.keeps {B : Nat} {w w' : World} {v : Value} {n size : Nat} {xs : List Value} (h : Row w v n size xs) (hb : KeepsB B w w') : Row w' v n size xs := by
  obtain ⟨h1, h2 | ⟨g, cap, cur, e, e1, e3, e4, e5, e6, e7⟩⟩ := h
  · exact ⟨h1, Or.inl h2⟩
  · exact ⟨h1, Or.inr ⟨g, cap, cur, e, e1, e3.keepsC hb, e4, e5, e6, e7⟩⟩
theorem Row.cells {w : World} {v : Value} {n size : Nat} {xs : List Value} (h : Row w v n size xs) : ∃ a cap, v = .slice a n cap ∧ n ≤ cap ∧ (a = none → n = 0 ∧ cap = 0) ∧ (∀ b, a = some b → ∀ j u, xs[j]? = some u → w.cell? (b.add j) = some u) ∧ xs.length = n * size := by
  obtain ⟨h1, ⟨e1, e2⟩ | ⟨g, cap, cur, e, e1, e3, e4, e5, e6, e7⟩⟩ := h
  · exact ⟨none, 0, by rw [e1, e2], by omega, fun _ => ⟨e2, rfl⟩, (fun _ h => by cases h), h1⟩
  · refine ⟨some ⟨g, 0, none⟩, cap, e1, e4, (fun h => by cases h), ?_, h1⟩
    intro b hb j u hu
    cases hb
    have : (Addr.add ⟨g, 0, none⟩ j) = ⟨g, j, none⟩ := by unfold Addr.add; split <;> simp_all
    rw [this, e3.cell]
    rw [← e7, List.getElem?_take] at hu
    split at hu
    · simpa using hu
    · cases hu
theorem addB {W W' : World} {b : Addr} {j : Nat} {v : Value} (h : W.cell? (b.add j) = some v) (hb : Below W.heap.size W W') : W'.cell? (b.add j) = some v := by
  refine (hb.cell ?_).trans h
  unfold World.cell? at h
  split at h
  · rename_i hx; exact (Array.getElem?_eq_some_iff.1 hx).1
  · cases h
theorem below_of_grown {W W' : World} (h : W.grownBy W' none) : Below W.heap.size W W' :=
  (Below.refl _ W).grown h (Nat.le_refl _) (fun k e => by cases e)
/-- What a list that has grown is. -/
def Grew (w : World) (n size : Nat) (xs : List Value) (e : Ending) (w' : World) : Prop := ∃ v', e = .returned v' ∧ Row w' v' n size xs ∧ Below w.heap.size w w'
theorem run_copy_cells {P : Program} (w : World) (dT sT ty elem : TypeId) (g dLen dCap : Nat) (a : Addr) (sLen sCap size : Nat) (cur : Array Value) (t : TypeId) (cs : List Value)
    (hu : P.underlying dT = some (.slice elem)) (hs : (P.info? elem).map (·.size) = some size)
    (hg : w.heap[g]? = some (.cells cur t (0, 0))) (hn : cs.length = Nat.min sLen dLen * size)
    (hsrc : ∀ j v, cs[j]? = some v → w.cell? (a.add j) = some v) (hfit : cs.length ≤ cur.size) (h1 : ∀ v ∈ cs, v.oneCell' = true) :
    (Builtin.copy_ #[dT, sT] ty #[.slice (some ⟨g, 0, none⟩) dLen dCap, .slice (some a) sLen sCap]).run P w =
      .ok (goInt (Nat.min sLen dLen)) (w.setRow g (cs ++ cur.toList.drop cs.length).toArray) := by
  have hl := run_loadCells_list (P := P) w a cs hsrc
  have hst := run_storeCells_at P g 0 t cs 0 cur w hg (by simpa using hfit) h1
  simp only [Nat.zero_add, List.take_zero, List.nil_append] at hst
  cases hq : P.info? elem with
  | none => simp [hq] at hs
  | some i =>
    have hi : i.size = size := by simpa [hq] using hs
    simp [Builtin.copy_, run_underlying hu, Builtin.lenOf, Builtin.firstCells, sizeOf, typeInfo, hq, hi, ← hn, hl, hst]
theorem wpList_copy_cells {P : Program} {w : World} {ops : Array Oper} {rest : List Oper} {o : Oper} {a : Act} {Q : Exit → Act → World → Prop} (hgd : o.guard = none) (d s : Operand) (dT sT : TypeId)
    (ho : o.op = .call { callee := .builtin .copy, args := #[d, s], argTypes := #[dT, sT] }) (elem : TypeId) (size : Nat) (hu : P.underlying dT = some (.slice elem)) (hsz : (P.info? elem).map (·.size) = some size)
    (g dLen dCap : Nat) (ad : Addr) (sLen sCap : Nat) (hd : a.eval d = .slice (some ⟨g, 0, none⟩) dLen dCap) (hs : a.eval s = .slice (some ad) sLen sCap)
    (cur : Array Value) (t : TypeId) (hg : w.heap[g]? = some (.cells cur t (0, 0))) (cs : List Value) (hn : cs.length = Nat.min sLen dLen * size)
    (hsrc : ∀ j v, cs[j]? = some v → w.cell? (ad.add j) = some v) (hfit : cs.length ≤ cur.size) (h1 : ∀ v ∈ cs, v.oneCell' = true)
    (h : wpList P ops Q rest (a.put o.dst (goInt (Nat.min sLen dLen))) (w.setRow g (cs ++ cur.toList.drop cs.length).toArray)) : wpList P ops Q (o :: rest) a w := by
  refine wpList_plain hgd fun K hK => ?_
  have hrun := run_copy_cells (P := P) w dT sT o.type elem g dLen dCap ad sLen sCap size cur t cs hu hsz hg hn hsrc hfit h1
  unfold Oper.wp
  simp [execOp, ho, resolve, invoke, builtin, hd, hs, hrun, Result.andThen]
  exact hK _ _ h
def intCells (l : List Int) : List Value := l.map (.int .i64 ·)
theorem intCells_length (l : List Int) : (intCells l).length = l.length := by simp [intCells]
theorem intCells_one {l : List Int} {u : Value} (h : u ∈ intCells l) : u.oneCell' = true := by
  obtain ⟨x, _, rfl⟩ := List.mem_map.1 h; rfl
def pairCells (l : List (Int × Int)) : List Value := l.flatMap fun p => [.int .i64 p.1, .int .i64 p.2]
theorem pairCells_length (l : List (Int × Int)) : (pairCells l).length = l.length * 2 := by
  induction l with
  | nil => rfl
  | cons x l ih => simp only [pairCells, List.flatMap_cons, List.length_append, List.length_cons, List.length_nil] at ih ⊢; omega
theorem pairCells_one {l : List (Int × Int)} {u : Value} (h : u ∈ pairCells l) : u.oneCell' = true := by
  obtain ⟨x, _, h⟩ := List.mem_flatMap.1 h
  simp at h
  rcases h with rfl | rfl <;> rfl
theorem addr_add (b off j : Nat) : (⟨b, off, none⟩ : Addr).add j = ⟨b, off + j, none⟩ := by unfold Addr.add; split <;> simp_all
theorem intCells_src {w : World} {b off : Nat} {l : List Int} (hc : ∀ i (h : i < l.length), w.cell? ⟨b, off + i, none⟩ = some (.int .i64 l[i])) {j : Nat} {u : Value} (hu : (intCells l)[j]? = some u) : (⟨b, off, none⟩ : Addr).add j = ⟨b, off + j, none⟩ ∧ w.cell? ⟨b, off + j, none⟩ = some u := by
  refine ⟨addr_add _ _ _, ?_⟩
  unfold intCells at hu
  obtain ⟨hj, e⟩ := List.getElem?_eq_some_iff.1 hu
  simp at hj e
  rw [hc j hj, e]
theorem pairCells_get (l : List (Int × Int)) (j : Nat) (hj : j < l.length) : (pairCells l)[j * 2]? = some (.int .i64 l[j].1) ∧ (pairCells l)[j * 2 + 1]? = some (.int .i64 l[j].2) := by
  induction l generalizing j with
  | nil => simp at hj
  | cons x l ih =>
    have e : pairCells (x :: l) = .int .i64 x.1 :: .int .i64 x.2 :: pairCells l := by simp [pairCells]
    rw [e]
    cases j with
    | zero => simp
    | succ j =>
      have := ih j (by simpa using hj)
      have e2 : (j + 1) * 2 = j * 2 + 1 + 1 := by omega
      rw [e2]
      simpa using this
theorem pairCells_src {w : World} {b off : Nat} {l : List (Int × Int)} (hc : ∀ i (h : i < l.length), w.cell? ⟨b, off + i * 2, none⟩ = some (.int .i64 l[i].1) ∧ w.cell? ⟨b, off + i * 2 + 1, none⟩ = some (.int .i64 l[i].2)) {j : Nat} {u : Value} (hu : (pairCells l)[j]? = some u) : (⟨b, off, none⟩ : Addr).add j = ⟨b, off + j, none⟩ ∧ w.cell? ⟨b, off + j, none⟩ = some u := by
  refine ⟨addr_add _ _ _, ?_⟩
  have hj := (List.getElem?_eq_some_iff.1 hu).1
  rw [pairCells_length] at hj
  obtain ⟨g1, g2⟩ := pairCells_get l (j / 2) (by omega)
  obtain ⟨c1, c2⟩ := hc (j / 2) (by omega)
  rcases (show j = j / 2 * 2 ∨ j = j / 2 * 2 + 1 by omega) with e | e
  · rw [← e] at g1 c1
    rw [g1] at hu; cases hu; exact c1
  · rw [← e] at g2
    rw [Nat.add_assoc, ← e] at c2
    rw [g2] at hu; cases hu; exact c2
theorem IntsAt.of_blk {w : World} {g cap : Nat} {l : List Int} {T : TypeId} (h : Blk w g (.cells (intCells l).toArray T)) : IntsAt w (.slice (some ⟨g, 0, none⟩) l.length cap) l := by
  refine ⟨_, _, rfl, fun _ => ⟨_, _, rfl, fun i hi => ?_⟩⟩
  rw [h.cell]
  simp [intCells, hi]
theorem PairsAt.of_blk {w : World} {g cap : Nat} {l : List (Int × Int)} {T : TypeId} (h : Blk w g (.cells (pairCells l).toArray T)) : PairsAt w (.slice (some ⟨g, 0, none⟩) l.length cap) l := by
  refine ⟨_, _, rfl, fun _ => ⟨_, _, rfl, fun i hi => ?_⟩⟩
  obtain ⟨g1, g2⟩ := pairCells_get l i hi
  constructor
  · rw [h.cell]; simpa using g1
  · rw [h.cell]; simpa using g2
theorem rowOf {P B : Prop} {W : World} {v : Value} {n size : Nat} {xs : List Value} (h : P ∧ Row W v n size xs ∧ B) : Row W v n size xs := h.2.1
theorem Row.slice {w : World} {v : Value} {n size : Nat} {xs : List Value} (h : Row w v n size xs) : ∃ a n c, v = .slice a n c := by
  obtain ⟨a, cap, e, _⟩ := h.cells
  exact ⟨a, n, cap, e⟩
theorem Blk.cell0 {W : World} {k : Nat} {v : Value} {T : TypeId} {z : Nat × Nat} (h : Blk W k (.cells #[v] T z)) : W.cell? ⟨k, 0, none⟩ = some v := by
  rw [h.cell]; rfl
theorem okInts_get {lo hi : Int} {l : List Int} (h : okInts lo hi l = true) (k : Nat) (hk : k < l.length) : lo ≤ l[k] ∧ l[k] ≤ hi := by
  unfold okInts at h
  rw [List.all_eq_true] at h
  simpa using h _ (List.getElem_mem hk)
/-- W is w but for block L, and for what is new. -/
structure FrL (w : World) (L : Nat) (W : World) : Prop where
  size : w.heap.size ≤ W.heap.size
  same : ∀ k, k < w.heap.size → k ≠ L → W.heap[k]? = w.heap[k]?
  os : W.os = w.os
  tape : W.tape = w.tape
  output : W.output = w.output
theorem FrL.below {w W W' : World} {L : Nat} (h : FrL w L W) (hb : Below W.heap.size W W') : FrL w L W' :=
  ⟨Nat.le_trans h.size hb.size, fun k hk hne => (hb.block k (Nat.lt_of_lt_of_le hk h.size)).trans (h.same k hk hne), hb.os.trans h.os, hb.tape.trans h.tape, hb.output.trans h.output⟩
theorem FrL.of_below {w W : World} {L : Nat} (h : Below w.heap.size w W) : FrL w L W := ⟨h.size, fun k hk _ => h.block k hk, h.os, h.tape, h.output⟩
theorem FrL.set {w W : World} {L : Nat} (h : FrL w L W) (j : Nat) (v : Value) : FrL w L (W.setCell ⟨L, j, none⟩ v) :=
  ⟨by simpa [World.setCell] using h.size, fun k hk hne => (Below.heap_setCell _ _ _ _ (by simp; omega)).trans (h.same k hk hne), h.os, h.tape, h.output⟩
/-- W is w but for blocks L and M, and for what is new. -/
structure FrLM (w : World) (L M : Nat) (W : World) : Prop where
  size : w.heap.size ≤ W.heap.size
  same : ∀ k, k < w.heap.size → k ≠ L → k ≠ M → W.heap[k]? = w.heap[k]?
  os : W.os = w.os
  tape : W.tape = w.tape
  output : W.output = w.output
theorem FrL.put {w W : World} {L : Nat} (h : FrL w L W) (M : Nat) (o : Obj) : FrLM w L M (W.putObj M o) :=
  ⟨by simpa using h.size, fun k hk h1 h2 => (World.putObj_heap_other h2).trans (h.same k hk h1), h.os, h.tape, h.output⟩
/-- A list of numbers in a block other than L is there still. -/
theorem IntsAt.fr {w W : World} {L : Nat} {v : Value} {l : List Int} (h : IntsAt w v l) (hF : FrL w L W) (hne : ∀ b off n c, v = .slice (some ⟨b, off, none⟩) n c → b ≠ L) : IntsAt W v l := by
  obtain ⟨a, cap, e, hc⟩ := h
  refine ⟨a, cap, e, fun hn => ?_⟩
  obtain ⟨b, off, ea, hc⟩ := hc hn
  refine ⟨b, off, ea, fun i hi => ?_⟩
  have hx := hc i hi
  rw [← hx]
  exact World.cell?_of_block (hF.same b (lt_of_cell hx) (hne b off _ cap (by rw [e, ea])))
theorem PairsAt.fr {w W : World} {L : Nat} {v : Value} {l : List (Int × Int)} (h : PairsAt w v l) (hF : FrL w L W) (hne : ∀ b off n c, v = .slice (some ⟨b, off, none⟩) n c → b ≠ L) : PairsAt W v l := by
  obtain ⟨a, cap, e, hc⟩ := h
  refine ⟨a, cap, e, fun hn => ?_⟩
  obtain ⟨b, off, ea, hc⟩ := hc hn
  refine ⟨b, off, ea, fun i hi => ?_⟩
  have hne' := hne b off _ cap (by rw [e, ea])
  obtain ⟨hx, hy⟩ := hc i hi
  rw [← hx, ← hy]
  exact ⟨World.cell?_of_block (hF.same b (lt_of_cell hx) hne'), World.cell?_of_block (hF.same b (lt_of_cell hx) hne')⟩
theorem run_clear_map {P : Program} {t ty k e : TypeId} {M : Nat} {es : Array MapEntry} {clock : Nat} {W : World} (ht : P.underlying t = some (.map k e)) (hM : Blk W M (.map es clock)) :
    (Builtin.clear_ #[t] ty #[.map (some M)]).run P W = .ok (.tuple #[]) (W.putObj M (.map #[] clock)) := by
  unfold Blk at hM
  simp [Builtin.clear_, run_underlying ht, getObj, setObj, Sem.run, hM, World.putObj, go_sem]
theorem bC {w W W' : World} (h : Below w.heap.size w W) (hb : Below W.heap.size W W') : Below w.heap.size w W' := h.trans (hb.mono h.size)
end Go.Proofs.Ytjbeoakikdkdaaa

namespace Go.Proofs.Ytjbeoakikdkdaaa
open Go.RowKit Go.Shelf
attribute [local go_sem] Oper.semAt_some
/-! What all layers share: made of general parts by base.py. -/
theorem ne_types {W : World} {g B : Nat} {c d : Array Value} {e T : TypeId} {z y : Nat × Nat} (h : Blk W g (.cells c e z)) (hB : Blk W B (.cells d T y)) (hne : T ≠ e) : g ≠ B := by
  rintro rfl
  have := Option.some.inj (h.symm.trans hB)
  injection this with _ h2 _
  exact hne h2.symm
theorem owns_set {W : World} {base size n : Nat} {e T : TypeId} {v : Value} {xs : List Value} {B : Nat} {d : Array Value} {y : Nat × Nat} (h : W.ownsRow base e size v n xs) (hB : Blk W B (.cells d T y)) (hne : T ≠ e) (j : Nat) (u : Value) : (W.setCell ⟨B, j, none⟩ u).ownsRow base e size v n xs := by
  obtain ⟨h1, h2 | ⟨g, cap, cur, e1, e2, e3, e4⟩⟩ := h
  · exact ⟨h1, .inl h2⟩
  · exact ⟨h1, .inr ⟨g, cap, cur, e1, e2, Blk.other e3 (ne_types e3 hB hne) u, e4⟩⟩
theorem owns_below {W W' : World} {base size n : Nat} {e : TypeId} {v : Value} {xs : List Value} (h : W.ownsRow base e size v n xs) (hb : Below W.heap.size W W') : W'.ownsRow base e size v n xs := by
  obtain ⟨h1, h2 | ⟨g, cap, cur, e1, e2, e3, e4⟩⟩ := h
  · exact ⟨h1, .inl h2⟩
  · exact ⟨h1, .inr ⟨g, cap, cur, e1, e2, Blk.below e3 hb, e4⟩⟩
theorem Blk.grown {W W' : World} {base size n : Nat} {e T : TypeId} {v : Value} {xs : List Value} {B : Nat} {d : Array Value} {y : Nat × Nat} (hB : Blk W B (.cells d T y)) (h : W.ownsRow base e size v n xs) (hne : T ≠ e) (hg : W.grownBy W' v.ownBlock) : Blk W' B (.cells d T y) := by
  refine (hg.block B hB.lt ?_).trans hB
  obtain ⟨h1, h2 | ⟨g, cap, cur, e1, e2, e3, e4⟩⟩ := h
  · rw [h2.1]; intro h; cases h
  · rw [e1]
    intro h
    exact ne_types e3 hB hne (Option.some.inj h).symm
theorem below_owns {W W' : World} {w : World} {base size n : Nat} {e : TypeId} {v : Value} {xs : List Value} (h : W.ownsRow base e size v n xs) (hg : W.grownBy W' v.ownBlock) (hb : Below base w W) (hs : base ≤ W.heap.size) : Below base w W' := by
  refine hb.grown hg hs ?_
  obtain ⟨h1, h2 | ⟨g, cap, cur, e1, e2, e3, e4⟩⟩ := h
  · rw [h2.1]; intro k h; cases h
  · rw [e1]
    intro k h
    have := Option.some.inj h
    simp only at this
    omega
theorem intCells_get (l : List Int) (j : Nat) (hj : j < l.length) : (l.map (Value.int .i64))[j]? = some (.int .i64 l[j]) := by simp [hj]
theorem Row.ints {w : World} {v : Value} {l : List Int} (h : Row w v l.length 1 (l.map (Value.int .i64))) : IntsAt w v l := by
  obtain ⟨h1, ⟨h2, h3⟩ | ⟨g, cap, cur, e, e1, e3, e4, e5, e6, e7⟩⟩ := h
  · exact ⟨none, 0, by rw [h2, h3], fun hn => absurd (List.length_eq_zero_iff.1 h3) hn⟩
  · refine ⟨some ⟨g, 0, none⟩, cap, e1, fun _ => ⟨g, 0, rfl, fun j hj => ?_⟩⟩
    have c1 := intCells_get l j hj
    rw [← e7] at c1
    rw [e3.cell, Nat.zero_add]
    simp only [List.getElem?_take, Array.getElem?_toList] at c1
    rw [if_pos (by omega)] at c1
    exact c1
/-- A row of another type stands while one grows. -/
theorem owns_grown {W W' : World} {base base' size size' n n' : Nat} {e e' : TypeId} {v v' : Value} {xs xs' : List Value} (h : W.ownsRow base e size v n xs) (h' : W.ownsRow base' e' size' v' n' xs') (hne : e' ≠ e) (hg : W.grownBy W' v.ownBlock) : W'.ownsRow base' e' size' v' n' xs' := by
  obtain ⟨h1, h2 | ⟨g, cap, cur, e1, e2, e3, e4⟩⟩ := h'
  · exact ⟨h1, .inl h2⟩
  · exact ⟨h1, .inr ⟨g, cap, cur, e1, e2, Blk.grown e3 h hne hg, e4⟩⟩
theorem cells_pair {W : World} {b : Nat} {x y : Value} (h0 : W.cell? ⟨b, 0, none⟩ = some x) (h1 : W.cell? ⟨b, 1, none⟩ = some y) : ∀ m u, [x, y][m]? = some u → W.cell? (Addr.add ⟨b, 0, none⟩ m) = some u := by
  intro m u hu
  have e1 : (Addr.add ⟨b, 0, none⟩ m) = ⟨b, m, none⟩ := by unfold Addr.add; split <;> simp_all
  rw [e1]
  match m with
  | 0 => rw [h0]; simpa using hu
  | 1 => rw [h1]; simpa using hu
  | m + 2 => simp at hu
theorem cells_one {W : World} {b : Nat} {x : Value} (h0 : W.cell? ⟨b, 0, none⟩ = some x) : ∀ m u, [x][m]? = some u → W.cell? (Addr.add ⟨b, 0, none⟩ m) = some u := by
  intro m u hu
  have e1 : (Addr.add ⟨b, 0, none⟩ m) = ⟨b, m, none⟩ := by unfold Addr.add; split <;> simp_all
  rw [e1]
  match m with
  | 0 => rw [h0]; simpa using hu
  | m + 1 => simp at hu
theorem tmodN (x N : Int) (h0 : 0 ≤ x) (h : 0 < N) : 0 ≤ x.tmod N ∧ x.tmod N < N := by
  rw [Int.tmod_eq_emod_of_nonneg h0]
  exact ⟨Int.emod_nonneg _ (by omega), Int.emod_lt_of_pos _ h⟩
theorem tmodZ (x N : Int) (h : 0 < N) : -N < x.tmod N ∧ x.tmod N < N := by
  have h1 : (x.tmod N).natAbs = x.natAbs % N.natAbs := Int.natAbs_tmod ..
  have h2 : x.natAbs % N.natAbs < N.natAbs := Nat.mod_lt _ (by omega)
  omega
theorem mulN {a b A B : Int} (h1 : 0 ≤ a) (h2 : a ≤ A) (h3 : 0 ≤ b) (h4 : b ≤ B) : 0 ≤ a * b ∧ a * b ≤ A * B :=
  ⟨Int.mul_nonneg h1 h3, Int.mul_le_mul h2 h4 h3 (by omega)⟩
theorem new_cells (W : World) (l : List Value) (T : TypeId) : ∀ (j : Nat) (u : Value), l[j]? = some u → (W.alloc (.cells l.toArray T)).cell? (Addr.add ⟨W.heap.size, 0, none⟩ j) = some u := by
  intro j u hu
  have e1 : (Addr.add ⟨W.heap.size, 0, none⟩ j) = ⟨W.heap.size, j, none⟩ := by unfold Addr.add; split <;> simp_all
  rw [e1, (Blk.new W (.cells l.toArray T)).cell]
  simpa using hu
theorem one4 (x y z u : Int) : ∀ q ∈ [Value.int .i64 x, Value.int .i64 y, Value.int .i64 z, Value.int .i64 u], q.oneCell' = true := by
  intro q hq
  simp only [List.mem_cons, List.not_mem_nil, or_false] at hq
  rcases hq with rfl | rfl | rfl | rfl <;> rfl
/-- A list of pairs, as the program holds it. -/
theorem Row.pairs {w : World} {v : Value} {l : List (Int × Int)} (h : Row w v l.length 2 (pairCells l)) : PairsAt w v l := by
  obtain ⟨h1, ⟨h2, h3⟩ | ⟨g, cap, cur, e, e1, e3, e4, e5, e6, e7⟩⟩ := h
  · exact ⟨none, 0, by rw [h2, h3], fun hn => absurd (List.length_eq_zero_iff.1 h3) hn⟩
  · refine ⟨some ⟨g, 0, none⟩, cap, e1, fun _ => ⟨g, 0, rfl, fun j hj => ?_⟩⟩
    obtain ⟨c1, c2⟩ := pairCells_get l j hj
    rw [← e7] at c1 c2
    rw [e3.cell, e3.cell, Nat.zero_add]
    simp only [List.getElem?_take, Array.getElem?_toList] at c1 c2
    rw [if_pos (by omega)] at c1 c2
    exact ⟨c1, c2⟩
def Apart (v v' : Value) : Prop := ∀ g, v.ownBlock = some g → v'.ownBlock = some g → False
theorem owns_block {W : World} {base size n : Nat} {e : TypeId} {v : Value} {xs : List Value} (h : W.ownsRow base e size v n xs) {g : Nat} (hg : v.ownBlock = some g) : g < W.heap.size := by
  obtain ⟨h1, h2 | ⟨g', cap, cur, e1, e2, e3, e4⟩⟩ := h
  · rw [h2.1] at hg; cases hg
  · rw [e1] at hg
    obtain rfl : g' = g := by simpa [Value.ownBlock] using hg
    exact Blk.lt e3
theorem owns_apart {W W' : World} {base size n : Nat} {e : TypeId} {v v' : Value} {xs : List Value} (h : W.ownsRow base e size v' n xs) (ha : Apart v' v) (hg : W.grownBy W' v.ownBlock) : W'.ownsRow base e size v' n xs := by
  obtain ⟨h1, h2 | ⟨g, cap, cur, e1, e2, e3, e4⟩⟩ := h
  · exact ⟨h1, .inl h2⟩
  · refine ⟨h1, .inr ⟨g, cap, cur, e1, e2, (hg.block g (Blk.lt e3) ?_).trans e3, e4⟩⟩
    intro hh
    exact ha g (by rw [e1]; rfl) hh.symm
theorem apart_grown {W : World} {base size n : Nat} {e : TypeId} {v v' v2 : Value} {xs : List Value} (h : W.ownsRow base e size v' n xs) (ha : Apart v' v) (hat : v2.ownBlock = v.ownBlock ∨ v2.ownBlock = some W.heap.size) : Apart v' v2 := by
  intro g h1 h2
  rcases hat with e | e
  · exact ha g h1 (by rw [← e]; exact h2)
  · have h3 := owns_block h h1
    rw [e] at h2
    have := Option.some.inj h2
    omega
end Go.Proofs.Ytjbeoakikdkdaaa

namespace Go.Proofs.Ytjbeoakikdkdaaa
open Go.RowKit

/-! ## An array of numbers in a block of its own -/
def ArrAt (W : World) (g n : Nat) (T : TypeId) (f : Nat → Int) : Prop := ∃ cs, Blk W g (.cells cs T) ∧ cs.size = n ∧ ∀ i, i < n → cs[i]? = some (.int .i64 (f i))
def updF (f : Nat → Int) (i : Nat) (v : Int) : Nat → Int := fun j => if j = i then v else f j
theorem updF_same (f : Nat → Int) (i : Nat) (v : Int) : updF f i v i = v := by unfold updF; rw [if_pos rfl]
theorem updF_other {f : Nat → Int} {i j : Nat} (v : Int) (h : j ≠ i) : updF f i v j = f j := by unfold updF; rw [if_neg h]
section
variable {W W' : World} {g n : Nat} {T : TypeId} {f : Nat → Int}
theorem ArrAt.below (h : ArrAt W g n T f) (hb : Below W.heap.size W W') : ArrAt W' g n T f := by
  obtain ⟨cs, h1, h2⟩ := h
  exact ⟨cs, h1.below hb, h2⟩
theorem ArrAt.below' {B : Nat} (h : ArrAt W g n T f) (hb : Below B W W') (hg : g < B) : ArrAt W' g n T f := by
  obtain ⟨cs, h1, h2⟩ := h
  exact ⟨cs, h1.below' hb hg, h2⟩
theorem ArrAt.lt (h : ArrAt W g n T f) : g < W.heap.size := by
  obtain ⟨cs, h1, _⟩ := h
  exact h1.lt
theorem ArrAt.cell (h : ArrAt W g n T f) {i : Nat} (hi : i < n) : W.cell? ⟨g, i, none⟩ = some (.int .i64 (f i)) := by
  obtain ⟨cs, h1, _, h3⟩ := h
  rw [h1.cell]
  exact h3 i hi
theorem ArrAt.frozen (h : ArrAt W g n T f) (i : Nat) : W.frozen? ⟨g, i, none⟩ = false := by
  obtain ⟨cs, h1, _⟩ := h
  exact h1.frozen i
theorem ArrAt.set (h : ArrAt W g n T f) (i : Nat) (v : Int) : ArrAt (W.setCell ⟨g, i, none⟩ (.int .i64 v)) g n T (updF f i v) := by
  obtain ⟨cs, h1, h2, h3⟩ := h
  refine ⟨_, h1.set (.int .i64 v), by simpa using h2, fun j hj => ?_⟩
  rw [Array.getElem?_setIfInBounds]
  unfold updF
  by_cases e : i = j
  · subst e
    rw [if_pos rfl, if_pos (by omega), if_pos rfl]
  · rw [if_neg e, if_neg (fun h => e h.symm)]
    exact h3 j hj
theorem ArrAt.other (h : ArrAt W g n T f) {b j : Nat} (hne : g ≠ b) (v : Value) : ArrAt (W.setCell ⟨b, j, none⟩ v) g n T f := by
  obtain ⟨cs, h1, h2⟩ := h
  exact ⟨cs, h1.other hne v, h2⟩
theorem ArrAt.keeps {B : Nat} (h : ArrAt W g n T f) (hb : KeepsB B W W') : ArrAt W' g n T f := by
  obtain ⟨cs, h1, h2⟩ := h
  exact ⟨cs, h1.keepsC hb, h2⟩
theorem ArrAt.same {f' : Nat → Int} (h : ArrAt W g n T f) (e : ∀ i, i < n → f' i = f i) : ArrAt W g n T f' := by
  obtain ⟨cs, h1, h2, h3⟩ := h
  exact ⟨cs, h1, h2, fun i hi => by rw [e i hi]; exact h3 i hi⟩
theorem ArrAt.ints (h : ArrAt W g n T f) (cap : Nat) : IntsAt W (.slice (some ⟨g, 0, none⟩) n cap) ((List.range n).map f) := by
  refine ⟨some ⟨g, 0, none⟩, cap, by simp, fun _ => ⟨g, 0, rfl, fun i hi => ?_⟩⟩
  simp only [List.length_map, List.length_range] at hi
  rw [Nat.zero_add, h.cell hi]
  simp
theorem ArrAt.zeros (W : World) (n : Nat) (T : TypeId) : ArrAt (W.alloc (.cells (madeCells #[.int .i64 0] n) T)) W.heap.size n T (fun _ => 0) := by
  refine ⟨_, Blk.new _ _, size_madeCells _ _, fun i hi => ?_⟩
  rw [← Array.getElem?_toList, toList_madeCells_one, List.getElem?_replicate, if_pos hi]
end
theorem Try.info64 : (Try.prog.info? 2).map (fun i => (i.zero, i.size, i.bytes)) = some (some (.int .i64 0), 1, 8) := by kernel_rfl
/-- make([]int64, n). -/
theorem make64 (n : Nat) (w : World) (hn : n ≤ 1000) : (Instr.makeSlice 25 (.int .i64 (n : Int)) (.int .i64 (n : Int))).run Try.prog w =
    .ok (.slice (some ⟨w.heap.size, 0, none⟩) n n) (w.alloc (.cells (madeCells #[.int .i64 0] n) 2)) := by
  obtain ⟨i0, hi, hz0', hz1, hz2⟩ := info_parts Try.info64
  have hmk := run_make (P := Try.prog) w 25 2 i0 (.int .i64 0) Try.underlying25 hi hz0' .i64 .i64 n n (by omega) (by omega) (by rw [hz2]; omega) (by omega)
  rw [hz1, Int.toNat_natCast, Nat.mul_one] at hmk
  exact hmk
/-- Two made at once, the one or the other first. -/
def Made2 (w : World) (n m : Nat) (g1 g2 : Nat) (w' : World) : Prop :=
  ArrAt w' g1 n 2 (fun _ => 0) ∧ ArrAt w' g2 m 2 (fun _ => 0) ∧ g1 ≠ g2 ∧ w.heap.size ≤ g1 ∧ w.heap.size ≤ g2 ∧ Below w.heap.size w w'
theorem made12 (w : World) (n m : Nat) : Made2 w n m w.heap.size (w.heap.size + 1) ((w.alloc (.cells (madeCells #[.int .i64 0] n) 2)).alloc (.cells (madeCells #[.int .i64 0] m) 2)) := by
  have h2 := ArrAt.zeros (w.alloc (.cells (madeCells #[.int .i64 0] n) 2)) m 2
  rw [World.size_alloc] at h2
  exact ⟨(ArrAt.zeros w n _).below (below1 _ _), h2, by omega, Nat.le_refl _, by omega, below2 _ _ _⟩
theorem made21 (w : World) (n m : Nat) : Made2 w n m (w.heap.size + 1) w.heap.size ((w.alloc (.cells (madeCells #[.int .i64 0] m) 2)).alloc (.cells (madeCells #[.int .i64 0] n) 2)) := by
  obtain ⟨h1, h2, h3, h4, h5, h6⟩ := made12 w m n
  exact ⟨h2, h1, by omega, h5, h4, h6⟩
end Go.Proofs.Ytjbeoakikdkdaaa

namespace Go.Proofs.Ytjbeoakikdkdaaa
open Go.RowKit

/-! ## Loops with a range over a function in them: the marks that each round leaves -/
/-- Marks of loops that are over: each in a block of its own, from B on. -/
def Marks (B : Nat) (ds : List Deferred) (w : World) : Prop :=
  ∃ Ds : List Nat, ds = Ds.map (fun D => ({ target := .collected D, args := #[] } : Deferred)) ∧ Ds.Nodup ∧ ∀ D ∈ Ds, B ≤ D ∧ w.heap[D]? = some (.deferred (some []))
theorem KeepsB.trans {B : Nat} {X Y Z : World} (h : KeepsB B X Y) (k : KeepsB B Y Z) : KeepsB B X Z :=
  ⟨Nat.le_trans h.size k.size, fun i o hi hc => k.same i o (h.same i o hi hc) hc, k.tape.trans h.tape, k.os.trans h.os, k.output.trans h.output⟩
theorem KeepsB.refl (B : Nat) (X : World) : KeepsB B X X := ⟨Nat.le_refl _, fun _ _ h _ => h, rfl, rfl, rfl⟩
theorem KeepsB.put {B D : Nat} {w : World} {o o' : Obj} (h : w.heap[D]? = some o) (hD : B ≤ D) (hc : o.isCells = false) : KeepsB B w (w.putObj D o') :=
  ⟨by simp, (fun k q hk hor => by
    refine (World.putObj_heap_other (fun e => ?_)).trans hk
    subst e
    rw [h] at hk
    cases hk
    rcases hor with h1 | h1
    · omega
    · rw [hc] at h1; cases h1), rfl, rfl, rfl⟩
theorem Marks.nil (B : Nat) (w : World) : Marks B [] w := ⟨[], rfl, List.nodup_nil, fun D h => by cases h⟩
theorem leaves_marks {F : Fence} {n : Nat} {P : Program} {fn : Func} {tmps : Array Value} {R : Ending → World → Prop} {B : Nat} :
    ∀ {ds : List Deferred} {w : World}, Marks B ds w → (∀ w', KeepsB B w w' → ∃ v, (results fn tmps).run P w' = .ok v w' ∧ R (.returned v) w') → LeavesInM F n P fn tmps R ds .returning w := by
  intro ds w hm h
  obtain ⟨Ds, rfl, hn, hD⟩ := hm
  induction Ds generalizing w with
  | nil => exact h w (KeepsB.refl _ _)
  | cons D Ds ih =>
    obtain ⟨h1, h2⟩ := hD D List.mem_cons_self
    obtain ⟨hn1, hn2⟩ := List.nodup_cons.1 hn
    refine ⟨by simp, .inl ⟨D, _, rfl, run_takeDeferred h2, ?_⟩⟩
    refine ih (fun w' hk => h w' ((KeepsB.put h2 h1 rfl).trans hk)) hn2 (fun E hE => ?_)
    obtain ⟨e1, e2⟩ := hD E (List.mem_cons_of_mem _ hE)
    exact ⟨e1, (World.putObj_heap_other (show E ≠ D from fun e => hn1 (by rw [← e]; exact hE))).trans e2⟩
theorem Marks.cons {B D : Nat} {ds : List Deferred} {w : World} (h : Marks B ds w) (hB : B ≤ D) (hw : w.heap[D]? = some (.deferred (some []))) (hnew : ∀ E, ({ target := .collected E, args := #[] } : Deferred) ∈ ds → E ≠ D) : Marks B ({ target := .collected D, args := #[] } :: ds) w := by
  obtain ⟨Ds, rfl, hn, hD⟩ := h
  refine ⟨D :: Ds, rfl, List.nodup_cons.2 ⟨fun hh => hnew D (List.mem_map.2 ⟨D, hh, rfl⟩) rfl, hn⟩, fun E hE => ?_⟩
  rcases List.mem_cons.1 hE with rfl | hE
  · exact ⟨hB, hw⟩
  · exact hD E hE
/-- The marks stand where non-cells of their blocks do. -/
theorem Marks.stay {B : Nat} {ds : List Deferred} {w w' : World} (h : Marks B ds w) (hk : ∀ (k : Nat), B ≤ k → w.heap[k]? = some (.deferred (some [])) → w'.heap[k]? = some (.deferred (some []))) : Marks B ds w' := by
  obtain ⟨Ds, e, hn, hD⟩ := h
  exact ⟨Ds, e, hn, fun D hd => ⟨(hD D hd).1, hk D (hD D hd).1 (hD D hd).2⟩⟩
theorem Marks.lt {B : Nat} {ds : List Deferred} {w : World} (h : Marks B ds w) {E : Nat} (hE : ({ target := .collected E, args := #[] } : Deferred) ∈ ds) : E < w.heap.size := by
  obtain ⟨Ds, rfl, hn, hD⟩ := h
  obtain ⟨D, hd, e⟩ := List.mem_map.1 hE
  have e2 : D = E := by
    have := congrArg Deferred.target e
    simpa using this
  subst e2
  exact (Array.getElem?_eq_some_iff.1 (hD D hd).2).1
theorem Marks.below {B : Nat} {ds : List Deferred} {w w' : World} (h : Marks B ds w) (hb : Below w.heap.size w w') : Marks B ds w' :=
  h.stay fun k _ hk => (hb.block k (Array.getElem?_eq_some_iff.1 hk).1).trans hk
theorem Marks.from {B : Nat} {ds : List Deferred} {w w' : World} (h : Marks B ds w) (hb : KeepsFrom B w w') : Marks B ds w' :=
  h.stay fun k hB hk => hb.same k _ hB hk rfl
theorem wpIn_loop_inv {F : Fence} {n : Nat} {P : Program} {Q : Exit → Act → World → Prop} {c : Code} {Inv : Nat → Act → World → Prop}
    (hstep : ∀ m a w, Inv m a w → c.wpIn F n P (Exit.then (fun a' w' => ∃ m', m' < m ∧ Inv m' a' w') Q) a w) {m : Nat} {a : Act} {w : World} (h0 : Inv m a w) : (Code.loop c).wpIn F n P Q a w := by
  refine wpIn_loop_rounds (m + 1) ?_
  have key : ∀ (k m : Nat) (a : Act) (w : World), m < k → Inv m a w → Code.roundsIn F n P c Q k a w := by
    intro k
    induction k with
    | zero => intro m a w h; omega
    | succ k ih =>
      intro m a w hmk hI
      rw [roundsIn_succ]
      refine wpIn_mono (hstep m a w hI) ?_
      rintro e a' w' hp
      cases e with
      | normal =>
        obtain ⟨m', h1, h2⟩ := hp
        exact ih m' a' w' (by omega) h2
      | _ => exact hp
  exact key (m + 1) m a w (by omega) h0
end Go.Proofs.Ytjbeoakikdkdaaa

namespace Go.Proofs.Ytjbeoakikdkdaaa
open Go.RowKit
/-! ## A range over a function that tells of what it yields where it lies -/
/-- The iterator yields elements of which G holds where they are yielded; no round leaves early. -/
def Gives {α : Type} (n : Nat) (P : Program) (g : Nat) (lb : Array Value) (encs : α → Array Value) (Kp : World → World → Prop) (G : List α → α → World → Prop) (S : List α → Prop) (w : World) : Prop :=
  ∀ (l : Nat) (J : List α → World → Prop) (W : World), Below w.heap.size w W → AbidesFrom W.heap.size J →
    (∀ pre x W1, G pre x W1 → J pre W1 → YieldAt Fence.wide (n - 1) P l (encs x) W1 fun e W' => e = .returned (.bool true) ∧ J (pre ++ [x]) W' ∧ Kp W1 W') →
    J [] W →
    CallsIn Fence.wide n P g (#[.func (.yield l) #[] #[]] ++ lb) W fun e W' => (∃ v, e = .returned v) ∧ ∃ xs, S xs ∧ J xs W'

theorem wpIn_range_gives {α : Type} {n : Nat} {P : Program} {gop : Operand} {ps : Array Tmp} {assign body : Code} {Q : Exit → Act → World → Prop} {a : Act} {w : World}
    {gf : Nat} {lb : Array Value} (hg : a.eval gop = .func (.func gf) #[] lb) (eg : ∀ args w, (callFunc gf args).run P w = .ok (.enter gf args) w)
    {encs : α → Array Value} {Kp : World → World → Prop} {G : List α → α → World → Prop} {S : List α → Prop} (hseq : Gives (n - 1) P gf lb encs Kp G S w)
    (hKt : ∀ {A B C : World}, Kp A B → Kp B C → Kp A C) (hKb : ∀ (W : World) (l : Nat) (o o' : Obj), w.heap.size ≤ l → W.heap[l]? = some o → o.isCells = false → o.isWalk = false → Kp W (W.putObj l o'))
    (hps : ∀ x, (encs x).size = ps.size) (I : List α → World → Prop) (hI : OwnFrom w.heap.size I) (hG : ∀ pre x, OwnFrom w.heap.size (fun (_ : Unit) W => G pre x W)) (h0 : I [] w) (a₁ : α → Act)
    (hassign : ∀ (l : Nat) (x : α) (W : World) (K : Act → World → Prop), K (a₁ x) W →
      assign.wpIn (Fence.wide.inRound l) (n - 1 - 1) P (Exit.then K (fun _ _ _ => False)) { tmps := (ps.zip (encs x)).foldl (fun t (p, v) => t.setIfInBounds p v) a.tmps, defers := [] } W)
    (hbody : ∀ (l : Nat) (pre : List α) (x : α) (W : World), G pre x W → I pre W →
      body.wpIn (Fence.wide.inRound l) (n - 1 - 1) P (Exit.then (fun _ W' => KeepsFrom w.heap.size W W' ∧ Kp W W' ∧ I (pre ++ [x]) W') (fun _ _ _ => False)) (a₁ x) W)
    (hdone : ∀ (D : Nat) (xs : List α) (W : World), w.heap.size ≤ D → S xs → I xs W → W.heap[D]? = some (.deferred (some [])) → Q .normal { a with defers := { target := .collected D, args := #[] } :: a.defers } W) :
    (Code.rangeFunc gop ps assign body).wpIn Fence.wide n P Q a w := by
  refine wpIn_rangeFunc ?_
  intro fn _
  generalize hD : w.heap.size = D at *
  obtain ⟨rec, hrec⟩ : ∃ rec : LoopState → Loop, ∀ st, rec st = { state := st, pending := none, fn, tmps := a.tmps, params := ps, assign, body, defers := D } := ⟨_, fun _ => rfl⟩
  obtain ⟨W1, hW1⟩ : ∃ W1, (w.alloc (.deferred (some []))).alloc (.loop (rec .ready)) = W1 := ⟨_, rfl⟩
  have hz1 : W1.heap.size = D + 2 := by rw [← hW1, ← hD]; simp
  have hL1 : W1.heap[D + 1]? = some (.loop (rec .ready)) := by
    have := World.alloc_heap_new (w.alloc (.deferred (some []))) (.loop (rec .ready))
    rwa [World.size_alloc, hD, hW1] at this
  have hK1 : W1.heap[D]? = some (.deferred (some [])) := by
    rw [← hW1, ← hD]; exact (Below.heap_alloc _ _ _ (by simp)).trans (World.alloc_heap_new w _)
  have hI1 : I [] W1 := by rw [← hW1]; exact hI.alloc _ (hI.alloc _ h0)
  have hb1 : Below w.heap.size w W1 := by rw [← hW1]; exact below2 _ _ _
  refine ⟨D + 1, [{ target := .collected D, args := #[] }], W1, { target := .fn (.func gf) lb, args := #[.func (.yield (D + 1)) #[] #[]] }, W1, gf, #[.func (.yield (D + 1)) #[] #[]] ++ lb, W1, ?_, ?_, fun _ _ => trivial, ?_, fun h => by simp [Fence.wide] at h, ?_⟩
  · show (Instr.enterLoop fn a.tmps ps assign body none).run P w = _
    rw [run_enterLoop_outer, ← hW1, hrec, hD]
  · simp only [resolve, hg]
    simp [go_sem]
  · simp [invoke, go_sem, eg]
  -- a block of the loop's own book-keeping is turned
  have own : ∀ {X Y : World} {row : Option Nat}, (∀ r, row = some r → W1.heap.size ≤ r ∧ ∃ o : Obj, X.heap[r]? = some o ∧ o.isWalk = true) → ∀ r, row = some r → D ≤ r ∧ ∃ o : Obj, X.heap[r]? = some o ∧ o.isCells = false := by
    intro X Y row hr r e
    obtain ⟨h1, o, h2, h3⟩ := hr r e
    exact ⟨by omega, o, h2, Obj.not_cells_of_walk h3⟩
  refine (hseq (D + 1) (fun pre W => I pre W ∧ W.heap[D + 1]? = some (.loop (rec .ready)) ∧ W.heap[D]? = some (.deferred (some []))) W1 hb1 ?_ ?_ ⟨hI1, hL1, hK1⟩).mono ?_
  · intro s X Y row hs hgr hr
    have keep := fun {k : Nat} {o : Obj} (h : X.heap[k]? = some o) (hw : o.isWalk = false) => (grownBy_keeps hgr (fun r e => (hr r e).2) h hw).trans h
    exact ⟨hI s X Y row hs.1 hgr (own (Y := Y) hr), keep hs.2.1 rfl, keep hs.2.2 rfl⟩
  · rintro pre x W hGx ⟨hi, hl, hk⟩
    have hlt : D + 1 < W.heap.size := (Array.getElem?_eq_some_iff.1 hl).1
    have hy := run_yield (P := P) (args := encs x) hl (by rw [hrec]; exact hps x)
    rw [hrec] at hy
    refine ⟨fn, _, assign, body, hy, roundIn_of_wpIn trivial (hassign _ x W _ ⟨_, run_beginRound hl (by rw [hrec]), ?_⟩)⟩
    have hl2 : (W.putObj (D + 1) (.loop { rec .ready with state := .busy })).heap[D + 1]? = some (.loop { rec .ready with state := .busy }) := World.putObj_heap_same hlt
    have hk2 : (W.putObj (D + 1) (.loop { rec .ready with state := .busy })).heap[D]? = some (.deferred (some [])) := (World.putObj_heap_other (by omega)).trans hk
    refine wpIn_mono (hbody _ pre x _ ((hG pre x).putObj (s := ()) _ hGx (by omega) hl rfl) (hI.putObj _ hi (by omega) hl rfl)) ?_
    rintro e a3 W3 hp
    cases e with
    | normal =>
      obtain ⟨h1, h2, h3⟩ := hp
      have hl3 := h1.same _ _ (by omega) hl2 rfl
      have hk3 := h1.same _ _ (Nat.le_refl _) hk2 rfl
      have hend := run_endRound (P := P) none hl3
      refine ⟨_, _, hend, rfl, ⟨hI.putObj _ h3 (by omega) hl3 rfl, ?_, (World.putObj_heap_other (by omega)).trans hk3⟩, hKt (hKt (hKb _ _ _ _ (by omega) hl rfl rfl) h2) (hKb _ _ _ _ (by omega) hl3 rfl rfl)⟩
      rw [World.putObj_heap_same (Array.getElem?_eq_some_iff.1 hl3).1]
      simp [hrec]
    | _ => exact hp.elim
  · rintro e W2 ⟨⟨v, rfl⟩, xs, hS, hi, hl, hk⟩
    have hend := run_endLoop (P := P) hl (by rw [hrec]; simp)
    exact ⟨none, _, by rw [hrec] at hend; exact hend, hdone D xs _ (Nat.le_refl _) hS (hI.putObj _ hi (by omega) hl rfl) ((World.putObj_heap_other (by omega)).trans hk)⟩
end Go.Proofs.Ytjbeoakikdkdaaa
