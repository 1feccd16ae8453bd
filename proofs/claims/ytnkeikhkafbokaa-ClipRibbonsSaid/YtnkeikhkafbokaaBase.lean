import Derived.BigQuiet
import Derived.BigRegion
import Derived.Deep.DeepCutAuto
import Derived.Deep.QuietTactic
import Derived.Deep.RegionHeld3
import Derived.Deep.RegionLawGrows
import Derived.Deep.RegionWith
import Derived.IntWalk
import Derived.Laws.CopyOwn
import Derived.Laws.MakeOwn
import Derived.Laws.ResultCell
import Derived.Lib.Hide
import Derived.LoopIn
import Derived.LoopNIn
import Derived.Maps.AppendAt
import Derived.OwnWalkIn
import Derived.RangeFuncBound
import Derived.RangeFuncCalls
import Derived.RangeFuncLeaves
import Derived.RangeFuncNested
import Derived.RegionTactic
import Derived.Shelf.Abstract
import Derived.Shelf.RegionOpen
import Derived.TacticsInMore
import Derived.Test.YtnkeikhkafbokaaProg
import Derived.WalkKit
import Derived.WalkLawsBesides
import Derived.WalkSpells
namespace Go.Proofs.Ytnkeikhkafbokaa
open Go.RowKit Go.Shelf
attribute [local go_sem] Oper.semAt_some
/-! What all layers share: made of general parts by base.py. -/
theorem ret_int {k : IntKind} {a b : Int} (h : a = b) : Ending.returned (.int k a) = .returned (.int k b) := by rw [h]
theorem below1 (w : World) (a : Obj) : Below w.heap.size w (w.alloc a) :=
  (Below.refl _ _).alloc (Nat.le_refl _) _
theorem below2 (w : World) (a b : Obj) : Below w.heap.size w ((w.alloc a).alloc b) :=
  ((Below.refl _ _).alloc (Nat.le_refl _) _).alloc (by simp) _
/-- Three new blocks. -/
theorem below3 (w : World) (a b c : Obj) : Below w.heap.size w (((w.alloc a).alloc b).alloc c) :=
  (((Below.refl _ _).alloc (Nat.le_refl _) _).alloc (by simp) _).alloc (by simp; omega) _
theorem after1 {w : World} {a : Obj} {w' : World} (h : Below (w.alloc a).heap.size (w.alloc a) w') : Below w.heap.size w w' :=
  (below1 w a).trans (h.mono (by simp))
theorem after2 {w : World} {a b : Obj} {w' : World} (h : Below ((w.alloc a).alloc b).heap.size ((w.alloc a).alloc b) w') : Below w.heap.size w w' :=
  (below2 w a b).trans (h.mono (by simp; omega))
theorem bcell {W w1 : World} (hb : Below W.heap.size W w1) : (∀ b o, b < W.heap.size → w1.cell? ⟨b, o, none⟩ = W.cell? ⟨b, o, none⟩) ∧ (∀ b o, b < W.heap.size → w1.frozen? ⟨b, o, none⟩ = W.frozen? ⟨b, o, none⟩) :=
  ⟨fun b o h => hb.cell (p := ⟨b, o, none⟩) h, fun b o h => hb.frozen (p := ⟨b, o, none⟩) h⟩
/-- The slice value v reads as the list l of numbers. -/
def IntsAt (w : World) (v : Value) (l : List Int) : Prop :=
  ∃ a cap, v = .slice a l.length cap ∧ (l ≠ [] → ∃ b off, a = some ⟨b, off, none⟩ ∧ ∀ i (h : i < l.length), w.cell? ⟨b, off + i, none⟩ = some (.int .i64 l[i]))
/-- The slice value v reads as the list l of pairs of numbers. -/
def PairsAt (w : World) (v : Value) (l : List (Int × Int)) : Prop :=
  ∃ a cap, v = .slice a l.length cap ∧ (l ≠ [] → ∃ b off, a = some ⟨b, off, none⟩ ∧ ∀ i (h : i < l.length), w.cell? ⟨b, off + i * 2, none⟩ = some (.int .i64 l[i].1) ∧ w.cell? ⟨b, off + i * 2 + 1, none⟩ = some (.int .i64 l[i].2))
/-- The slice value v reads as the list l of values of one cell each. -/
def ValsAt (w : World) (v : Value) (l : List Value) : Prop :=
  ∃ a cap, v = .slice a l.length cap ∧ (l ≠ [] → ∃ b off, a = some ⟨b, off, none⟩ ∧ ∀ i (h : i < l.length), w.cell? ⟨b, off + i, none⟩ = some l[i])
theorem lt_of_cell {w : World} {b o : Nat} {v : Value} (h : w.cell? ⟨b, o, none⟩ = some v) : b < w.heap.size := by
  unfold World.cell? at h
  split at h
  · rename_i hb; exact (Array.getElem?_eq_some_iff.1 hb).1
  · cases h
theorem IntsAt.below {w w' : World} {v : Value} {l : List Int} (h : IntsAt w v l) (hb : Below w.heap.size w w') : IntsAt w' v l := by
  obtain ⟨a, cap, e, hc⟩ := h
  refine ⟨a, cap, e, fun hne => ?_⟩
  obtain ⟨b, off, ea, hc⟩ := hc hne
  exact ⟨b, off, ea, fun i hi => (hb.cell (p := ⟨b, _, none⟩) (lt_of_cell (hc i hi))).trans (hc i hi)⟩
theorem PairsAt.below {w w' : World} {v : Value} {l : List (Int × Int)} (h : PairsAt w v l) (hb : Below w.heap.size w w') : PairsAt w' v l := by
  obtain ⟨a, cap, e, hc⟩ := h
  refine ⟨a, cap, e, fun hne => ?_⟩
  obtain ⟨b, off, ea, hc⟩ := hc hne
  exact ⟨b, off, ea, fun i hi => ⟨(hb.cell (p := ⟨b, _, none⟩) (lt_of_cell (hc i hi).1)).trans (hc i hi).1, (hb.cell (p := ⟨b, _, none⟩) (lt_of_cell (hc i hi).2)).trans (hc i hi).2⟩⟩
theorem ValsAt.below {w w' : World} {v : Value} {l : List Value} (h : ValsAt w v l) (hb : Below w.heap.size w w') : ValsAt w' v l := by
  obtain ⟨a, cap, e, hc⟩ := h
  refine ⟨a, cap, e, fun hne => ?_⟩
  obtain ⟨b, off, ea, hc⟩ := hc hne
  exact ⟨b, off, ea, fun i hi => (hb.cell (p := ⟨b, _, none⟩) (lt_of_cell (hc i hi))).trans (hc i hi)⟩
theorem IntsAt.at {w : World} {a : Option Addr} {n cap : Nat} {l : List Int} (h : IntsAt w (.slice a n cap) l) : n = l.length ∧ ∀ k (h : k < l.length), ∃ b off, a = some ⟨b, off, none⟩ ∧ w.cell? ⟨b, off + k, none⟩ = some (.int .i64 l[k]) := by
  obtain ⟨a', cap', e, hc⟩ := h
  cases e
  refine ⟨rfl, fun k hk => ?_⟩
  obtain ⟨b, off, ea, hc⟩ := hc (by intro h; subst h; exact absurd hk (Nat.not_lt_zero _))
  exact ⟨b, off, ea, hc k hk⟩
def okInts (lo hi : Int) (l : List Int) : Bool := l.all fun x => decide (lo ≤ x) && decide (x ≤ hi)
theorem okInts_false {lo hi : Int} {l : List Int} {k : Nat} (h : k < l.length) (hx : ¬ (lo ≤ l[k] ∧ l[k] ≤ hi)) : okInts lo hi l = false := by
  cases e : okInts lo hi l with
  | false => rfl
  | true =>
    exfalso
    unfold okInts at e
    rw [List.all_eq_true] at e
    have := e l[k] (List.getElem_mem h)
    simp at this
    exact hx this
theorem okInts_snoc {lo hi : Int} {l : List Int} {k : Nat} (h : k < l.length) (ht : okInts lo hi (l.take k) = true) (h1 : lo ≤ l[k]) (h2 : l[k] ≤ hi) : okInts lo hi (l.take (k + 1)) = true := by
  rw [List.take_succ_eq_append_getElem h]
  unfold okInts at ht ⊢
  rw [List.all_append, ht]
  simp [h1, h2]
theorem all_false {α : Type} {p : α → Bool} {l : List α} {k : Nat} (h : k < l.length) (hx : p l[k] = false) : l.all p = false := by
  cases e : l.all p with
  | false => rfl
  | true =>
    rw [List.all_eq_true] at e
    rw [e _ (List.getElem_mem h)] at hx
    cases hx
theorem all_snoc {α : Type} {p : α → Bool} {l : List α} {k : Nat} (h : k < l.length) (ht : (l.take k).all p = true) (hx : p l[k] = true) : (l.take (k + 1)).all p = true := by
  rw [List.take_succ_eq_append_getElem h, List.all_append, ht]
  simp [hx]
theorem IntsAt.mk1 {w : World} {b off cap : Nat} {x : Int} (h0 : w.cell? ⟨b, off, none⟩ = some (.int .i64 x)) : IntsAt w (.slice (some ⟨b, off, none⟩) 1 cap) [x] := by
  refine ⟨_, cap, rfl, fun _ => ⟨b, off, rfl, ?_⟩⟩
  intro i hi
  match i, hi with
  | 0, _ => simpa using h0
theorem IntsAt.mk2 {w : World} {b off cap : Nat} {x y : Int} (h0 : w.cell? ⟨b, off, none⟩ = some (.int .i64 x)) (h1 : w.cell? ⟨b, off + 1, none⟩ = some (.int .i64 y)) : IntsAt w (.slice (some ⟨b, off, none⟩) 2 cap) [x, y] := by
  refine ⟨_, cap, rfl, fun _ => ⟨b, off, rfl, ?_⟩⟩
  intro i hi
  match i, hi with
  | 0, _ => simpa using h0
  | 1, _ => simpa using h1
theorem PairsAt.at {w : World} {a : Option Addr} {n cap : Nat} {l : List (Int × Int)} (h : PairsAt w (.slice a n cap) l) : n = l.length ∧ ∀ k (h : k < l.length), ∃ b off, a = some ⟨b, off, none⟩ ∧ w.cell? ⟨b, off + k * 2, none⟩ = some (.int .i64 l[k].1) ∧ w.cell? ⟨b, off + k * 2 + 1, none⟩ = some (.int .i64 l[k].2) := by
  obtain ⟨a', cap', e, hc⟩ := h
  cases e
  refine ⟨rfl, fun k hk => ?_⟩
  obtain ⟨b, off, ea, hc⟩ := hc (by intro h; subst h; exact absurd hk (Nat.not_lt_zero _))
  exact ⟨b, off, ea, hc k hk⟩
theorem any_take {α : Type} {p : α → Bool} {l : List α} {k : Nat} (h : k < l.length) (ht : (l.take k).any p = false) (hx : p l[k] = false) : (l.take (k + 1)).any p = false := by
  rw [List.take_succ_eq_append_getElem h, List.any_append, ht]
  simp [hx]
theorem any_true {α : Type} {p : α → Bool} {l : List α} {k : Nat} (h : k < l.length) (hx : p l[k] = true) : l.any p = true :=
  List.any_eq_true.2 ⟨_, List.getElem_mem h, hx⟩
theorem IntsAt.slice {w : World} {v : Value} {l : List Int} (h : IntsAt w v l) : ∃ a cap, v = .slice a l.length cap := let ⟨a, cap, e, _⟩ := h; ⟨a, cap, e⟩
theorem PairsAt.slice {w : World} {v : Value} {l : List (Int × Int)} (h : PairsAt w v l) : ∃ a cap, v = .slice a l.length cap := let ⟨a, cap, e, _⟩ := h; ⟨a, cap, e⟩
theorem upto_succ' {α : Type} (xs : List α) (k : Nat) (h : k < xs.length) : xs.take (k + 1) = xs.take k ++ [xs[k]] := by
  rw [List.take_succ_eq_append_getElem h]
/-- What a loop's book-keeping leaves of a world: all blocks below B, and all that are cells. -/
structure KeepsB (B : Nat) (W W' : World) : Prop where
  size : W.heap.size ≤ W'.heap.size
  same : ∀ (k : Nat) (o : Obj), W.heap[k]? = some o → (k < B ∨ o.isCells = true) → W'.heap[k]? = some o
  tape : W'.tape = W.tape
  os : W'.os = W.os
  output : W'.output = W.output
theorem ownFrom_of {β : Type} {B : Nat} {I : β → World → Prop} (h : ∀ s W W', I s W → KeepsB B W W' → I s W') : OwnFrom B I := by
  intro s W W' row hs hg hr
  refine h s W W' hs ⟨hg.size, ?_, hg.tape, hg.os, hg.output⟩
  intro k o hk hc
  have hlt : k < W.heap.size := (Array.getElem?_eq_some_iff.1 hk).1
  refine (hg.block k hlt (fun e => ?_)).trans hk
  obtain ⟨h1, o', ho', hn⟩ := hr k e.symm
  rw [hk] at ho'
  cases ho'
  rcases hc with hc | hc
  · omega
  · rw [hc] at hn; cases hn
/-- Block k is o. -/
def Blk (W : World) (k : Nat) (o : Obj) : Prop := W.heap[k]? = some o
theorem Blk.lt {W : World} {k : Nat} {o : Obj} (h : Blk W k o) : k < W.heap.size := (Array.getElem?_eq_some_iff.1 h).1
theorem Blk.new (W : World) (o : Obj) : Blk (W.alloc o) W.heap.size o := World.alloc_heap_new W o
theorem Blk.alloc {W : World} {k : Nat} {o : Obj} (h : Blk W k o) (o' : Obj) : Blk (W.alloc o') k o := (Below.heap_alloc W o' k h.lt).trans h
theorem Blk.below {W W' : World} {k : Nat} {o : Obj} (h : Blk W k o) (hb : Below W.heap.size W W') : Blk W' k o := (hb.block k h.lt).trans h
theorem Blk.below' {B : Nat} {W W' : World} {k : Nat} {o : Obj} (h : Blk W k o) (hb : Below B W W') (hk : k < B) : Blk W' k o := (hb.block k hk).trans h
theorem Blk.drew {W : World} {k : Nat} {o : Obj} (h : Blk W k o) : Blk W.drew k o := h
theorem Blk.keeps {B : Nat} {W W' : World} {k : Nat} {o : Obj} (h : Blk W k o) (hb : KeepsB B W W') (hc : k < B ∨ o.isCells = true) : Blk W' k o := hb.same k o h hc
theorem Blk.keepsC {B : Nat} {W W' : World} {k : Nat} {c : Array Value} {T : TypeId} {z : Nat × Nat} (h : Blk W k (.cells c T z)) (hb : KeepsB B W W') : Blk W' k (.cells c T z) := hb.same k _ h (Or.inr rfl)
theorem Blk.set {W : World} {k j : Nat} {c : Array Value} {T : TypeId} {z : Nat × Nat} (h : Blk W k (.cells c T z)) (v : Value) : Blk (W.setCell ⟨k, j, none⟩ v) k (.cells (c.setIfInBounds j v) T z) := by
  unfold Blk at h ⊢
  simp [World.setCell, Array.getElem?_modify, h]
theorem Blk.other {W : World} {k b j : Nat} {o : Obj} (h : Blk W k o) (hne : k ≠ b) (v : Value) : Blk (W.setCell ⟨b, j, none⟩ v) k o := by
  unfold Blk at h ⊢
  simp [World.setCell, Array.getElem?_modify, h, Ne.symm hne]
theorem Blk.cell {W : World} {k : Nat} {c : Array Value} {T : TypeId} {z : Nat × Nat} (h : Blk W k (.cells c T z)) (i : Nat) : W.cell? ⟨k, i, none⟩ = c[i]? := by
  simp [World.cell?, show W.heap[k]? = _ from h]
theorem Blk.frozen {W : World} {k : Nat} {c : Array Value} {T : TypeId} (h : Blk W k (.cells c T (0, 0))) (i : Nat) : W.frozen? ⟨k, i, none⟩ = false := by
  simp [World.frozen?, show W.heap[k]? = _ from h]
theorem Blk.put {W : World} {k b : Nat} {o : Obj} (h : Blk W k o) (hne : k ≠ b) (o' : Obj) : Blk (W.putObj b o') k o := (World.putObj_heap_other hne).trans h
theorem below_keeps {n₀ B : Nat} {w W W' : World} (h : Below n₀ w W) (hk : KeepsB B W W') (hn : n₀ ≤ B) (hs : n₀ ≤ W.heap.size) : Below n₀ w W' :=
  h.trans ⟨hk.os, hk.tape, hk.output, hk.size, fun k hlt => by
    have hlt' : k < W.heap.size := by omega
    rw [hk.same k W.heap[k] (Array.getElem?_eq_getElem hlt') (Or.inl (by omega)), Array.getElem?_eq_getElem hlt']⟩
theorem below4 (w : World) (a b c d : Obj) : Below w.heap.size w ((((w.alloc a).alloc b).alloc c).alloc d) := (below3 w a b c).alloc (by simp; omega) _
/-- An iterator's contract holds in every later world. -/
theorem SeqStopsK.from {α : Type} {F : Fence} {n : Nat} {P : Program} {g : Nat} {lb : Array Value} {encs : α → Array Value} {Kp : World → World → Prop} {S Sp : List α → Prop} {N : Nat} {w w' : World}
    (hb : Below w.heap.size w w') (h : SeqStopsK F n P g lb encs Kp S Sp N w) : SeqStopsK F n P g lb encs Kp S Sp N w' :=
  fun l J Jx W hW hJ hJx hY h0 => h l J Jx W (hb.trans (hW.mono hb.size)) hJ hJx hY h0
theorem KeepsOthers.of_below {W W' : World} (h : Below W.heap.size W W') : KeepsOthers W W' :=
  ⟨h.size, fun k _o hk _ => (h.block k (Array.getElem?_eq_some_iff.1 hk).1).trans hk⟩
theorem PairsAt.get {w : World} {v : Value} {l : List (Int × Int)} (h : PairsAt w v l) (k : Nat) (hk : k < l.length) : ∃ b off cap, v = .slice (some ⟨b, off, none⟩) l.length cap ∧ w.cell? ⟨b, off + k * 2, none⟩ = some (.int .i64 l[k].1) ∧ w.cell? ⟨b, off + k * 2 + 1, none⟩ = some (.int .i64 l[k].2) := by
  obtain ⟨a, cap, e, hc⟩ := h
  obtain ⟨b, off, ea, hc⟩ := hc (by intro h; subst h; exact absurd hk (Nat.not_lt_zero _))
  exact ⟨b, off, cap, by rw [e, ea], hc k hk⟩
theorem IntsAt.get {w : World} {v : Value} {l : List Int} (h : IntsAt w v l) (k : Nat) (hk : k < l.length) : ∃ b off cap, v = .slice (some ⟨b, off, none⟩) l.length cap ∧ w.cell? ⟨b, off + k, none⟩ = some (.int .i64 l[k]) := by
  obtain ⟨a, cap, e, hc⟩ := h
  obtain ⟨b, off, ea, hc⟩ := hc (by intro h; subst h; exact absurd hk (Nat.not_lt_zero _))
  exact ⟨b, off, cap, by rw [e, ea], hc k hk⟩
theorem cellB {W W' : World} {b o : Nat} {v : Value} (h : W.cell? ⟨b, o, none⟩ = some v) (hb : Below W.heap.size W W') : W'.cell? ⟨b, o, none⟩ = some v :=
  (hb.cell (p := ⟨b, o, none⟩) (lt_of_cell h)).trans h
/-- What a cell holds, whatever it is. -/
def theCell (W : World) (a : Addr) : Value := (W.cell? a).getD undef
theorem theCell_of {W : World} {a : Addr} {v : Value} (h : W.cell? a = some v) : W.cell? a = some (theCell W a) := by
  unfold theCell; rw [h]; rfl
theorem some_set {W : World} {p a : Addr} {u : Value} (h : ((W.setCell p u).cell? a).isSome = true) : (W.cell? a).isSome = true := by
  unfold World.cell? World.setCell at h
  unfold World.cell?
  simp only [Array.getElem?_modify] at h
  by_cases e : p.block = a.block
  · rw [if_pos e] at h
    cases hb : W.heap[a.block]? with
    | none => rw [hb] at h; simp at h
    | some o =>
      rw [hb] at h
      cases o with
      | cells c t f =>
        simp at h ⊢
        have e2 : (if p.spot.isSome = true then c else c.setIfInBounds p.off u).size = c.size := by split <;> simp
        split at h <;> simp_all
      | _ => simp at h
  · rw [if_neg e] at h
    exact h
theorem some_set3 {W : World} {p q r a : Addr} {u v z x : Value} (h : (((W.setCell p u).setCell q v).setCell r z).cell? a = some x) : (W.cell? a).isSome = true :=
  some_set (some_set (some_set (by rw [h]; rfl)))
theorem cell_other {W : World} {b o b' o' : Nat} {v u : Value} (h : W.cell? ⟨b, o, none⟩ = some v) (hne : b ≠ b') : (W.setCell ⟨b', o', none⟩ u).cell? ⟨b, o, none⟩ = some v := by
  rw [World.cell?_setCell_other]
  · exact h
  · intro e; cases e; exact hne rfl
theorem cell_some {W : World} {a p : Addr} {v u : Value} (h : W.cell? a = some v) : ∃ v', (W.setCell p u).cell? a = some v' := by
  obtain ⟨v', h'⟩ := cell?_setCell_some (w := W) (p := p) (x := u) (q := a) (v := v) h
  exact ⟨v', h'⟩
theorem some_set2 {W : World} {p q a : Addr} {u v x : Value} (h : ((W.setCell p u).setCell q v).cell? a = some x) : (W.cell? a).isSome = true :=
  some_set (some_set (by rw [h]; rfl))
/-- The slice value v is a row of the call's own: n elements of so many cells each. -/
def Row (w : World) (v : Value) (n size : Nat) (xs : List Value) : Prop :=
  xs.length = n * size ∧ ((v = .slice none 0 0 ∧ n = 0) ∨
    ∃ g cap cur e, v = .slice (some ⟨g, 0, none⟩) n cap ∧ Blk w g (.cells cur e (0, 0)) ∧ n ≤ cap ∧ cap ≤ maxLen ∧ cur.size = cap * size ∧ cur.toList.take (n * size) = xs)
theorem Row.nil (w : World) (size : Nat) : Row w (.slice none 0 0) 0 size [] := ⟨by simp, Or.inl ⟨rfl, rfl⟩⟩
theorem Row.of_owns {w : World} {base : Nat} {e : TypeId} {size : Nat} {v : Value} {n : Nat} {xs : List Value} (h : w.ownsRow base e size v n xs) : Row w v n size xs := by
  obtain ⟨h1, h2 | ⟨g, cap, cur, e1, e2, e3, e4, e5, e6, e7⟩⟩ := h
  · exact ⟨h1, Or.inl h2⟩
  · exact ⟨h1, Or.inr ⟨g, cap, cur, e, e1, e3, e4, e5, e6, e7⟩⟩
theorem Row.below {w w' : World} {v : Value} {n size : Nat} {xs : List Value} (h : Row w v n size xs) (hb : Below w.heap.size w w') : Row w' v n size xs := by
  obtain ⟨h1, h2 | ⟨g, cap, cur, e, e1, e3, e4, e5, e6, e7⟩⟩ := h
  · exact ⟨h1, Or.inl h2⟩
  · exact ⟨h1, Or.inr ⟨g, cap, cur, e, e1, e3.below hb, e4, e5, e6, e7⟩⟩
theorem Row.keeps {B : Nat} {w w' : World} {v : Value} {n size : Nat} {xs : List Value} (h : Row w v n size xs) (hb : KeepsB B w w') : Row w' v n size xs := by
  obtain ⟨h1, h2 | ⟨g, cap, cur, e, e1, e3, e4, e5, e6, e7⟩⟩ := h
  · exact ⟨h1, Or.inl h2⟩
  · exact ⟨h1, Or.inr ⟨g, cap, cur, e, e1, e3.keepsC hb, e4, e5, e6, e7⟩⟩
theorem Row.cells {w : World} {v : Value} {n size : Nat} {xs : List Value} (h : Row w v n size xs) : ∃ a cap, v = .slice a n cap ∧ n ≤ cap ∧ (a = none → n = 0 ∧ cap = 0) ∧ (∀ b, a = some b → ∀ j u, xs[j]? = some u → w.cell? (b.add j) = some u) ∧ xs.length = n * size := by
  obtain ⟨h1, ⟨e1, e2⟩ | ⟨g, cap, cur, e, e1, e3, e4, e5, e6, e7⟩⟩ := h
  · exact ⟨none, 0, by rw [e1, e2], by omega, fun _ => ⟨e2, rfl⟩, (fun _ h => by cases h), h1⟩
  · refine ⟨some ⟨g, 0, none⟩, cap, e1, e4, (fun h => by cases h), ?_, h1⟩
    intro b hb j u hu
    cases hb
    have : (Addr.add ⟨g, 0, none⟩ j) = ⟨g, j, none⟩ := by unfold Addr.add; split <;> simp_all
    rw [this, e3.cell]
    rw [← e7, List.getElem?_take] at hu
    split at hu
    · simpa using hu
    · cases hu
theorem addB {W W' : World} {b : Addr} {j : Nat} {v : Value} (h : W.cell? (b.add j) = some v) (hb : Below W.heap.size W W') : W'.cell? (b.add j) = some v := by
  refine (hb.cell ?_).trans h
  unfold World.cell? at h
  split at h
  · rename_i hx; exact (Array.getElem?_eq_some_iff.1 hx).1
  · cases h
theorem below_of_grown {W W' : World} (h : W.grownBy W' none) : Below W.heap.size W W' :=
  (Below.refl _ W).grown h (Nat.le_refl _) (fun k e => by cases e)
/-- What a list that has grown is. -/
def Grew (w : World) (n size : Nat) (xs : List Value) (e : Ending) (w' : World) : Prop := ∃ v', e = .returned v' ∧ Row w' v' n size xs ∧ Below w.heap.size w w'
theorem run_copy_cells {P : Program} (w : World) (dT sT ty elem : TypeId) (g dLen dCap : Nat) (a : Addr) (sLen sCap size : Nat) (cur : Array Value) (t : TypeId) (cs : List Value)
    (hu : P.underlying dT = some (.slice elem)) (hs : (P.info? elem).map (·.size) = some size)
    (hg : w.heap[g]? = some (.cells cur t (0, 0))) (hn : cs.length = Nat.min sLen dLen * size)
    (hsrc : ∀ j v, cs[j]? = some v → w.cell? (a.add j) = some v) (hfit : cs.length ≤ cur.size) (h1 : ∀ v ∈ cs, v.oneCell' = true) :
    (Builtin.copy_ #[dT, sT] ty #[.slice (some ⟨g, 0, none⟩) dLen dCap, .slice (some a) sLen sCap]).run P w =
      .ok (goInt (Nat.min sLen dLen)) (w.setRow g (cs ++ cur.toList.drop cs.length).toArray) := by
  have hl := run_loadCells_list (P := P) w a cs hsrc
  have hst := run_storeCells_at P g 0 t cs 0 cur w hg (by simpa using hfit) h1
  simp only [Nat.zero_add, List.take_zero, List.nil_append] at hst
  cases hq : P.info? elem with
  | none => simp [hq] at hs
  | some i =>
    have hi : i.size = size := by simpa [hq] using hs
    simp [Builtin.copy_, run_underlying hu, Builtin.lenOf, Builtin.firstCells, sizeOf, typeInfo, hq, hi, ← hn, hl, hst]
theorem wpList_copy_cells {P : Program} {w : World} {ops : Array Oper} {rest : List Oper} {o : Oper} {a : Act} {Q : Exit → Act → World → Prop} (hgd : o.guard = none) (d s : Operand) (dT sT : TypeId)
    (ho : o.op = .call { callee := .builtin .copy, args := #[d, s], argTypes := #[dT, sT] }) (elem : TypeId) (size : Nat) (hu : P.underlying dT = some (.slice elem)) (hsz : (P.info? elem).map (·.size) = some size)
    (g dLen dCap : Nat) (ad : Addr) (sLen sCap : Nat) (hd : a.eval d = .slice (some ⟨g, 0, none⟩) dLen dCap) (hs : a.eval s = .slice (some ad) sLen sCap)
    (cur : Array Value) (t : TypeId) (hg : w.heap[g]? = some (.cells cur t (0, 0))) (cs : List Value) (hn : cs.length = Nat.min sLen dLen * size)
    (hsrc : ∀ j v, cs[j]? = some v → w.cell? (ad.add j) = some v) (hfit : cs.length ≤ cur.size) (h1 : ∀ v ∈ cs, v.oneCell' = true)
    (h : wpList P ops Q rest (a.put o.dst (goInt (Nat.min sLen dLen))) (w.setRow g (cs ++ cur.toList.drop cs.length).toArray)) : wpList P ops Q (o :: rest) a w := by
  refine wpList_plain hgd fun K hK => ?_
  have hrun := run_copy_cells (P := P) w dT sT o.type elem g dLen dCap ad sLen sCap size cur t cs hu hsz hg hn hsrc hfit h1
  unfold Oper.wp
  simp [execOp, ho, resolve, invoke, builtin, hd, hs, hrun, Result.andThen]
  exact hK _ _ h
def intCells (l : List Int) : List Value := l.map (.int .i64 ·)
theorem intCells_length (l : List Int) : (intCells l).length = l.length := by simp [intCells]
theorem intCells_one {l : List Int} {u : Value} (h : u ∈ intCells l) : u.oneCell' = true := by
  obtain ⟨x, _, rfl⟩ := List.mem_map.1 h; rfl
def pairCells (l : List (Int × Int)) : List Value := l.flatMap fun p => [.int .i64 p.1, .int .i64 p.2]
theorem pairCells_length (l : List (Int × Int)) : (pairCells l).length = l.length * 2 := by
  induction l with
  | nil => rfl
  | cons x l ih => simp only [pairCells, List.flatMap_cons, List.length_append, List.length_cons, List.length_nil] at ih ⊢; omega
theorem pairCells_one {l : List (Int × Int)} {u : Value} (h : u ∈ pairCells l) : u.oneCell' = true := by
  obtain ⟨x, _, h⟩ := List.mem_flatMap.1 h
  simp at h
  rcases h with rfl | rfl <;> rfl
theorem addr_add (b off j : Nat) : (⟨b, off, none⟩ : Addr).add j = ⟨b, off + j, none⟩ := by unfold Addr.add; split <;> simp_all
theorem intCells_src {w : World} {b off : Nat} {l : List Int} (hc : ∀ i (h : i < l.length), w.cell? ⟨b, off + i, none⟩ = some (.int .i64 l[i])) {j : Nat} {u : Value} (hu : (intCells l)[j]? = some u) : (⟨b, off, none⟩ : Addr).add j = ⟨b, off + j, none⟩ ∧ w.cell? ⟨b, off + j, none⟩ = some u := by
  refine ⟨addr_add _ _ _, ?_⟩
  unfold intCells at hu
  obtain ⟨hj, e⟩ := List.getElem?_eq_some_iff.1 hu
  simp at hj e
  rw [hc j hj, e]
theorem pairCells_get (l : List (Int × Int)) (j : Nat) (hj : j < l.length) : (pairCells l)[j * 2]? = some (.int .i64 l[j].1) ∧ (pairCells l)[j * 2 + 1]? = some (.int .i64 l[j].2) := by
  induction l generalizing j with
  | nil => simp at hj
  | cons x l ih =>
    have e : pairCells (x :: l) = .int .i64 x.1 :: .int .i64 x.2 :: pairCells l := by simp [pairCells]
    rw [e]
    cases j with
    | zero => simp
    | succ j =>
      have := ih j (by simpa using hj)
      have e2 : (j + 1) * 2 = j * 2 + 1 + 1 := by omega
      rw [e2]
      simpa using this
theorem pairCells_src {w : World} {b off : Nat} {l : List (Int × Int)} (hc : ∀ i (h : i < l.length), w.cell? ⟨b, off + i * 2, none⟩ = some (.int .i64 l[i].1) ∧ w.cell? ⟨b, off + i * 2 + 1, none⟩ = some (.int .i64 l[i].2)) {j : Nat} {u : Value} (hu : (pairCells l)[j]? = some u) : (⟨b, off, none⟩ : Addr).add j = ⟨b, off + j, none⟩ ∧ w.cell? ⟨b, off + j, none⟩ = some u := by
  refine ⟨addr_add _ _ _, ?_⟩
  have hj := (List.getElem?_eq_some_iff.1 hu).1
  rw [pairCells_length] at hj
  obtain ⟨g1, g2⟩ := pairCells_get l (j / 2) (by omega)
  obtain ⟨c1, c2⟩ := hc (j / 2) (by omega)
  rcases (show j = j / 2 * 2 ∨ j = j / 2 * 2 + 1 by omega) with e | e
  · rw [← e] at g1 c1
    rw [g1] at hu; cases hu; exact c1
  · rw [← e] at g2
    rw [Nat.add_assoc, ← e] at c2
    rw [g2] at hu; cases hu; exact c2
theorem IntsAt.of_blk {w : World} {g cap : Nat} {l : List Int} {T : TypeId} (h : Blk w g (.cells (intCells l).toArray T)) : IntsAt w (.slice (some ⟨g, 0, none⟩) l.length cap) l := by
  refine ⟨_, _, rfl, fun _ => ⟨_, _, rfl, fun i hi => ?_⟩⟩
  rw [h.cell]
  simp [intCells, hi]
theorem PairsAt.of_blk {w : World} {g cap : Nat} {l : List (Int × Int)} {T : TypeId} (h : Blk w g (.cells (pairCells l).toArray T)) : PairsAt w (.slice (some ⟨g, 0, none⟩) l.length cap) l := by
  refine ⟨_, _, rfl, fun _ => ⟨_, _, rfl, fun i hi => ?_⟩⟩
  obtain ⟨g1, g2⟩ := pairCells_get l i hi
  constructor
  · rw [h.cell]; simpa using g1
  · rw [h.cell]; simpa using g2
theorem rowOf {P B : Prop} {W : World} {v : Value} {n size : Nat} {xs : List Value} (h : P ∧ Row W v n size xs ∧ B) : Row W v n size xs := h.2.1
theorem Row.slice {w : World} {v : Value} {n size : Nat} {xs : List Value} (h : Row w v n size xs) : ∃ a n c, v = .slice a n c := by
  obtain ⟨a, cap, e, _⟩ := h.cells
  exact ⟨a, n, cap, e⟩
theorem Blk.cell0 {W : World} {k : Nat} {v : Value} {T : TypeId} {z : Nat × Nat} (h : Blk W k (.cells #[v] T z)) : W.cell? ⟨k, 0, none⟩ = some v := by
  rw [h.cell]; rfl
theorem okInts_get {lo hi : Int} {l : List Int} (h : okInts lo hi l = true) (k : Nat) (hk : k < l.length) : lo ≤ l[k] ∧ l[k] ≤ hi := by
  unfold okInts at h
  rw [List.all_eq_true] at h
  simpa using h _ (List.getElem_mem hk)
/-- W is w but for block L, and for what is new. -/
structure FrL (w : World) (L : Nat) (W : World) : Prop where
  size : w.heap.size ≤ W.heap.size
  same : ∀ k, k < w.heap.size → k ≠ L → W.heap[k]? = w.heap[k]?
  os : W.os = w.os
  tape : W.tape = w.tape
  output : W.output = w.output
theorem FrL.below {w W W' : World} {L : Nat} (h : FrL w L W) (hb : Below W.heap.size W W') : FrL w L W' :=
  ⟨Nat.le_trans h.size hb.size, fun k hk hne => (hb.block k (Nat.lt_of_lt_of_le hk h.size)).trans (h.same k hk hne), hb.os.trans h.os, hb.tape.trans h.tape, hb.output.trans h.output⟩
theorem FrL.of_below {w W : World} {L : Nat} (h : Below w.heap.size w W) : FrL w L W := ⟨h.size, fun k hk _ => h.block k hk, h.os, h.tape, h.output⟩
theorem FrL.set {w W : World} {L : Nat} (h : FrL w L W) (j : Nat) (v : Value) : FrL w L (W.setCell ⟨L, j, none⟩ v) :=
  ⟨by simpa [World.setCell] using h.size, fun k hk hne => (Below.heap_setCell _ _ _ _ (by simp; omega)).trans (h.same k hk hne), h.os, h.tape, h.output⟩
/-- W is w but for blocks L and M, and for what is new. -/
structure FrLM (w : World) (L M : Nat) (W : World) : Prop where
  size : w.heap.size ≤ W.heap.size
  same : ∀ k, k < w.heap.size → k ≠ L → k ≠ M → W.heap[k]? = w.heap[k]?
  os : W.os = w.os
  tape : W.tape = w.tape
  output : W.output = w.output
theorem FrL.put {w W : World} {L : Nat} (h : FrL w L W) (M : Nat) (o : Obj) : FrLM w L M (W.putObj M o) :=
  ⟨by simpa using h.size, fun k hk h1 h2 => (World.putObj_heap_other h2).trans (h.same k hk h1), h.os, h.tape, h.output⟩
/-- A list of numbers in a block other than L is there still. -/
theorem IntsAt.fr {w W : World} {L : Nat} {v : Value} {l : List Int} (h : IntsAt w v l) (hF : FrL w L W) (hne : ∀ b off n c, v = .slice (some ⟨b, off, none⟩) n c → b ≠ L) : IntsAt W v l := by
  obtain ⟨a, cap, e, hc⟩ := h
  refine ⟨a, cap, e, fun hn => ?_⟩
  obtain ⟨b, off, ea, hc⟩ := hc hn
  refine ⟨b, off, ea, fun i hi => ?_⟩
  have hx := hc i hi
  rw [← hx]
  exact World.cell?_of_block (hF.same b (lt_of_cell hx) (hne b off _ cap (by rw [e, ea])))
theorem PairsAt.fr {w W : World} {L : Nat} {v : Value} {l : List (Int × Int)} (h : PairsAt w v l) (hF : FrL w L W) (hne : ∀ b off n c, v = .slice (some ⟨b, off, none⟩) n c → b ≠ L) : PairsAt W v l := by
  obtain ⟨a, cap, e, hc⟩ := h
  refine ⟨a, cap, e, fun hn => ?_⟩
  obtain ⟨b, off, ea, hc⟩ := hc hn
  refine ⟨b, off, ea, fun i hi => ?_⟩
  have hne' := hne b off _ cap (by rw [e, ea])
  obtain ⟨hx, hy⟩ := hc i hi
  rw [← hx, ← hy]
  exact ⟨World.cell?_of_block (hF.same b (lt_of_cell hx) hne'), World.cell?_of_block (hF.same b (lt_of_cell hx) hne')⟩
theorem run_clear_map {P : Program} {t ty k e : TypeId} {M : Nat} {es : Array MapEntry} {clock : Nat} {W : World} (ht : P.underlying t = some (.map k e)) (hM : Blk W M (.map es clock)) :
    (Builtin.clear_ #[t] ty #[.map (some M)]).run P W = .ok (.tuple #[]) (W.putObj M (.map #[] clock)) := by
  unfold Blk at hM
  simp [Builtin.clear_, run_underlying ht, getObj, setObj, Sem.run, hM, World.putObj, go_sem]
theorem bC {w W W' : World} (h : Below w.heap.size w W) (hb : Below W.heap.size W W') : Below w.heap.size w W' := h.trans (hb.mono h.size)
end Go.Proofs.Ytnkeikhkafbokaa
