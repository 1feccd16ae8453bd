import Derived.Test.YtnkeikhkafbokaaBase
import Derived.LoopNIn
namespace Go.Proofs.Ytnkeikhkafbokaa
open Go.RowKit

/-! ## Loops with a range over a function in them: the marks that each round leaves -/
/-- Marks of loops that are over: each in a block of its own, from B on. -/
def Marks (B : Nat) (ds : List Deferred) (w : World) : Prop :=
  ∃ Ds : List Nat, ds = Ds.map (fun D => ({ target := .collected D, args := #[] } : Deferred)) ∧ Ds.Nodup ∧ ∀ D ∈ Ds, B ≤ D ∧ w.heap[D]? = some (.deferred (some []))
theorem KeepsB.trans {B : Nat} {X Y Z : World} (h : KeepsB B X Y) (k : KeepsB B Y Z) : KeepsB B X Z :=
  ⟨Nat.le_trans h.size k.size, fun i o hi hc => k.same i o (h.same i o hi hc) hc, k.tape.trans h.tape, k.os.trans h.os, k.output.trans h.output⟩
theorem KeepsB.refl (B : Nat) (X : World) : KeepsB B X X := ⟨Nat.le_refl _, fun _ _ h _ => h, rfl, rfl, rfl⟩
theorem KeepsB.put {B D : Nat} {w : World} {o o' : Obj} (h : w.heap[D]? = some o) (hD : B ≤ D) (hc : o.isCells = false) : KeepsB B w (w.putObj D o') :=
  ⟨by simp, (fun k q hk hor => by
    refine (World.putObj_heap_other (fun e => ?_)).trans hk
    subst e
    rw [h] at hk
    cases hk
    rcases hor with h1 | h1
    · omega
    · rw [hc] at h1; cases h1), rfl, rfl, rfl⟩
theorem Marks.nil (B : Nat) (w : World) : Marks B [] w := ⟨[], rfl, List.nodup_nil, fun D h => by cases h⟩
theorem leaves_marks {F : Fence} {n : Nat} {P : Program} {fn : Func} {tmps : Array Value} {R : Ending → World → Prop} {B : Nat} :
    ∀ {ds : List Deferred} {w : World}, Marks B ds w → (∀ w', KeepsB B w w' → ∃ v, (results fn tmps).run P w' = .ok v w' ∧ R (.returned v) w') → LeavesInM F n P fn tmps R ds .returning w := by
  intro ds w hm h
  obtain ⟨Ds, rfl, hn, hD⟩ := hm
  induction Ds generalizing w with
  | nil => exact h w (KeepsB.refl _ _)
  | cons D Ds ih =>
    obtain ⟨h1, h2⟩ := hD D List.mem_cons_self
    obtain ⟨hn1, hn2⟩ := List.nodup_cons.1 hn
    refine ⟨by simp, .inl ⟨D, _, rfl, run_takeDeferred h2, ?_⟩⟩
    refine ih (fun w' hk => h w' ((KeepsB.put h2 h1 rfl).trans hk)) hn2 (fun E hE => ?_)
    obtain ⟨e1, e2⟩ := hD E (List.mem_cons_of_mem _ hE)
    exact ⟨e1, (World.putObj_heap_other (show E ≠ D from fun e => hn1 (by rw [← e]; exact hE))).trans e2⟩
theorem Marks.cons {B D : Nat} {ds : List Deferred} {w : World} (h : Marks B ds w) (hB : B ≤ D) (hw : w.heap[D]? = some (.deferred (some []))) (hnew : ∀ E, ({ target := .collected E, args := #[] } : Deferred) ∈ ds → E ≠ D) : Marks B ({ target := .collected D, args := #[] } :: ds) w := by
  obtain ⟨Ds, rfl, hn, hD⟩ := h
  refine ⟨D :: Ds, rfl, List.nodup_cons.2 ⟨fun hh => hnew D (List.mem_map.2 ⟨D, hh, rfl⟩) rfl, hn⟩, fun E hE => ?_⟩
  rcases List.mem_cons.1 hE with rfl | hE
  · exact ⟨hB, hw⟩
  · exact hD E hE
/-- The marks stand where non-cells of their blocks do. -/
theorem Marks.stay {B : Nat} {ds : List Deferred} {w w' : World} (h : Marks B ds w) (hk : ∀ (k : Nat), B ≤ k → w.heap[k]? = some (.deferred (some [])) → w'.heap[k]? = some (.deferred (some []))) : Marks B ds w' := by
  obtain ⟨Ds, e, hn, hD⟩ := h
  exact ⟨Ds, e, hn, fun D hd => ⟨(hD D hd).1, hk D (hD D hd).1 (hD D hd).2⟩⟩
theorem Marks.lt {B : Nat} {ds : List Deferred} {w : World} (h : Marks B ds w) {E : Nat} (hE : ({ target := .collected E, args := #[] } : Deferred) ∈ ds) : E < w.heap.size := by
  obtain ⟨Ds, rfl, hn, hD⟩ := h
  obtain ⟨D, hd, e⟩ := List.mem_map.1 hE
  have e2 : D = E := by
    have := congrArg Deferred.target e
    simpa using this
  subst e2
  exact (Array.getElem?_eq_some_iff.1 (hD D hd).2).1
theorem Marks.below {B : Nat} {ds : List Deferred} {w w' : World} (h : Marks B ds w) (hb : Below w.heap.size w w') : Marks B ds w' :=
  h.stay fun k _ hk => (hb.block k (Array.getElem?_eq_some_iff.1 hk).1).trans hk
theorem Marks.from {B : Nat} {ds : List Deferred} {w w' : World} (h : Marks B ds w) (hb : KeepsFrom B w w') : Marks B ds w' :=
  h.stay fun k hB hk => hb.same k _ hB hk rfl
theorem wpIn_loop_inv {F : Fence} {n : Nat} {P : Program} {Q : Exit → Act → World → Prop} {c : Code} {Inv : Nat → Act → World → Prop}
    (hstep : ∀ m a w, Inv m a w → c.wpIn F n P (Exit.then (fun a' w' => ∃ m', m' < m ∧ Inv m' a' w') Q) a w) {m : Nat} {a : Act} {w : World} (h0 : Inv m a w) : (Code.loop c).wpIn F n P Q a w := by
  refine wpIn_loop_rounds (m + 1) ?_
  have key : ∀ (k m : Nat) (a : Act) (w : World), m < k → Inv m a w → Code.roundsIn F n P c Q k a w := by
    intro k
    induction k with
    | zero => intro m a w h; omega
    | succ k ih =>
      intro m a w hmk hI
      rw [roundsIn_succ]
      refine wpIn_mono (hstep m a w hI) ?_
      rintro e a' w' hp
      cases e with
      | normal =>
        obtain ⟨m', h1, h2⟩ := hp
        exact ih m' a' w' (by omega) h2
      | _ => exact hp
  exact key (m + 1) m a w (by omega) h0
end Go.Proofs.Ytnkeikhkafbokaa
