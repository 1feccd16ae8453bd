import Derived.Test.YtnkeikhkafbokaaRound
import Derived.OrdersHeld
namespace Go.Proofs.Ytnkeikhkafbokaa
open Go.Sort
/-! ## What holds of a region outside a round holds in one -/
section
variable {P : Program} {ops : Array Oper} {md : Region.Mode}
/-- A post of a region that neither panics nor grows out. -/
def OnlyN (K : Act → World → Prop) : Exit → Act → World → Prop
  | .normal, a, w => K a w
  | _, _, _ => False
theorem Oper.wpIn_of_wp {r k : Nat} {o : Oper} {a : Act} {w : World} {K : Act → World → Prop} {K' : Act → World → Prop} {N : Act → World → Prop} {Q : Exit → Act → World → Prop} (hnd : ∀ c, o.op ≠ .defer c) (hK : ∀ a w, K a w → K' a w) (h : o.wp P a w K (OnlyN N)) : o.wpIn (Fence.wide.inRound r) k P a w K' Q := by
  refine ⟨fun _ _ => trivial, ?_⟩
  rw [Oper.semAt_eq _ _ _ hnd]
  unfold Oper.wp at h
  generalize (execOp a.eval o).run P w = rr at *
  cases rr with
  | halt x w' => cases x <;> simp only [Oper.upon, OnlyN] at h
  | ok x w' =>
    cases x <;> simp only [Oper.upon, OnlyN] at h <;> simp only [Oper.uponIn]
    case value u => exact hK _ _ h
    case skip => exact hK _ _ h
    case defer d => exact hK _ _ h
    case enter f args =>
      refine ⟨fun hd => by simp [Fence.wide] at hd, CallsIn.inRound r (callsIn_wide.2 (h.mono ?_))⟩
      rintro e w'' he
      cases e with
      | returned v => exact hK _ _ he
      | panicked c => exact False.elim he
      | outgrown =>
        obtain ⟨_, _, hx⟩ := (show LetsOut (OnlyN N) from he)
        exact False.elim hx
    case row row args =>
      refine ⟨fun hd => by simp [Fence.wide] at hd, ?_⟩
      intro c cs _
      obtain ⟨v, w'', h1, h2⟩ := h c cs
      exact ⟨v, w'', hK _ _ h1, stepsIn_wide.2 h2⟩
/-- No operation defers. -/
def noDefer (ops : Array Oper) : Bool := ops.toList.all fun o => match o.op with | .defer _ => false | _ => true
theorem noDefer_at {ops : Array Oper} (h : noDefer ops = true) {i : Nat} {o : Oper} (ho : ops[i]? = some o) : ∀ c, o.op ≠ .defer c := by
  intro c e
  have := List.all_eq_true.1 h o (by rw [Array.mem_toList_iff]; exact Array.mem_of_getElem? ho)
  rw [e] at this
  cases this
theorem wpAnyIn_of_wpAny {r k : Nat} {N : Act → World → Prop} {Q : Exit → Act → World → Prop} (hd : noDefer ops = true) (hQ : ∀ a w, N a w → Q .normal a w) :
    ∀ (f : Nat) (listed : Array Bool) (a : Act) (w : World), wpAny P md ops (OnlyN N) f listed a w → wpAnyIn (Fence.wide.inRound r) k P md ops Q f listed a w
  | 0, _, _, _, h => ⟨h.1, hQ _ _ h.2⟩
  | f + 1, listed, a, w, h => by
    refine ⟨fun h0 => hQ _ _ (h.1 h0), fun i hi => ?_⟩
    have h2 := h.2 i hi
    unfold wpOp at h2
    unfold wpOpIn
    split
    · rename_i ho
      simp only [ho] at h2
      exact wpAnyIn_of_wpAny hd hQ f _ _ _ h2
    · rename_i o ho
      simp only [ho] at h2
      split
      · rename_i hw
        simp only [hw, if_true] at h2
        rcases h2 with h2 | ⟨_, h2⟩
        · exact Oper.wpIn_of_wp (noDefer_at hd ho) (fun a w h3 => wpAnyIn_of_wpAny hd hQ f _ _ _ h3) h2
        · obtain ⟨_, _, hx⟩ := h2
          exact False.elim hx
      · rename_i hw
        simp only [hw] at h2
        exact ⟨fun _ _ => trivial, wpAnyIn_of_wpAny hd hQ f _ _ _ h2⟩
/-- A region that draws, in a round: shown outside of it. -/
theorem wpIn_region_out {r k id : Nat} {N : Act → World → Prop} {Q : Exit → Act → World → Prop} {a : Act} {w : World} (hm : P.follows .mixedOrders = true) (hd : noDefer ops = true) (hQ : ∀ a w, N a w → Q .normal a w)
    (h : wpAny P .any ops (OnlyN N) ops.size (Array.replicate ops.size false) a { w with drawn := w.drawn + 1 }) : (Code.region id ops true).wpIn (Fence.wide.inRound r) k P Q a w :=
  wpIn_region_any hm (wpAnyIn_of_wpAny hd hQ _ _ _ _ h)
/-- The same, with what holds of every world at hand: what yields in each of those may be taken first (wpAnyH_take). -/
theorem wpIn_region_heldR {r k id : Nat} {S : World → Prop} {N : Act → World → Prop} {Q : Exit → Act → World → Prop} {a : Act} {w : World} (hm : P.follows .mixedOrders = true) (hd : noDefer ops = true) (hQ : ∀ a w, N a w → Q .normal a w)
    (hS : S w.drew) (h : S w.drew → wpAnyH P .any ops (OnlyN N) S ops.size (Array.replicate ops.size false) a w.drew) : (Code.region id ops true).wpIn (Fence.wide.inRound r) k P Q a w :=
  wpIn_region_out hm hd hQ (wpAny_of_held _ _ _ _ (h hS))
end
end Go.Proofs.Ytnkeikhkafbokaa
