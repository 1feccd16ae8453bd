/-
  For every log and two numbers the statement PeelScaled answers true, and its arguments read afterwards as they read before. Conditions: those of the given row alone (the variable peel.none reads as the text lays it, which the card ties).
-/
import Derived.Test.YtkggjpdjjnnhaaaDoorOp
import Derived.Test.YtkggjpdjjnnhaaaDoorOl
namespace Go.Proofs.YtkggjpdjjnnhaaaDoor
open Go.ChangeShapes Go.WideShapes Go.ChangeAt Go.WideMaps Go.WideElems Go.RowKit Go.Deep Go.Joins

theorem peelScaled_params : ∀ t ∈ Tryd.f13.params.toList, Tryd.prog.readableRec t = true ∧ t < Tryd.prog.types.size := by
  rw [Tryd.params13]
  have hall : (([25, 5, 5] : List TypeId).all fun u => Tryd.prog.readableRec u && decide (u < Tryd.prog.types.size)) = true := by kernel_rfl
  intro t ht
  have := List.all_eq_true.1 hall t (by simpa using ht)
  simpa using this
set_option maxRecDepth 100000 in
theorem peelScaled_lifted (os : Os) (started : os.Started) (H : Type) (enc : TypeId × Value → H) :
    ReturnsInHanded {} Tryd.checked os 13 .any (fun w args => (Rows.peelScaledSpec.pre enc Tryd.prog Tryd.f13 [] false w args ∧ laidMetH Tryd.prog laidN w) ∧ sizedMet enc Tryd.prog Tryd.f13 (OpenSpec.ofChange Rows.peelScaledSpec) false w args)
      (Rows.peelScaledSpec.post enc Tryd.prog Tryd.f13 false true false false) := by
  refine returnsInHanded_of_change_and (C := Tryd.checked) (X := fun w _ => laidMetH Tryd.prog laidN w) (fun _ _ _ hh h => h.of_heap hh) own started (by kernel_rfl) Tryd.func13
    (ChangeSpec.witness_shaped (enc := enc) (C := Tryd.checked) (os := os) (X := fun w _ => laidMetH Tryd.prog laidN w) false (World.doorLaid Tryd.prog 14 os) #[.agg #[.slice none 0 0, .slice none 0 0], .int .u8 0, .int .u8 0] 8 rfl (World.shaped_of_RefB (by kernel_rfl) (by kernel_rfl)) (by kernel_rfl) (by kernel_rfl) (by kernel_rfl) (door_met os _)) ?_
  intro W base args ds gs before hval0 hW _ _ hL _
  have hval : ∀ (j : Nat) t v, Tryd.f13.params[j]? = some t → args[j]? = some v → Value.okWide Tryd.prog W .any base t v := hval0
  have hW' := hW
  obtain ⟨p, q, hA0, hV, rfl, hfz, hnd⟩ := hW
  have hA : DataW.TrodAll enc Tryd.prog W 0 (fun _ => true) true Tryd.f13.params.toList args.toList ds p := hA0
  have hA1 := hA
  rw [Tryd.params13] at hA hval
  obtain ⟨v0, v1, v2, d0, d1, d2, p0, p1, p2, rfl, rfl, rfl, h0, h1, h2⟩ := trodAll_three hA
  obtain ⟨rfl, rfl⟩ := trodVars_none hV
  have hN := none_of_laid hL
  clear hA0 hval0
  simp only [List.append_nil] at hW'
  obtain ⟨l, hl⟩ := log_of_trod (hval 0 25 v0 rfl rfl) h0
  obtain ⟨tm0, rfl, g1⟩ := u8_of_trod (hval 1 5 v1 rfl rfl) h1
  obtain ⟨fa0, rfl, g2⟩ := u8_of_trod (hval 2 5 v2 rfl rfl) h2
  refine (PeelScaled_any v0 l tm0 fa0 W hN hl g1 g2).mono fun e W' ⟨he, hb⟩ => ?_
  subst he
  exact ⟨_, rfl, post_true (by kernel_rfl) peelScaled_params (tb := 4) (by kernel_rfl) (by kernel_rfl) rfl rfl (by simpa using hW') hA1 hb⟩
theorem peelScaled_holds : Rows.PeelScaledSaid :=
  OpenClaim.holds_of_wide 13 Tryd.f13 rfl rfl rfl rfl rfl rfl rfl ⟨rfl, rfl, rfl, rfl, rfl⟩ rfl rfl rfl rfl rfl (by kernel_rfl) Tryd.func13 (by kernel_rfl)
    (of_decide_eq_true (by kernel_rfl)) (by unfold Func.isWrapper; first | (rw [if_pos (by decide +kernel)]; kernel_rfl) | (rw [if_neg (by decide +kernel)]; exact ⟨rfl, rfl⟩))
    (fun os started H enc _ => peelScaled_lifted os started H enc)
theorem peelScaled_card : Rows.PeelScaledCardSaid :=
  Claim7.holds_tied_plain_at .later [] [.data] true (true, "eea77578588e93f8194d032e24c2d550ca4a880fee27378792455784f9005411") false
    peelScaled_holds (fun _ h => by cases h) (by kernel_rfl) (fun _ h => by cases h) peelScaled_row_tie rfl ⟨rfl, rfl⟩ (by kernel_rfl) rfl
    (fun f fn hf hfn => by
      obtain rfl : f = 13 := Option.some.inj ((show Tryd.prog.funcNamed "crossband/crossbandlaw01.PeelScaled" = some 13 by kernel_rfl).symm.trans hf) |>.symm
      obtain rfl : fn = Tryd.f13 := (Option.some.inj (Tryd.func13.symm.trans hfn)).symm
      exact ⟨by kernel_rfl, fun j t ht => by
        rw [Tryd.params13] at ht
        have hm : t ∈ ([25, 5, 5] : List TypeId) := by simpa using Array.mem_of_getElem? ht
        have hall : (([25, 5, 5] : List TypeId).all fun u => !Tryd.prog.wantsStandIn u) = true := by kernel_rfl
        exact (show Tryd.prog.wantsStandIn t = false by simpa using List.all_eq_true.1 hall t hm)⟩)
    (by kernel_rfl)
end Go.Proofs.YtkggjpdjjnnhaaaDoor
