/-
  For every log, two lines and number the statement PeelKept answers true, and its arguments read afterwards as they read before. Conditions: those of the given row alone (the variable peel.none reads as the text lays it, which the card ties).
-/
import Derived.Test.YtkggjpdjjnnhaaaDoorOp
import Derived.Test.YtkggjpdjjnnhaaaDoorOo
namespace Go.Proofs.YtkggjpdjjnnhaaaDoor
open Go.ChangeShapes Go.WideShapes Go.ChangeAt Go.WideMaps Go.WideElems Go.RowKit Go.Deep Go.Joins

theorem peelKept_params : ∀ t ∈ Tryd.f9.params.toList, Tryd.prog.readableRec t = true ∧ t < Tryd.prog.types.size := by
  rw [Tryd.params9]
  have hall : (([25, 57, 57, 57, 57, 5] : List TypeId).all fun u => Tryd.prog.readableRec u && decide (u < Tryd.prog.types.size)) = true := by kernel_rfl
  intro t ht
  have := List.all_eq_true.1 hall t (by simpa using ht)
  simpa using this
set_option maxRecDepth 100000 in
theorem peelKept_lifted (os : Os) (started : os.Started) (H : Type) (enc : TypeId × Value → H) :
    ReturnsInHanded {} Tryd.checked os 9 .any (fun w args => (Rows.peelKeptSpec.pre enc Tryd.prog Tryd.f9 [] false w args ∧ laidMetH Tryd.prog laidN w) ∧ sizedMet enc Tryd.prog Tryd.f9 (OpenSpec.ofChange Rows.peelKeptSpec) false w args)
      (Rows.peelKeptSpec.post enc Tryd.prog Tryd.f9 false true false false) := by
  refine returnsInHanded_of_change_and (C := Tryd.checked) (X := fun w _ => laidMetH Tryd.prog laidN w) (fun _ _ _ hh h => h.of_heap hh) own started (by kernel_rfl) Tryd.func9
    (ChangeSpec.witness_shaped (enc := enc) (C := Tryd.checked) (os := os) (X := fun w _ => laidMetH Tryd.prog laidN w) false (World.doorLaid Tryd.prog 14 os) #[.agg #[.slice none 0 0, .slice none 0 0], .int .i16 0, .int .i16 0, .int .i16 0, .int .i16 0, .int .u8 0] 8 rfl (World.shaped_of_RefB (by kernel_rfl) (by kernel_rfl)) (by kernel_rfl) (by kernel_rfl) (by kernel_rfl) (door_met os _)) ?_
  intro W base args ds gs before hval0 hW _ _ hL _
  have hval : ∀ (j : Nat) t v, Tryd.f9.params[j]? = some t → args[j]? = some v → Value.okWide Tryd.prog W .any base t v := hval0
  have hW' := hW
  obtain ⟨p, q, hA0, hV, rfl, hfz, hnd⟩ := hW
  have hA : DataW.TrodAll enc Tryd.prog W 0 (fun _ => true) true Tryd.f9.params.toList args.toList ds p := hA0
  have hA1 := hA
  rw [Tryd.params9] at hA hval
  obtain ⟨v0, vs0, d0, ds0, p0, q0, e0, rfl, rfl, h0, k0⟩ := trodAll_cons hA
  obtain ⟨v1, vs1, d1, ds1, p1, q1, rfl, rfl, rfl, h1, k1⟩ := trodAll_cons k0
  obtain ⟨v2, vs2, d2, ds2, p2, q2, rfl, rfl, rfl, h2, k2⟩ := trodAll_cons k1
  obtain ⟨v3, vs3, d3, ds3, p3, q3, rfl, rfl, rfl, h3, k3⟩ := trodAll_cons k2
  obtain ⟨v4, vs4, d4, ds4, p4, q4, rfl, rfl, rfl, h4, k4⟩ := trodAll_cons k3
  obtain ⟨v5, vs5, d5, ds5, p5, q5, rfl, rfl, rfl, h5, k5⟩ := trodAll_cons k4
  obtain ⟨rfl, rfl, rfl⟩ := trodAll_nil k5
  obtain rfl : args = #[v0, v1, v2, v3, v4, v5] := Array.ext' e0
  obtain ⟨rfl, rfl⟩ := trodVars_none hV
  have hN := none_of_laid hL
  clear hA0 hval0
  simp only [List.append_nil] at hW'
  obtain ⟨l, hl⟩ := log_of_trod (hval 0 25 v0 rfl rfl) h0
  obtain ⟨one, rfl, g1⟩ := i16_of_trod (hval 1 57 v1 rfl rfl) h1
  obtain ⟨two, rfl, g2⟩ := i16_of_trod (hval 2 57 v2 rfl rfl) h2
  obtain ⟨three, rfl, g3⟩ := i16_of_trod (hval 3 57 v3 rfl rfl) h3
  obtain ⟨four, rfl, g4⟩ := i16_of_trod (hval 4 57 v4 rfl rfl) h4
  obtain ⟨x0, rfl, g5⟩ := u8_of_trod (hval 5 5 v5 rfl rfl) h5
  refine (PeelKept_any v0 l one two three four x0 W hN hl g1 g2 g3 g4 g5).mono fun e W' ⟨he, hb⟩ => ?_
  subst he
  exact ⟨_, rfl, post_true (by kernel_rfl) peelKept_params (tb := 4) (by kernel_rfl) (by kernel_rfl) rfl rfl (by simpa using hW') hA1 hb⟩
theorem peelKept_holds : Rows.PeelKeptSaid :=
  OpenClaim.holds_of_wide 9 Tryd.f9 rfl rfl rfl rfl rfl rfl rfl ⟨rfl, rfl, rfl, rfl, rfl⟩ rfl rfl rfl rfl rfl (by kernel_rfl) Tryd.func9 (by kernel_rfl)
    (of_decide_eq_true (by kernel_rfl)) (by unfold Func.isWrapper; first | (rw [if_pos (by decide +kernel)]; kernel_rfl) | (rw [if_neg (by decide +kernel)]; exact ⟨rfl, rfl⟩))
    (fun os started H enc _ => peelKept_lifted os started H enc)
theorem peelKept_card : Rows.PeelKeptCardSaid :=
  Claim7.holds_tied_plain_at .later [] [.data] true (true, "eea77578588e93f8194d032e24c2d550ca4a880fee27378792455784f9005411") false
    peelKept_holds (fun _ h => by cases h) (by kernel_rfl) (fun _ h => by cases h) peelKept_row_tie rfl ⟨rfl, rfl⟩ (by kernel_rfl) rfl
    (fun f fn hf hfn => by
      obtain rfl : f = 9 := Option.some.inj ((show Tryd.prog.funcNamed "crossband/crossbandlaw01.PeelKept" = some 9 by kernel_rfl).symm.trans hf) |>.symm
      obtain rfl : fn = Tryd.f9 := (Option.some.inj (Tryd.func9.symm.trans hfn)).symm
      exact ⟨by kernel_rfl, fun j t ht => by
        rw [Tryd.params9] at ht
        have hm : t ∈ ([25, 57, 57, 57, 57, 5] : List TypeId) := by simpa using Array.mem_of_getElem? ht
        have hall : (([25, 57, 57, 57, 57, 5] : List TypeId).all fun u => !Tryd.prog.wantsStandIn u) = true := by kernel_rfl
        exact (show Tryd.prog.wantsStandIn t = false by simpa using List.all_eq_true.1 hall t hm)⟩)
    (by kernel_rfl)
end Go.Proofs.YtkggjpdjjnnhaaaDoor
