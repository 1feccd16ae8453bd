import Derived.Test.YtlhldkiggmlegaaDoorOb
namespace Go.Proofs.YtlhldkiggmlegaaDoor
open Go.ChangeShapes Go.WideShapes Go.ChangeAt Go.WideMaps Go.WideElems Go.RowKit Go.Deep Go.Joins
theorem uU16 : Tryd.prog.underlying 81 = some (.int .u16) := by kernel_rfl
theorem uI8 : Tryd.prog.underlying 72 = some (.int .i8) := by kernel_rfl
section
variable {H : Type} {enc : TypeId × Value → H}
set_option maxRecDepth 100000 in
theorem u16_of_trod {W : World} {base : Nat} {held : Bool} {v : Value} {d : DataW H} {p : List MemPlace} (hv : Value.okWide Tryd.prog W .any base 81 v) (h : DataW.Trod enc Tryd.prog W 0 (fun _ => true) held 81 v d p) : ∃ n : Int, v = .int .u16 n ∧ 0 ≤ n ∧ n ≤ 65535 := by
  obtain ⟨n, rfl, _, _, hw⟩ := open_int uU16 hv h
  simp [Lit.wf] at hw
  have e1 := (show IntKind.u16.min = 0 by kernel_rfl)
  have e2 := (show IntKind.u16.max = 65535 by kernel_rfl)
  exact ⟨n, rfl, by omega, by omega⟩
set_option maxRecDepth 100000 in
theorem i8_of_trod {W : World} {base : Nat} {held : Bool} {v : Value} {d : DataW H} {p : List MemPlace} (hv : Value.okWide Tryd.prog W .any base 72 v) (h : DataW.Trod enc Tryd.prog W 0 (fun _ => true) held 72 v d p) : ∃ n : Int, v = .int .i8 n ∧ -128 ≤ n ∧ n ≤ 127 := by
  obtain ⟨n, rfl, _, _, hw⟩ := open_int uI8 hv h
  simp [Lit.wf] at hw
  have e1 := (show IntKind.i8.min = -128 by kernel_rfl)
  have e2 := (show IntKind.i8.max = 127 by kernel_rfl)
  exact ⟨n, rfl, by omega, by omega⟩
end
end Go.Proofs.YtlhldkiggmlegaaDoor
