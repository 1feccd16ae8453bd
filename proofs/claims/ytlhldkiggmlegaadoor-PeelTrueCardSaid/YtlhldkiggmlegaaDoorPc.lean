import Derived.Test.YtlhldkiggmlegaaDoorOp
import Derived.Test.YtlhldkiggmlegaaDoorOu
namespace Go.Proofs.YtlhldkiggmlegaaDoor
open Go.ChangeShapes Go.WideShapes Go.ChangeAt Go.WideMaps Go.WideElems Go.RowKit Go.Deep Go.Joins
section
variable {H : Type} {enc : TypeId × Value → H}
set_option maxRecDepth 100000 in
theorem u16s_of_trod {W : World} {base : Nat} {held : Bool} {v : Value} {d : DataW H} {p : List MemPlace} (hv : Value.okWide Tryd.prog W .any base 77 v) (h : DataW.Trod enc Tryd.prog W 0 (fun _ => true) held 77 v d p) : ∃ l : List Int, U16At W v l ∧ ∀ x ∈ l, 0 ≤ x ∧ x ≤ 65535 := by
  obtain ⟨a0, l0, c0, rfl⟩ := okWide_slice (show Tryd.prog.underlying 77 = some (.slice 81) by kernel_rfl) hv
  obtain ⟨fuel, hf⟩ := h
  have e1 := (show IntKind.u16.min = 0 by kernel_rfl)
  have e2 := (show IntKind.u16.max = 65535 by kernel_rfl)
  rcases open_ints (show Tryd.prog.underlying 77 = some (.slice 81) by kernel_rfl) uU16 (by kernel_rfl) hf with ⟨h1, _⟩ | ⟨a, len, cap, zs, h1, _, h3, _, h5, _, h7, h8⟩
  · simp [Value.cells] at h1
    obtain ⟨rfl, rfl, rfl⟩ := h1
    exact ⟨[], ⟨none, 0, rfl, fun h => absurd rfl h⟩, fun x hx => absurd hx List.not_mem_nil⟩
  · simp [Value.cells] at h1
    obtain ⟨rfl, rfl, rfl⟩ := h1
    simp only [if_true] at h5
    refine ⟨zs.take l0, ⟨some a, c0, by simp; omega, fun hne => ?_⟩, fun x hx => ?_⟩
    · have hl : 0 < l0 := by
        rcases Nat.eq_zero_or_pos l0 with h | h
        · subst h; exact absurd (List.take_zero) hne
        · exact h
      have hsp : a.spot = none := by
        have := h7 0 (by omega)
        simpa [Addr.add] using World.cell?_spot this
      refine ⟨a.block, a.off, by cases a; simp_all, fun i hi => ?_⟩
      simp only [List.length_take] at hi
      have := add_cell hsp (h7 i (by omega))
      rw [this]
      simp [List.getD_eq_getElem?_getD, List.getElem?_eq_getElem (show i < zs.length by omega)]
    · have := h8 x (List.mem_of_mem_take hx)
      simp [Lit.wf] at this
      omega
end
end Go.Proofs.YtlhldkiggmlegaaDoor
