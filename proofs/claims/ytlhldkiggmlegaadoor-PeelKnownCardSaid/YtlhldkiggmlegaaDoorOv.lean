import Derived.Test.YtlhldkiggmlegaaDoorNx
namespace Go.Proofs.YtlhldkiggmlegaaDoor
open Go.RowKit Go.Shelf Go.Sort

/-! ## The values and contracts of the examples of PeelKnown -/
theorem kv1 : coreV threeD 1 3 0 = q2v 2 1 ∧ coreE threeD 1 3 0 = 0 := by constructor <;> kernel_rfl
theorem kv2 : coreV threeD 1 0 1 = q2v 0 1 ∧ coreE threeD 1 0 1 = 0 := by constructor <;> kernel_rfl
theorem kv3 : valR threeD ⟨0, 1, 2, 1⟩ = 4 := by decide +kernel
theorem kv4 : valR threeD ⟨1, 1, 1, 0⟩ = 7 / 2 := by decide +kernel
theorem kv5 : valR twoD ⟨0, 0, 0, 0⟩ = 2 := by decide +kernel
theorem kv6 : he threeD 2 0 = .tuple #[q2v 2 1, q2v 4 1, .int .i64 0] := by kernel_rfl
theorem kv7 : he twoD 2 1 = .tuple #[q2v 4 1, q2v 8 1, .int .i64 0] := by kernel_rfl
theorem kv8 : turnsV threeD 0 2 = 1 ∧ turnsE threeD 0 2 = 0 := by constructor <;> kernel_rfl
theorem kv9 : logErr twoD = 0 := by kernel_rfl
theorem kv10 : lineErr 1 0 0 = 0 := by kernel_rfl
theorem kv11 : roughErr roughD = 0 := by kernel_rfl
theorem kq1 : qe 4 0 = .tuple #[q2v 4 1, .int .i64 0] := by kernel_rfl
theorem kq2 : qe (7 / 2) 0 = .tuple #[q2v 7 2, .int .i64 0] := by kernel_rfl
theorem kq3 : qe 2 0 = .tuple #[q2v 2 1, .int .i64 0] := by kernel_rfl
theorem kp1 : cpE threeD ⟨0, 1, 2, 1⟩ = 0 := by
  unfold cpE
  rw [if_neg (by simp [show logErr threeD = 0 by kernel_rfl]), if_pos]
  exact ⟨by decide, by decide, by decide, by decide, by decide⟩
theorem kp2 : cpE threeD ⟨1, 1, 1, 0⟩ = 0 := by
  unfold cpE
  rw [if_neg (by simp [show logErr threeD = 0 by kernel_rfl]), if_pos]
  exact ⟨by decide, by decide, by decide, by decide, by decide⟩
theorem kp3 : cpE twoD ⟨0, 0, 0, 0⟩ = 0 := by
  unfold cpE
  rw [if_neg (by simp [show logErr twoD = 0 by kernel_rfl]), if_pos]
  exact ⟨by decide, by decide, by decide, by decide, by decide⟩
theorem k_core1 {v : Value} {W : World} (h : LogAt W v threeD) : Calls Tryd.prog 20 #[v, .agg #[.int .i64 1, .int .i64 3, .int .i64 0]] W (Gets (.tuple #[q2v 2 1, .int .i64 0]) W) := by
  have := Core_any v threeD 1 3 0 W h small3
  rw [kv1.1, kv1.2] at this
  exact this
theorem k_core2 {v : Value} {W : World} (h : LogAt W v threeD) : Calls Tryd.prog 20 #[v, .agg #[.int .i64 1, .int .i64 0, .int .i64 1]] W (Gets (.tuple #[q2v 0 1, .int .i64 0]) W) := by
  have := Core_any v threeD 1 0 1 W h small3
  rw [kv2.1, kv2.2] at this
  exact this
theorem k_proof1 {v : Value} {W : World} (hn : NoneAt W) (h : LogAt W v threeD) : Calls Tryd.prog 31 #[v, .agg #[.int .i64 0, .int .i64 1, .int .i64 2, .int .i64 1]] W (Gets (.tuple #[q2v 4 1, .int .i64 0]) W) := by
  have := CheckProof_any v threeD ⟨0, 1, 2, 1⟩ W hn h small3
  rw [valr_qe kv3 kp1, kq1] at this
  exact this
theorem k_proof2 {v : Value} {W : World} (hn : NoneAt W) (h : LogAt W v threeD) : Calls Tryd.prog 31 #[v, .agg #[.int .i64 1, .int .i64 1, .int .i64 1, .int .i64 0]] W (Gets (.tuple #[q2v 7 2, .int .i64 0]) W) := by
  have := CheckProof_any v threeD ⟨1, 1, 1, 0⟩ W hn h small3
  rw [valr_qe kv4 kp2, kq2] at this
  exact this
theorem k_proof3 {v : Value} {W : World} (hn : NoneAt W) (h : LogAt W v twoD) : Calls Tryd.prog 31 #[v, .agg #[.int .i64 0, .int .i64 0, .int .i64 0, .int .i64 0]] W (Gets (.tuple #[q2v 2 1, .int .i64 0]) W) := by
  have := CheckProof_any v twoD ⟨0, 0, 0, 0⟩ W hn h small2
  rw [valr_qe kv5 kp3, kq3] at this
  exact this
theorem k_heights1 {v : Value} {W : World} (h : LogAt W v threeD) : Calls Tryd.prog 34 #[v, .int .i64 2, .int .i64 0] W (Gets (.tuple #[q2v 2 1, q2v 4 1, .int .i64 0]) W) := by
  have := Heights_any v threeD 2 0 W h small3
  rw [kv6] at this
  exact this
theorem k_heights2 {v : Value} {W : World} (h : LogAt W v twoD) : Calls Tryd.prog 34 #[v, .int .i64 2, .int .i64 1] W (Gets (.tuple #[q2v 4 1, q2v 8 1, .int .i64 0]) W) := by
  have := Heights_any v twoD 2 1 W h small2
  rw [kv7] at this
  exact this
theorem k_turns {v : Value} {W : World} (h : LogAt W v threeD) : Calls Tryd.prog 29 #[v, .int .i64 0, .int .i64 2] W (Gets (.tuple #[.int .i64 1, .int .i64 0]) W) := by
  have := Turns_any v threeD 0 2 W h small3
  rw [kv8.1, kv8.2] at this
  exact this
theorem k_log {v : Value} {W : World} (h : LogAt W v twoD) : Calls Tryd.prog 22 #[v] W (Gets (.int .i64 0) W) := by
  have := CheckLog_any v twoD W h small2
  rw [kv9] at this
  exact this
theorem k_line {W : World} : Calls Tryd.prog 24 #[.agg #[.int .i64 1, .int .i64 0, .int .i64 0]] W (Gets (.int .i64 0) W) := by
  have := CheckLine_any 1 0 0 W
  rw [kv10] at this
  exact this
theorem k_rough {v : Value} {W : World} (h : RoughAt W v roughD) : Calls Tryd.prog 39 #[v] W (Gets (.int .i64 0) W) := by
  have := CheckRough_any v roughD W h (by refine ⟨?_, ?_, ?_⟩ <;> decide)
  rw [kv11] at this
  exact this
end Go.Proofs.YtlhldkiggmlegaaDoor
