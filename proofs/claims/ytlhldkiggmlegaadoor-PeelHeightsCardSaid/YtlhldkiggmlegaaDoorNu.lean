import Derived.Test.YtlhldkiggmlegaaDoorNt
import Derived.Test.YtlhldkiggmlegaaDoorNq
import Derived.Test.YtlhldkiggmlegaaDoorNo
import Derived.Test.YtlhldkiggmlegaaDoorNn
import Derived.Test.YtlhldkiggmlegaaDoorNr
namespace Go.Proofs.YtlhldkiggmlegaaDoor
open Go.RowKit Go.Shelf Go.Sort

/-! ## The values of the examples -/
abbrev q2v (a b : Int) : Value := .agg #[.int .i64 a, .int .i64 b]
theorem wv1 : coreV threeD 2 7 0 = q2v 5 2 ∧ coreE threeD 2 7 0 = 0 := by constructor <;> kernel_rfl
theorem wv2 : coreV threeD 0 0 0 = q2v 0 0 ∧ coreE threeD 0 0 0 = 3 := by constructor <;> kernel_rfl
theorem wv3 : qe (bestV threeD) (logErr threeD) = .tuple #[q2v 5 2, .int .i64 0] := by kernel_rfl
theorem wv4 : qe (bestV twoD) (logErr twoD) = .tuple #[q2v 2 1, .int .i64 0] := by kernel_rfl
theorem wv5 : valR threeD ⟨0, 1, 2, 2⟩ = 5 / 2 := by decide +kernel
theorem wv6 : he threeD 2 2 = .tuple #[q2v 3 1, q2v 4 1, .int .i64 0] := by kernel_rfl
theorem wv7 : he threeD 3 2 = .tuple #[q2v 0 0, q2v 0 0, .int .i64 17] := by kernel_rfl
theorem wv8 : he twoD 2 2 = .tuple #[q2v 6 1, q2v 14 1, .int .i64 0] := by kernel_rfl
theorem wv9 : turnsV threeD 1 1 = 1 ∧ turnsE threeD 1 1 = 0 ∧ turnsV threeD 3 1 = 0 ∧ turnsE threeD 3 1 = 17 := by refine ⟨?_, ?_, ?_, ?_⟩ <;> kernel_rfl
theorem wv10 : spanV roughD = .tuple #[q2v 5 2, q2v 5 2, .int .i64 0] := by kernel_rfl
theorem wv11 : lineD (lineX threeD) = (2, 7, 0) := by kernel_rfl
theorem wv12 : proofX threeD = ⟨0, 1, 2, 2⟩ := by kernel_rfl
end Go.Proofs.YtlhldkiggmlegaaDoor

namespace Go.Proofs.YtlhldkiggmlegaaDoor
open Go.RowKit Go.Shelf Go.Sort
attribute [local go_sem] Oper.semAt_some

/-! ## The examples hold -/
/-- What stays while the examples are gone through: both logs, and the variable that stands for no proof. -/
structure Wk (w0 : World) (B1 B2 : Nat) (a1 e1 a2 e2 : Value) (W : World) : Prop where
  a : Blk W B1 (.cells #[a1, e1] 25)
  b : Blk W B2 (.cells #[a2, e2] 25)
  la : LogAt W (.agg #[a1, e1]) threeD
  lb : LogAt W (.agg #[a2, e2]) twoD
  non : NoneAt W
  old : Below w0.heap.size w0 W
theorem Wk.below {w0 W W' : World} {B1 B2 : Nat} {a1 e1 a2 e2 : Value} (h : Wk w0 B1 B2 a1 e1 a2 e2 W) (hb : Below W.heap.size W W') : Wk w0 B1 B2 a1 e1 a2 e2 W' :=
  ⟨h.a.below hb, h.b.below hb, h.la.below hb, h.lb.below hb, h.non.below hb, h.old.trans (hb.mono h.old.size)⟩
theorem Wk.cells {w0 W : World} {B1 B2 : Nat} {a1 e1 a2 e2 : Value} (h : Wk w0 B1 B2 a1 e1 a2 e2 W) : (W.cell? ⟨B1, 0, none⟩ = some a1 ∧ W.cell? ⟨B1, 1, none⟩ = some e1) ∧ (W.cell? ⟨B2, 0, none⟩ = some a2 ∧ W.cell? ⟨B2, 1, none⟩ = some e2) ∧ B1 < W.heap.size ∧ B2 < W.heap.size :=
  ⟨⟨by rw [h.a.cell]; rfl, by rw [h.a.cell]; rfl⟩, ⟨by rw [h.b.cell]; rfl, by rw [h.b.cell]; rfl⟩, h.a.lt, h.b.lt⟩
theorem small3 : threeD.small := by constructor <;> decide
theorem small2 : twoD.small := by constructor <;> decide
def Gets (v : Value) (W : World) (e : Ending) (w' : World) : Prop := e = .returned v ∧ Below W.heap.size W w'
theorem c_core1 {v : Value} {W : World} (h : LogAt W v threeD) : Calls Tryd.prog 20 #[v, .agg #[.int .i64 2, .int .i64 7, .int .i64 0]] W (Gets (.tuple #[q2v 5 2, .int .i64 0]) W) := by
  have := Core_any v threeD 2 7 0 W h small3
  rw [wv1.1, wv1.2] at this
  exact this
theorem c_core2 {v : Value} {W : World} (h : LogAt W v threeD) : Calls Tryd.prog 20 #[v, .agg #[.int .i64 0, .int .i64 0, .int .i64 0]] W (Gets (.tuple #[q2v 0 0, .int .i64 3]) W) := by
  have := Core_any v threeD 0 0 0 W h small3
  rw [wv2.1, wv2.2] at this
  exact this
theorem c_best1 {v : Value} {W : World} (h : LogAt W v threeD) : Calls Tryd.prog 26 #[v] W (Gets (.tuple #[q2v 5 2, .int .i64 0]) W) := by
  have := Best_any v threeD W h small3
  rw [wv3] at this
  exact this
theorem c_best2 {v : Value} {W : World} (h : LogAt W v twoD) : Calls Tryd.prog 26 #[v] W (Gets (.tuple #[q2v 2 1, .int .i64 0]) W) := by
  have := Best_any v twoD W h small2
  rw [wv4] at this
  exact this
theorem c_line {v : Value} {W : World} (h : LogAt W v threeD) : Calls Tryd.prog 28 #[v] W (Gets (.tuple #[.agg #[.int .i64 2, .int .i64 7, .int .i64 0], .int .i64 0]) W) := by
  have := Line_any v threeD W h small3
  rw [wv11, show logErr threeD = 0 by kernel_rfl] at this
  exact this
theorem valr_qe {l : LogD} {p : PK} {r : Rat} {e : Int} (h1 : valR l p = r) (h2 : cpE l p = e) : qe (valR l p) (cpE l p) = qe r e := by rw [h1, h2]
theorem cp1 : cpE threeD ⟨0, 1, 2, 2⟩ = 0 := by
  unfold cpE
  rw [if_neg (by simp [show logErr threeD = 0 by kernel_rfl]), if_pos]
  exact ⟨by decide, by decide, by decide, by decide, by decide⟩
theorem cp2 : cpE threeD ⟨0, 0, 1, 0⟩ = 2 := by
  unfold cpE
  rw [if_neg (by simp [show logErr threeD = 0 by kernel_rfl]), if_neg]
  intro h
  have := h.side
  revert this
  decide
theorem wq1 : qe (5 / 2) 0 = .tuple #[q2v 5 2, .int .i64 0] := by kernel_rfl
theorem c_proof1 {v : Value} {W : World} (hn : NoneAt W) (h : LogAt W v threeD) : Calls Tryd.prog 31 #[v, .agg #[.int .i64 0, .int .i64 1, .int .i64 2, .int .i64 2]] W (Gets (.tuple #[q2v 5 2, .int .i64 0]) W) := by
  have := CheckProof_any v threeD ⟨0, 1, 2, 2⟩ W hn h small3
  rw [valr_qe wv5 cp1, wq1] at this
  exact this
theorem c_proof2 {v : Value} {W : World} (hn : NoneAt W) (h : LogAt W v threeD) : Calls Tryd.prog 31 #[v, .agg #[.int .i64 0, .int .i64 0, .int .i64 1, .int .i64 0]] W (Gets (.tuple #[q2v 0 0, .int .i64 2]) W) := by
  have := CheckProof_any v threeD ⟨0, 0, 1, 0⟩ W hn h small3
  rw [cp2] at this
  exact this
theorem c_proof {v : Value} {W : World} (h : LogAt W v threeD) : Calls Tryd.prog 33 #[v] W (Gets (.tuple #[.agg #[.int .i64 0, .int .i64 1, .int .i64 2, .int .i64 2], .int .i64 0]) W) := by
  have := Proof_any v threeD W h small3
  rw [wv12, show logErr threeD = 0 by kernel_rfl] at this
  exact this
theorem c_heights1 {v : Value} {W : World} (h : LogAt W v threeD) : Calls Tryd.prog 34 #[v, .int .i64 2, .int .i64 2] W (Gets (.tuple #[q2v 3 1, q2v 4 1, .int .i64 0]) W) := by
  have := Heights_any v threeD 2 2 W h small3
  rw [wv6] at this
  exact this
theorem c_heights2 {v : Value} {W : World} (h : LogAt W v threeD) : Calls Tryd.prog 34 #[v, .int .i64 3, .int .i64 2] W (Gets (.tuple #[q2v 0 0, q2v 0 0, .int .i64 17]) W) := by
  have := Heights_any v threeD 3 2 W h small3
  rw [wv7] at this
  exact this
theorem c_heights3 {v : Value} {W : World} (h : LogAt W v twoD) : Calls Tryd.prog 34 #[v, .int .i64 2, .int .i64 2] W (Gets (.tuple #[q2v 6 1, q2v 14 1, .int .i64 0]) W) := by
  have := Heights_any v twoD 2 2 W h small2
  rw [wv8] at this
  exact this
theorem c_turns1 {v : Value} {W : World} (h : LogAt W v threeD) : Calls Tryd.prog 29 #[v, .int .i64 1, .int .i64 1] W (Gets (.tuple #[.int .i64 1, .int .i64 0]) W) := by
  have := Turns_any v threeD 1 1 W h small3
  rw [wv9.1, wv9.2.1] at this
  exact this
theorem c_turns2 {v : Value} {W : World} (h : LogAt W v threeD) : Calls Tryd.prog 29 #[v, .int .i64 3, .int .i64 1] W (Gets (.tuple #[.int .i64 0, .int .i64 17]) W) := by
  have := Turns_any v threeD 3 1 W h small3
  rw [wv9.2.2.1, wv9.2.2.2] at this
  exact this
theorem c_span {v : Value} {W : World} (h : RoughAt W v roughD) : Calls Tryd.prog 37 #[v] W (Gets (.tuple #[q2v 5 2, q2v 5 2, .int .i64 0]) W) := by
  have := Span_any v roughD W h (by refine ⟨?_, ?_, ?_⟩ <;> decide)
  rw [wv10] at this
  exact this
theorem c_rcore {v : Value} {W : World} (h : LogAt W v threeD) : Calls Tryd.prog 21 #[v, .agg #[.int .i64 2, .int .i64 7, .int .i64 0]] W (Gets (.tuple #[q2v 5 2, .int .i64 0]) W) := by
  have := rCore_any v threeD 2 7 0 W h small3
  rw [wv1.1, wv1.2] at this
  exact this
theorem c_rproof {v : Value} {W : World} (h : LogAt W v threeD) : Calls Tryd.prog 32 #[v, .agg #[.int .i64 0, .int .i64 1, .int .i64 2, .int .i64 2]] W (Gets (.tuple #[q2v 5 2, .int .i64 0]) W) := by
  have := rCheckProof_any v threeD ⟨0, 1, 2, 2⟩ W h small3
  rw [valr_qe wv5 cp1, wq1] at this
  exact this
theorem pair_eq4 (a b c d : Int) (w : World) : (Op.equalIn 10000 31 (.agg #[.int .i64 a, .int .i64 b]) (.agg #[.int .i64 c, .int .i64 d])).run Tryd.prog w = .ok (a == c && b == d) w := by
  have hp : Tryd.prog.stoodInHeld 31 = false := by kernel_rfl
  have ht : Tryd.prog.underlying 31 = some (.struct (Tryd.prog.fieldsOf 31)) := by kernel_rfl
  have he : Tryd.prog.underlying 2 = some (.int .i64) := by kernel_rfl
  have hf : (Tryd.prog.fieldsOf 31).toList.map (fun f => (f.name, f.type, f.offset)) = [("Num", 2, 0), ("Den", 2, 1)] := by kernel_rfl
  have p0 : ∀ (a b : Int) w, (part 2 #[.int .i64 a, .int .i64 b] 0).run Tryd.prog w = .ok (.int .i64 a) w := fun _ _ w => by kernel_rfl
  have p1 : ∀ (a b : Int) w, (part 2 #[.int .i64 a, .int .i64 b] 1).run Tryd.prog w = .ok (.int .i64 b) w := fun _ _ w => by kernel_rfl
  have h : ∀ a b w, (Op.equalIn 9999 2 (.int .i64 a) (.int .i64 b)).run Tryd.prog w = .ok (a == b) w := fun a b w => run_equalIn_int w 9998 _ _ _ a b he
  rw [run_equalIn_agg w 9999 _ _ _ ht hp]
  obtain ⟨f0, f1, hl⟩ : ∃ f0 f1, (Tryd.prog.fieldsOf 31).toList = [f0, f1] := by
    have hlen : (Tryd.prog.fieldsOf 31).toList.length = 2 := by have := congrArg List.length hf; simpa using this
    generalize (Tryd.prog.fieldsOf 31).toList = fl at hlen
    match fl, hlen with
    | [f0, f1], _ => exact ⟨f0, f1, rfl⟩
  rw [hl] at hf ⊢
  simp only [List.map_cons, List.map_nil, List.cons.injEq, Prod.mk.injEq, and_true] at hf
  obtain ⟨⟨n0, t0, o0⟩, n1, t1, o1⟩ := hf
  simp only [Op.eqFields, n0, t0, o0, n1, t1, o1]
  by_cases h1 : a = c <;> by_cases h2 : b = d <;> simp [p0, p1, h, h1, h2]
theorem pair_eq (a b : Int) (w : World) : (Op.equalIn 10000 31 (.agg #[.int .i64 a, .int .i64 b]) (.agg #[.int .i64 a, .int .i64 b])).run Tryd.prog w = .ok true w := by
  rw [pair_eq4]; simp
end Go.Proofs.YtlhldkiggmlegaaDoor
