import Derived.Test.YtjbeoakikdkdaaaSb
import Derived.Test.YtjbeoakikdkdaaaSa
import Derived.Laws.StructEq
import Derived.Maps.RangeRun
namespace Go.Proofs.Ytjbeoakikdkdaaa
open Go.RowKit Go.Vat

/-! ## Which yards are valid -/
def okWin (r : Int × Int) : Bool := decide (0 ≤ r.1) && decide (r.1 ≤ r.2) && decide (r.2 ≤ 100)
theorem okWin_iff (x y : Int) : okWin (x, y) = true ↔ (0 ≤ x ∧ x ≤ y ∧ y ≤ 100) := by
  simp [okWin]; omega
theorem okWin_of {r : Int × Int} (h1 : ¬ r.2 < r.1) (h2 : okInts 0 100 [r.1, r.2] = true) : okWin r = true := by
  simp [okInts] at h2
  simp [okWin]
  omega
theorem okWin_not {r : Int × Int} (h2 : okInts 0 100 [r.1, r.2] = false) : okWin r = false := by
  simp [okInts] at h2
  simp [okWin]
  omega
theorem okWin_bad {r : Int × Int} (h : r.2 < r.1) : okWin r = false := by
  simp [okWin]
  omega
def yardErr (y : YardD) : Int := if y.load < 1 ∨ 10 < y.load then 3 else if 10 < y.logs.length then 6 else if y.logs.all okWin = true then 0 else 3
theorem yardErr_zero {y : YardD} (h : yardErr y = 0) : y.Ok := by
  unfold yardErr at h
  split at h
  · cases h
  · split at h
    · cases h
    · split at h
      · rename_i h1 h2 h3
        rw [List.all_eq_true] at h3
        exact ⟨by omega, by omega, by omega, fun l hl => (okWin_iff l.1 l.2).1 (h3 l hl)⟩
      · cases h
theorem yardErr_of {y : YardD} (h : y.Ok) : yardErr y = 0 := by
  unfold yardErr
  rw [if_neg (by have := h.l1; have := h.l2; omega), if_neg (by have := h.count; omega), if_pos (List.all_eq_true.2 fun l hl => (okWin_iff l.1 l.2).2 (h.log l hl))]
theorem yardErr_iff (y : YardD) : yardErr y = 0 ↔ y.Ok := ⟨yardErr_zero, yardErr_of⟩
/-- The value v is the yard y. -/
def YardAt (w : World) (v : Value) (y : YardD) : Prop := ∃ sv, v = .agg #[.int .i64 y.load, sv] ∧ PairsAt w sv y.logs
theorem YardAt.below {w w' : World} {v : Value} {y : YardD} (h : YardAt w v y) (hb : Below w.heap.size w w') : YardAt w' v y := by
  obtain ⟨sv, e, h⟩ := h
  exact ⟨sv, e, h.below hb⟩
set_option maxHeartbeats 400000 in
theorem within_any (lo hi : Int) (v : Value) (l : List Int) (w : World) (hv : IntsAt w v l) (hlen : l.length ≤ 1000000) :
    Calls Try.prog 54 #[.int .i64 lo, .int .i64 hi, v] w fun e w' => e = .returned (.bool (okInts lo hi l)) ∧ w = w' := by
  obtain ⟨a, cap, rfl, hc⟩ := hv
  have hat := (IntsAt.at (w := w) (a := a) (n := l.length) (cap := cap) ⟨a, cap, rfl, hc⟩).2
  clear hc
  have HA := Lib.hid hat
  clear hat
  go_enter Try.func54, Try.ntmps54
  go_wp2
  go_loop [8, 11] (fun _ i => ∃ k : Nat, k ≤ l.length ∧ i = .int .i64 k ∧ okInts lo hi (l.take k) = true) (fun _ i => l.length - (intOf i).toNat)
  case atStart => exact ⟨0, Nat.zero_le _, rfl, by simp [okInts]⟩
  case round =>
    obtain ⟨k, hk, rfl, hok⟩ := hrel
    have HO := Lib.hid hok
    clear hok
    by_cases hlt : k < l.length
    · obtain ⟨b, off, rfl, hc⟩ := HA.out k hlt
      by_cases h1 : l[k] < lo
      · go_wp2
        go_ret
        exact ⟨congrArg (fun b => Ending.returned (.bool b)) (okInts_false hlt (by omega)).symm, rfl⟩
      · by_cases h2 : hi < l[k]
        · go_wp2
          go_ret
          exact ⟨congrArg (fun b => Ending.returned (.bool b)) (okInts_false hlt (by omega)).symm, rfl⟩
        · go_wp2
          go_round
          case rel => exact ⟨k + 1, by omega, by go_num, okInts_snoc hlt HO.out (by omega) (by omega)⟩
          case measure => simp [intOf]; omega
    · obtain rfl : k = l.length := by omega
      go_wp2
      go_ret
      refine ⟨?_, rfl⟩
      have := HO.out
      rw [List.take_length] at this
      rw [this]
      rfl

set_option maxHeartbeats 800000 in
theorem isWindow_any (x y : Int) (w : World) :
    Calls Try.prog 57 #[.agg #[.int .i64 x, .int .i64 y]] w fun e w' => e = .returned (.bool (okWin (x, y))) ∧ Below w.heap.size w w' := by
  by_cases h1 : y < x
  · have d1 : decide (x ≤ y) = false := by simp; omega
    rw [okWin_bad (r := (x, y)) h1]
    go_enter Try.func57, Try.ntmps57
    go_wp2
    go_ret
    exact ⟨rfl, below1 _ _⟩
  · have d1 : decide (x ≤ y) = true := by simp; omega
    by_cases h2 : okInts 0 100 [x, y] = true
    · rw [okWin_of (r := (x, y)) (by simpa using h1) h2]
      have H2 := Lib.hid h2
      clear h2
      go_enter Try.func57, Try.ntmps57
      go_wp2_with fail
      refine (within_any 0 100 _ [x, y] _ (IntsAt.mk2 (by go_simp) (by go_simp)) (by simp)).mono ?_
      rintro e w' ⟨rfl, rfl⟩
      rw [H2.out]
      go_wp2
      go_ret
      exact ⟨rfl, below2 _ _ _⟩
    · rw [Bool.not_eq_true] at h2
      rw [okWin_not (r := (x, y)) h2]
      have H2 := Lib.hid h2
      clear h2
      go_enter Try.func57, Try.ntmps57
      go_wp2_with fail
      refine (within_any 0 100 _ [x, y] _ (IntsAt.mk2 (by go_simp) (by go_simp)) (by simp)).mono ?_
      rintro e w' ⟨rfl, rfl⟩
      rw [H2.out]
      go_wp2
      go_ret
      exact ⟨rfl, below2 _ _ _⟩
set_option maxHeartbeats 800000 in
theorem areWindows_any (v : Value) (l : List (Int × Int)) (w : World) (hv : PairsAt w v l) (hlen : l.length ≤ 1000000) :
    Calls Try.prog 61 #[v] w fun e w' => e = .returned (.bool (l.all okWin)) ∧ Below w.heap.size w w' := by
  obtain ⟨a, cap, rfl, hc⟩ := hv
  have hat := (PairsAt.at (w := w) (a := a) (n := l.length) (cap := cap) ⟨a, cap, rfl, hc⟩).2
  clear hc
  have HA := Lib.hid hat
  clear hat
  go_enter Try.func61, Try.ntmps61
  go_wp2
  go_loopw [4, 7] (fun _ i wr => ∃ k : Nat, k ≤ l.length ∧ i = .int .i64 k ∧ (l.take k).all okWin = true ∧ Below w.heap.size w wr) (fun _ i _ => l.length - (intOf i).toNat)
  case atStart => exact ⟨0, Nat.zero_le _, rfl, by simp, Below.refl _ _⟩
  case round =>
    obtain ⟨k, hk, rfl, hok, hB⟩ := hrel
    have HO := Lib.hid hok
    clear hok
    by_cases hlt : k < l.length
    · obtain ⟨b, off, rfl, hc, hc'⟩ := HA.out k hlt
      have hbl := lt_of_cell hc
      rw [← hB.cell (p := ⟨b, _, none⟩) hbl] at hc hc'
      have hk1 := hB.size
      go_wp2_with fail
      refine (isWindow_any l[k].1 l[k].2 _).mono ?_
      rintro e w' ⟨rfl, hb⟩
      have hB2 : Below w.heap.size w w' := (hB.alloc hk1 _).trans (hb.mono (by simp; omega))
      by_cases h2 : okWin l[k] = true
      · rw [show okWin (l[k].1, l[k].2) = true from h2]
        go_wp2
        go_roundw
        case rel => exact ⟨k + 1, by omega, by go_num, all_snoc hlt HO.out h2, hB2⟩
        case measure => simp [intOf]; omega
      · rw [Bool.not_eq_true] at h2
        rw [show okWin (l[k].1, l[k].2) = false from h2]
        go_wp2
        go_ret
        exact ⟨congrArg (fun b => Ending.returned (.bool b)) (all_false hlt h2).symm, hB2⟩
    · obtain rfl : k = l.length := by omega
      go_wp2
      go_ret
      refine ⟨?_, hB⟩
      have := HO.out
      rw [List.take_length] at this
      rw [this]
      rfl
set_option maxHeartbeats 800000 in
theorem CheckYard_any (v : Value) (y : YardD) (w : World) (hv : YardAt w v y) (hl : y.logs.length ≤ 1000000) :
    Calls Try.prog 23 #[v] w fun e w' => e = .returned (.int .i64 (yardErr y)) ∧ Below w.heap.size w w' := by
  obtain ⟨sv, rfl, hp⟩ := hv
  obtain ⟨sa, cap, rfl⟩ := hp.slice
  have HP := Lib.hid hp
  clear hp
  go_enter Try.func23, Try.ntmps23
  go_wp2_with fail
  refine (within_any 1 10 _ [y.load] _ (IntsAt.mk1 (by go_simp)) (by simp)).mono ?_
  rintro e w' ⟨rfl, rfl⟩
  by_cases h1 : y.load < 1 ∨ 10 < y.load
  · have HE3 := Lib.hid (show yardErr y = 3 from if_pos h1)
    rw [show okInts 1 10 [y.load] = false by simp [okInts]; omega]
    clear h1
    go_wp2
    go_ret
    exact ⟨ret_int HE3.out.symm, below2 _ _ _⟩
  rw [show okInts 1 10 [y.load] = true by simp [okInts]; omega]
  by_cases h2 : 10 < y.logs.length
  · have HE3 := Lib.hid (show yardErr y = 6 by unfold yardErr; rw [if_neg h1, if_pos h2])
    have d1 : decide ((y.logs.length : Int) > 10) = true := by simp; omega
    have d2 : decide ((10 : Int) < (y.logs.length : Int)) = true := by simp; omega
    clear h1
    go_wp2
    go_ret
    exact ⟨ret_int HE3.out.symm, below2 _ _ _⟩
  have d1 : decide ((y.logs.length : Int) > 10) = false := by simp; omega
  have d2 : decide ((10 : Int) < (y.logs.length : Int)) = false := by simp; omega
  have HE := Lib.hid (show yardErr y = if y.logs.all okWin = true then 0 else 3 by unfold yardErr; rw [if_neg h1, if_neg h2])
  clear h1
  go_wp2_with fail
  refine (areWindows_any _ y.logs _ (HP.out.below (below2 _ _ _)) hl).mono ?_
  rintro e w' ⟨rfl, hb⟩
  cases hq : y.logs.all okWin with
  | true =>
    have HQ := Lib.hid hq
    clear hq
    go_wp2
    go_ret
    exact ⟨ret_int (by rw [HE.out, HQ.out, if_pos rfl]), after2 hb⟩
  | false =>
    have HQ := Lib.hid hq
    clear hq
    go_wp2
    go_ret
    exact ⟨ret_int (by rw [HE.out, HQ.out, if_neg (by simp)]), after2 hb⟩

/-! ## The reference -/
set_option maxHeartbeats 800000 in
theorem rIsWindow_any (x y : Int) (w : World) :
    Calls Try.prog 59 #[.agg #[.int .i64 x, .int .i64 y]] w fun e w' => e = .returned (.bool (okWin (x, y))) ∧ Below w.heap.size w w' := by
  by_cases h0 : 0 ≤ x
  case neg =>
    have d0 : decide (x ≥ 0) = false := by simp; omega
    have d1 : decide (0 ≤ x) = false := by simp; omega
    rw [show okWin (x, y) = false by simp [okWin]; omega]
    go_enter Try.func59, Try.ntmps59
    go_wp2
    go_ret
    exact ⟨rfl, below1 _ _⟩
  have d0 : decide (x ≥ 0) = true := by simp; omega
  have d1 : decide (0 ≤ x) = true := by simp; omega
  by_cases h2 : x ≤ y
  case neg =>
    have d2 : decide (x ≤ y) = false := by simp; omega
    rw [okWin_bad (r := (x, y)) (show y < x by omega)]
    go_enter Try.func59, Try.ntmps59
    go_wp2
    go_ret
    exact ⟨rfl, below1 _ _⟩
  have d2 : decide (x ≤ y) = true := by simpa using h2
  by_cases h3 : y ≤ 100
  case neg =>
    have d3 : decide (y ≤ 100) = false := by simp; omega
    rw [show okWin (x, y) = false by simp [okWin]; omega]
    go_enter Try.func59, Try.ntmps59
    go_wp2
    go_ret
    exact ⟨rfl, below1 _ _⟩
  have d3 : decide (y ≤ 100) = true := by simpa using h3
  rw [(okWin_iff x y).2 ⟨h0, h2, h3⟩]
  go_enter Try.func59, Try.ntmps59
  go_wp2
  go_ret
  exact ⟨rfl, below1 _ _⟩
set_option maxHeartbeats 2000000 in
theorem rCheckYard_any (v : Value) (y : YardD) (w : World) (hv : YardAt w v y) (hl : y.logs.length ≤ 1000000) :
    Calls Try.prog 24 #[v] w fun e w' => e = .returned (.int .i64 (yardErr y)) ∧ Below w.heap.size w w' := by
  obtain ⟨sv, rfl, hp⟩ := hv
  obtain ⟨sa, cap, rfl⟩ := hp.slice
  have HA := Lib.hid hp.at.2
  clear hp
  have B0 := Lib.hid (Blk.new w (.cells #[.int .i64 y.load, .slice sa y.logs.length cap] 24))
  have hB0 := below1 w (.cells #[.int .i64 y.load, .slice sa y.logs.length cap] 24)
  by_cases h1 : y.load < 1 ∨ 10 < y.load
  · rw [show yardErr y = 3 from if_pos h1]
    by_cases h2 : y.load < 1
    · have d1 : decide (y.load < 1) = true := by simpa using h2
      clear h1 h2 hB0
      go_enter Try.func24, Try.ntmps24
      go_wp2
      go_ret
      exact ⟨rfl, below1 _ _⟩
    · have d1 : decide (y.load < 1) = false := by simpa using h2
      have d2 : decide (y.load > 10) = true := by simp; omega
      have d3 : decide (10 < y.load) = true := by simp; omega
      clear h1 h2 hB0
      go_enter Try.func24, Try.ntmps24
      go_wp2
      go_ret
      exact ⟨rfl, below1 _ _⟩
  have d1 : decide (y.load < 1) = false := by simp; omega
  have d2 : decide (y.load > 10) = false := by simp; omega
  have d3 : decide (10 < y.load) = false := by simp; omega
  by_cases h2 : 10 < y.logs.length
  · rw [show yardErr y = 6 by unfold yardErr; rw [if_neg h1, if_pos h2]]
    have d4 : decide ((y.logs.length : Int) > 10) = true := by simp; omega
    have d5 : decide ((10 : Int) < (y.logs.length : Int)) = true := by simp; omega
    clear h1 hB0
    go_enter Try.func24, Try.ntmps24
    go_wp2
    go_ret
    exact ⟨rfl, below1 _ _⟩
  have d4 : decide ((y.logs.length : Int) > 10) = false := by simp; omega
  have d5 : decide ((10 : Int) < (y.logs.length : Int)) = false := by simp; omega
  have HE := Lib.hid (show yardErr y = if y.logs.all okWin = true then 0 else 3 by unfold yardErr; rw [if_neg h1, if_neg h2])
  clear h1 h2
  go_enter Try.func24, Try.ntmps24
  go_wp2
  generalize w.alloc (.cells #[.int .i64 y.load, .slice sa y.logs.length cap] 24) = W0 at *
  go_loopw [3] (fun i wr => ∃ k : Nat, k ≤ y.logs.length ∧ i = .int .i64 k ∧ (y.logs.take k).all okWin = true ∧ Below W0.heap.size W0 wr) (fun i _ => y.logs.length - (intOf i).toNat)
  case atStart => exact ⟨0, Nat.zero_le _, rfl, by simp, Below.refl _ _⟩
  case round =>
    obtain ⟨k, hk, rfl, hok, hB⟩ := hrel
    have HO := Lib.hid hok
    clear hok
    have B1 := B0.out.below hB
    have c1 := B1.cell 1
    simp at c1
    by_cases hlt : k < y.logs.length
    · obtain ⟨b, off, hsa, hc, hc'⟩ := HA.out k hlt
      subst hsa
      have hc := cellB (cellB hc hB0) hB
      have hc' := cellB (cellB hc' hB0) hB
      go_wp2_with fail
      refine (rIsWindow_any y.logs[k].1 y.logs[k].2 _).mono ?_
      rintro e w' ⟨rfl, hb⟩
      have hB2 : Below W0.heap.size W0 w' := bC hB hb
      by_cases h2 : okWin y.logs[k] = true
      · rw [show okWin (y.logs[k].1, y.logs[k].2) = true from h2]
        go_wp2
        go_roundw
        case rel => exact ⟨k + 1, by omega, by go_num, all_snoc hlt HO.out h2, hB2⟩
        case measure => simp [intOf]; omega
      · rw [Bool.not_eq_true] at h2
        rw [show okWin (y.logs[k].1, y.logs[k].2) = false from h2]
        go_wp2
        go_ret
        exact ⟨ret_int (by rw [HE.out, if_neg (by rw [all_false hlt h2]; simp)]), bC hB0 hB2⟩
    · obtain rfl : k = y.logs.length := by omega
      go_wp2
      go_ret
      refine ⟨ret_int ?_, bC hB0 hB⟩
      have := HO.out
      rw [List.take_length] at this
      rw [HE.out, if_pos this]
end Go.Proofs.Ytjbeoakikdkdaaa

namespace Go.Proofs.Ytjbeoakikdkdaaa
open Go.RowKit

/-! ## A map by windows -/
abbrev SK := Int × Int
def pkV (s : SK) : Value := .agg #[.int .i64 s.1, .int .i64 s.2]
def ent (e : SK × Value × Nat) : MapEntry := ⟨pkV e.1, e.2.1, e.2.2⟩
def entsO (es : List (SK × Value × Nat)) (clock : Nat) : Obj := .map (es.map ent).toArray clock
def findE (k : SK) : List (SK × Value × Nat) → Nat → Option (Nat × Value)
  | [], _ => none
  | e :: es, i => if k = e.1 then some (i, e.2.1) else findE k es (i + 1)

theorem pk_eq (x y : SK) (w : World) : (Op.equal 27 (pkV x) (pkV y)).run Try.prog w = .ok (decide (x = y)) w := by
  have hp : Try.prog.stoodInHeld 27 = false := by kernel_rfl
  have ht : Try.prog.underlying 27 = some (.struct (Try.prog.fieldsOf 27)) := by kernel_rfl
  have he : Try.prog.underlying 2 = some (.int .i64) := by kernel_rfl
  have hf : (Try.prog.fieldsOf 27).toList.map (fun f => (f.name, f.type, f.offset)) = [("Lo", 2, 0), ("Hi", 2, 1)] := by kernel_rfl
  have p0 : ∀ (a b : Int) w, (part 2 #[.int .i64 a, .int .i64 b] 0).run Try.prog w = .ok (.int .i64 a) w := fun _ _ w => by kernel_rfl
  have p1 : ∀ (a b : Int) w, (part 2 #[.int .i64 a, .int .i64 b] 1).run Try.prog w = .ok (.int .i64 b) w := fun _ _ w => by kernel_rfl
  have h : ∀ a b w, (Op.equalIn 9999 2 (.int .i64 a) (.int .i64 b)).run Try.prog w = .ok (a == b) w := fun a b w => run_equalIn_int w 9998 _ _ _ a b he
  unfold Op.equal Op.maxDepth pkV
  rw [run_equalIn_agg w 9999 _ _ _ ht hp]
  obtain ⟨f0, f1, hl⟩ : ∃ f0 f1, (Try.prog.fieldsOf 27).toList = [f0, f1] := by
    have hlen : (Try.prog.fieldsOf 27).toList.length = 2 := by have := congrArg List.length hf; simpa using this
    generalize (Try.prog.fieldsOf 27).toList = fl at hlen
    match fl, hlen with
    | [f0, f1], _ => exact ⟨f0, f1, rfl⟩
  rw [hl] at hf ⊢
  simp only [List.map_cons, List.map_nil, List.cons.injEq, Prod.mk.injEq, and_true] at hf
  obtain ⟨⟨n0, t0, o0⟩, n1, t1, o1⟩ := hf
  obtain ⟨xf, xm⟩ := x
  obtain ⟨yf, ym⟩ := y
  simp only [Op.eqFields, n0, t0, o0, n1, t1, o1]
  by_cases h1 : xf = yf <;> by_cases h2 : xm = ym <;> simp [p0, p1, h, h1, h2]

theorem run_find_pk (k : SK) : ∀ (es : List (SK × Value × Nat)) (i : Nat) (w : World), (Instr.findAsking 27 (pkV k) (es.map ent) i).run Try.prog w = .ok (findE k es i) w
  | [], _, w => by simp [Instr.findAsking, findE]
  | e :: es, i, w => by
    have ih := run_find_pk k es (i + 1) w
    simp only [List.map_cons, Instr.findAsking, findE, Sem.run_bind, ent, pk_eq, Result.andThen_ok]
    by_cases h : k = e.1
    · simp [h]
    · simp [h, ih]
theorem run_findKey_pk (k : SK) (es : List (SK × Value × Nat)) (w : World) : (Instr.findKey 27 (pkV k) (es.map ent)).run Try.prog w = .ok (findE k es 0) w := by
  have ht : Try.prog.underlying 27 = some (.struct (Try.prog.fieldsOf 27)) := by kernel_rfl
  have h := run_find_pk k es 0 w
  unfold Instr.findKey
  cases es with
  | nil => simp [run_underlying ht, Instr.findNow, findE]
  | cons e es =>
    simp only [List.map_cons] at h ⊢
    simp only [Sem.run_bind, run_underlying ht, Result.andThen_ok, Instr.findNow, Instr.sameNow]
    exact h
theorem run_checkKey_pk (k : SK) (em : Bool) (w : World) : (Instr.checkKey em 10000 27 (pkV k)).run Try.prog w = .ok () w := by
  cases em <;> kernel_rfl

def keysOf (es : List (SK × Value × Nat)) : List SK := es.map (·.1)
theorem findE_none {k : SK} : ∀ {es : List (SK × Value × Nat)} {i : Nat}, k ∉ keysOf es → findE k es i = none
  | [], _, _ => rfl
  | e :: es, i, h => by
    simp [keysOf] at h
    rw [findE, if_neg h.1]
    exact findE_none (by simpa [keysOf] using h.2)
theorem findE_some {k : SK} : ∀ {es : List (SK × Value × Nat)} {i : Nat}, k ∈ keysOf es → ∃ j e, es[j]? = some e ∧ e.1 = k ∧ findE k es i = some (i + j, e.2.1) ∧ ∀ j', j' < j → ∀ e', es[j']? = some e' → e'.1 ≠ k
  | [], _, h => by cases h
  | e :: es, i, h => by
    by_cases he : k = e.1
    · exact ⟨0, e, rfl, he.symm, by rw [findE, if_pos he]; rfl, fun j' h => by omega⟩
    · obtain ⟨j, e', h1, h2, h3, h4⟩ := findE_some (es := es) (i := i + 1) (k := k) (by simpa [keysOf, he] using h)
      refine ⟨j + 1, e', by simpa using h1, h2, by rw [findE, if_neg he, h3]; congr 2; omega, fun j' hj' e'' he'' => ?_⟩
      cases j' with
      | zero => simp at he''; rw [← he'']; exact fun h => he h.symm
      | succ j' => exact h4 j' (by omega) e'' (by simpa using he'')

theorem run_setObj_map {es : Array MapEntry} {clock M : Nat} {W : World} (h : Blk W M (.map es clock)) (o : Obj) : (setObj M o).run Try.prog W = .ok () (W.putObj M o) := by
  unfold Blk at h
  simp [setObj, Sem.run, h, World.putObj]
theorem run_getObj_map {es : Array MapEntry} {clock M : Nat} {W : World} (h : Blk W M (.map es clock)) : (getObj M).run Try.prog W = .ok (.map es clock) W := by
  unfold Blk at h
  simp [getObj, Sem.run, h]

/-- A store at a new key. -/
theorem run_store_pk {es : List (SK × Value × Nat)} {clock M : Nat} {W : World} (h : Blk W M (entsO es clock)) (k : SK) (v : Value) (hk : k ∉ keysOf es) :
    (Instr.mapUpdate 73 (.map (some M)) (pkV k) v).run Try.prog W = .ok () (W.putObj M (entsO (es ++ [(k, v, clock)]) (clock + 1))) := by
  have ht : Try.prog.underlying 73 = some (.map 27 2) := by kernel_rfl
  have hf := run_findKey_pk k es W
  rw [findE_none hk] at hf
  unfold entsO at h ⊢
  simp only [Instr.mapUpdate, Sem.run_bind, run_underlying ht, Result.andThen_ok, run_getObj_map h, run_checkKey_pk, hf, run_setObj_map h]
  simp [ent]
/-- A look at a key. -/
theorem run_look_pk {es : List (SK × Value × Nat)} {clock M : Nat} {W : World} (h : Blk W M (entsO es clock)) (k : SK) :
    (Instr.lookup 73 (.map (some M)) (pkV k) false).run Try.prog W = .ok (match findE k es 0 with | some (_, v) => v | none => .int .i64 0) W := by
  have ht : Try.prog.underlying 73 = some (.map 27 2) := by kernel_rfl
  have hz : (zeroValue 2).run Try.prog W = .ok (.int .i64 0) W := by kernel_rfl
  have hf := run_findKey_pk k es W
  unfold entsO at h
  simp only [Instr.lookup, Sem.run_bind, run_underlying ht, Result.andThen_ok, run_getObj_map h, Sem.run_pure, run_checkKey_pk, hf]
  cases findE k es 0 with
  | none => simp [hz]
  | some x => obtain ⟨_, v⟩ := x; simp
set_option maxRecDepth 100000 in
/-- A key that is there is struck. -/
theorem run_delete_pk {es : List (SK × Value × Nat)} {clock M : Nat} {W : World} (h : Blk W M (entsO es clock)) (k : SK) (hn : (keysOf es).Nodup) (hk : k ∈ keysOf es) (ty : TypeId) (ts : TypeId) :
    (Builtin.delete_ #[73, ts] ty #[.map (some M), pkV k]).run Try.prog W = .ok (.tuple #[]) (W.putObj M (entsO (es.filter fun e => !decide (e.1 = k)) clock)) := by
  have ht : Try.prog.underlying 73 = some (.map 27 2) := by kernel_rfl
  have hf := run_findKey_pk k es W
  obtain ⟨j, e, h1, h2, h3, h4⟩ := findE_some (i := 0) hk
  rw [h3] at hf
  have he : (es.map ent).toArray.eraseIdxIfInBounds (0 + j) = ((es.filter fun e => !decide (e.1 = k)).map ent).toArray := by
    have hj : j < es.length := (List.getElem?_eq_some_iff.1 h1).1
    rw [Nat.zero_add]
    simp only [List.eraseIdxIfInBounds_toArray]
    congr 1
    rw [← ChangeMaps.map_eraseIdx]
    congr 1
    clear h hf h3 W
    induction es generalizing j with
    | nil => simp at hj
    | cons a es ih =>
      have hn' := List.nodup_cons.1 (show (a.1 :: keysOf es).Nodup from hn)
      cases j with
      | zero =>
        simp at h1
        subst h1
        rw [List.eraseIdx_cons_zero, List.filter_cons, if_neg (by simp [h2])]
        symm
        rw [List.filter_eq_self]
        intro x hx
        have : x.1 ≠ k := fun e => hn'.1 (by rw [h2, ← e]; exact List.mem_map_of_mem hx)
        simpa using this
      | succ j =>
        have ha : a.1 ≠ k := h4 0 (by omega) a rfl
        rw [List.eraseIdx_cons_succ, List.filter_cons, if_pos (by simpa using ha)]
        congr 1
        exact ih hn'.2 ((List.mem_cons.1 (show k ∈ a.1 :: keysOf es from hk)).resolve_left (fun e => ha e.symm)) _ (by simpa using h1) (fun j' hj' e' he' => h4 (j' + 1) (by omega) e' (by simpa using he')) (by simpa using hj)
  unfold entsO at h ⊢
  simp only [Builtin.delete_, Sem.run_bind, List.getElem?_toArray, List.getElem?_cons_zero, List.getElem?_cons_succ, run_underlying ht, Result.andThen_ok, run_getObj_map h, run_checkKey_pk, hf, run_setObj_map h, he, Sem.run_pure]

/-- A look at a key that also asks whether it is there. -/
theorem run_look2_pk {es : List (SK × Value × Nat)} {clock M : Nat} {W : World} (h : Blk W M (entsO es clock)) (k : SK) :
    (Instr.lookup 73 (.map (some M)) (pkV k) true).run Try.prog W = .ok (match findE k es 0 with | some (_, v) => .tuple #[v, .bool true] | none => .tuple #[.int .i64 0, .bool false]) W := by
  have ht : Try.prog.underlying 73 = some (.map 27 2) := by kernel_rfl
  have hz : (zeroValue 2).run Try.prog W = .ok (.int .i64 0) W := by kernel_rfl
  have hf := run_findKey_pk k es W
  unfold entsO at h
  simp only [Instr.lookup, Sem.run_bind, run_underlying ht, Result.andThen_ok, run_getObj_map h, Sem.run_pure, run_checkKey_pk, hf]
  cases findE k es 0 with
  | none => simp [hz]
  | some x => obtain ⟨_, v⟩ := x; simp
theorem same_pk (k : SK) : Instr.sameBits 10000 (pkV k) (pkV k) = true := by
  unfold pkV
  simp [Instr.sameBits]
/-- A store at a key that is there, of what is there. -/
theorem run_store_old {es : List (SK × Value × Nat)} {clock M : Nat} {W : World} (h : Blk W M (entsO es clock)) (k : SK) (v : Value) (hk : k ∈ keysOf es) (hv : ∀ e ∈ es, e.1 = k → e.2.1 = v) :
    (Instr.mapUpdate 73 (.map (some M)) (pkV k) v).run Try.prog W = .ok () (W.putObj M (entsO es clock)) := by
  have ht : Try.prog.underlying 73 = some (.map 27 2) := by kernel_rfl
  have hf := run_findKey_pk k es W
  obtain ⟨j, e, h1, h2, h3, _⟩ := findE_some (i := 0) hk
  rw [h3, Nat.zero_add] at hf
  have hj : j < es.length := (List.getElem?_eq_some_iff.1 h1).1
  have hej : ((es.map ent).toArray)[j]? = some (ent e) := by simp [h1]
  have hst : (Instr.keyThatStays (pkV k) (pkV k)).run Try.prog W = .ok (pkV k) W := by
    unfold Instr.keyThatStays
    rw [same_pk]
    rfl
  have hm : ((es.map ent).toArray.modify j fun e => { e with key := pkV k, val := v }) = (es.map ent).toArray := by
    apply Array.ext_getElem?
    intro i
    rw [Array.getElem?_modify]
    by_cases hij : j = i
    · subst hij
      rw [if_pos rfl, hej]
      have h5 := hv e (List.mem_of_getElem? h1) h2
      simp [ent, h2, h5]
    · rw [if_neg hij]
  unfold entsO at h ⊢
  simp only [Instr.mapUpdate, Sem.run_bind, run_underlying ht, Result.andThen_ok, run_getObj_map h, run_checkKey_pk, hf, hej, Option.map_some, Option.getD_some, ent, h2, hst, run_setObj_map h]
  rw [hm]
end Go.Proofs.Ytjbeoakikdkdaaa

namespace Go.Proofs.Ytjbeoakikdkdaaa
open Go.RowKit

/-! ## A map of what windows need -/
structure MapIn (W : World) (M : Nat) (f : SK → Int) (S : SK → Prop) (es : List (SK × Value × Nat)) (clock : Nat) : Prop where
  blk : Blk W M (entsO es clock)
  keys : (keysOf es).Nodup
  vals : ∀ e ∈ es, e.2.1 = .int .i64 (f e.1)
  born : (es.map (·.2.2)).Nodup
  old : ∀ e ∈ es, e.2.2 < clock
  mem : ∀ k, k ∈ keysOf es ↔ S k
def MapIs (W : World) (M : Nat) (f : SK → Int) (S : SK → Prop) : Prop := ∃ es clock, MapIn W M f S es clock
section
variable {W W' : World} {M : Nat} {f : SK → Int} {S : SK → Prop}
theorem MapIs.lt (h : MapIs W M f S) : M < W.heap.size := by obtain ⟨_, _, h⟩ := h; exact h.blk.lt
theorem MapIs.of_block (h : MapIs W M f S) (e : W'.heap[M]? = W.heap[M]?) : MapIs W' M f S := by
  obtain ⟨es, c, h⟩ := h
  exact ⟨es, c, ⟨e.trans h.blk, h.keys, h.vals, h.born, h.old, h.mem⟩⟩
theorem MapIs.below (h : MapIs W M f S) (hb : Below W.heap.size W W') : MapIs W' M f S := h.of_block (hb.block M h.lt)
theorem MapIs.other (h : MapIs W M f S) {b j : Nat} (hne : M ≠ b) (v : Value) : MapIs (W.setCell ⟨b, j, none⟩ v) M f S := by
  obtain ⟨es, c, h⟩ := h
  exact ⟨es, c, ⟨h.blk.other hne v, h.keys, h.vals, h.born, h.old, h.mem⟩⟩
theorem MapIs.same (h : MapIs W M f S) {S' : SK → Prop} (e : ∀ k, S k ↔ S' k) : MapIs W M f S' := by
  obtain ⟨es, c, h⟩ := h
  exact ⟨es, c, ⟨h.blk, h.keys, h.vals, h.born, h.old, fun k => (h.mem k).trans (e k)⟩⟩
theorem MapIs.empty (c : Nat) (h : Blk W M (.map #[] c)) : MapIs W M f (fun _ => False) :=
  ⟨[], c, ⟨h, List.nodup_nil, (fun e he => by cases he), List.nodup_nil, (fun e he => by cases he), fun k => by simp [keysOf]⟩⟩
theorem MapIs.store (h : MapIs W M f S) (k : SK) (hk : ¬ S k) :
    ∃ o, (Instr.mapUpdate 73 (.map (some M)) (pkV k) (.int .i64 (f k))).run Try.prog W = .ok () (W.putObj M o) ∧ MapIs (W.putObj M o) M f (fun x => S x ∨ x = k) := by
  obtain ⟨es, c, h⟩ := h
  have hn : k ∉ keysOf es := fun hh => hk ((h.mem k).1 hh)
  refine ⟨_, run_store_pk h.blk k (.int .i64 (f k)) hn, es ++ [(k, Value.int .i64 (f k), c)], c + 1, ⟨show Blk (W.putObj M (entsO (es ++ [(k, Value.int .i64 (f k), c)]) (c + 1))) M (entsO (es ++ [(k, Value.int .i64 (f k), c)]) (c + 1)) from World.putObj_heap_same h.blk.lt, ?_, ?_, ?_, ?_, ?_⟩⟩
  · unfold keysOf at hn ⊢
    rw [List.map_append]
    exact List.nodup_append.2 ⟨h.keys, by simp, fun a ha b hb => by
      simp only [List.map_cons, List.map_nil, List.mem_singleton] at hb
      subst hb
      exact fun e => hn (e ▸ ha)⟩
  · intro e he
    rcases List.mem_append.1 he with he | he
    · exact h.vals e he
    · simp only [List.mem_singleton] at he; rw [he]
  · rw [List.map_append]
    exact List.nodup_append.2 ⟨h.born, by simp, fun a ha b hb => by
      simp only [List.map_cons, List.map_nil, List.mem_singleton] at hb
      obtain ⟨e, he, rfl⟩ := List.mem_map.1 ha
      have := h.old e he
      omega⟩
  · intro e he
    rcases List.mem_append.1 he with he | he
    · have := h.old e he; omega
    · simp only [List.mem_singleton] at he; rw [he]; simp
  · intro x
    unfold keysOf
    rw [List.map_append, List.mem_append]
    have := h.mem x
    unfold keysOf at this
    rw [this]
    simp
theorem MapIs.look_yes (h : MapIs W M f S) (k : SK) (hk : S k) : (Instr.lookup 73 (.map (some M)) (pkV k) false).run Try.prog W = .ok (.int .i64 (f k)) W := by
  obtain ⟨es, c, h⟩ := h
  rw [run_look_pk h.blk k]
  obtain ⟨j, e, h1, h2, h3, _⟩ := findE_some (i := 0) ((h.mem k).2 hk)
  rw [h3]
  simp only
  rw [h.vals e (List.mem_of_getElem? h1), h2]
theorem MapIs.look_no (h : MapIs W M f S) (k : SK) (hk : ¬ S k) : (Instr.lookup 73 (.map (some M)) (pkV k) false).run Try.prog W = .ok (.int .i64 0) W := by
  obtain ⟨es, c, h⟩ := h
  rw [run_look_pk h.blk k, findE_none (fun hh => hk ((h.mem k).1 hh))]
theorem MapIs.store_old (h : MapIs W M f S) (k : SK) (hk : S k) :
    ∃ o, (Instr.mapUpdate 73 (.map (some M)) (pkV k) (.int .i64 (f k))).run Try.prog W = .ok () (W.putObj M o) ∧ MapIs (W.putObj M o) M f S := by
  obtain ⟨es, c, h⟩ := h
  refine ⟨_, run_store_old h.blk k (.int .i64 (f k)) ((h.mem k).2 hk) (fun e he hek => by rw [h.vals e he, hek]), es, c, ⟨World.putObj_heap_same h.blk.lt, h.keys, h.vals, h.born, h.old, h.mem⟩⟩
theorem MapIs.put (h : MapIs W M f S) (k : SK) :
    ∃ o, (Instr.mapUpdate 73 (.map (some M)) (pkV k) (.int .i64 (f k))).run Try.prog W = .ok () (W.putObj M o) ∧ MapIs (W.putObj M o) M f (fun x => S x ∨ x = k) := by
  by_cases hk : S k
  · obtain ⟨o, h1, h2⟩ := h.store_old k hk
    exact ⟨o, h1, h2.same fun x => ⟨.inl, fun hx => hx.elim id (fun e => e ▸ hk)⟩⟩
  · exact h.store k hk
theorem MapIs.look2_yes (h : MapIs W M f S) (k : SK) (hk : S k) : (Instr.lookup 73 (.map (some M)) (pkV k) true).run Try.prog W = .ok (.tuple #[.int .i64 (f k), .bool true]) W := by
  obtain ⟨es, c, h⟩ := h
  rw [run_look2_pk h.blk k]
  obtain ⟨j, e, h1, h2, h3, _⟩ := findE_some (i := 0) ((h.mem k).2 hk)
  rw [h3]
  simp only
  rw [h.vals e (List.mem_of_getElem? h1), h2]
theorem MapIs.look2_no (h : MapIs W M f S) (k : SK) (hk : ¬ S k) : (Instr.lookup 73 (.map (some M)) (pkV k) true).run Try.prog W = .ok (.tuple #[.int .i64 0, .bool false]) W := by
  obtain ⟨es, c, h⟩ := h
  rw [run_look2_pk h.blk k, findE_none (fun hh => hk ((h.mem k).1 hh))]
theorem putObj_self {o : Obj} (h : Blk W M o) : W.putObj M o = W := by
  unfold Blk at h
  have hl := (Array.getElem?_eq_some_iff.1 h).1
  have e : W.heap.setIfInBounds M o = W.heap := by
    apply Array.ext_getElem?
    intro i
    rw [Array.getElem?_setIfInBounds]
    by_cases hi : M = i
    · subst hi; rw [if_pos rfl, if_pos hl, h]
    · rw [if_neg hi]
  unfold World.putObj
  rw [e]
theorem run_delete_none {es : List (SK × Value × Nat)} {clock : Nat} (h : Blk W M (entsO es clock)) (k : SK) (hk : k ∉ keysOf es) (ty ts : TypeId) :
    (Builtin.delete_ #[73, ts] ty #[.map (some M), pkV k]).run Try.prog W = .ok (.tuple #[]) W := by
  have ht : Try.prog.underlying 73 = some (.map 27 2) := by kernel_rfl
  have hf := run_findKey_pk k es W
  rw [findE_none hk] at hf
  unfold entsO at h
  simp only [Builtin.delete_, Sem.run_bind, List.getElem?_toArray, List.getElem?_cons_zero, List.getElem?_cons_succ, run_underlying ht, Result.andThen_ok, run_getObj_map h, run_checkKey_pk, hf, run_setObj_map h, Sem.run_pure]
  rw [putObj_self h]
theorem MapIs.delete (h : MapIs W M f S) (k : SK) : ∃ o, (∀ ty ts, (Builtin.delete_ #[73, ts] ty #[.map (some M), pkV k]).run Try.prog W = .ok (.tuple #[]) (W.putObj M o)) ∧ MapIs (W.putObj M o) M f (fun x => S x ∧ x ≠ k) := by
  obtain ⟨es, c, h⟩ := h
  by_cases hk : k ∈ keysOf es
  · refine ⟨_, fun ty ts => run_delete_pk h.blk k h.keys hk ty ts, es.filter (fun e => !decide (e.1 = k)), c, ⟨World.putObj_heap_same h.blk.lt, ?_, ?_, ?_, ?_, ?_⟩⟩
    · exact (List.filter_sublist.map _).nodup h.keys
    · exact fun e he => h.vals e (List.mem_filter.1 he).1
    · exact (List.filter_sublist.map _).nodup h.born
    · exact fun e he => h.old e (List.mem_filter.1 he).1
    · intro x
      rw [← h.mem x]
      unfold keysOf
      simp only [List.mem_map, List.mem_filter, Bool.not_eq_true', decide_eq_false_iff_not]
      constructor
      · rintro ⟨e, ⟨h1, h2⟩, rfl⟩; exact ⟨⟨e, h1, rfl⟩, h2⟩
      · rintro ⟨⟨e, h1, rfl⟩, h2⟩; exact ⟨e, ⟨h1, h2⟩, rfl⟩
  · refine ⟨entsO es c, fun ty ts => ?_, ?_⟩
    · rw [putObj_self h.blk]; exact run_delete_none h.blk k hk ty ts
    · rw [putObj_self h.blk]
      refine ⟨es, c, ⟨h.blk, h.keys, h.vals, h.born, h.old, fun x => ?_⟩⟩
      rw [h.mem x]
      exact ⟨fun hx => ⟨hx, fun e => hk ((h.mem k).2 (e ▸ hx))⟩, fun hx => hx.1⟩
end
end Go.Proofs.Ytjbeoakikdkdaaa

namespace Go.Proofs.Ytjbeoakikdkdaaa
open Go.RowKit

/-! ## Slices of small numbers -/
/-- A slice whose values are small whole numbers. -/
def U8At (w : World) (v : Value) (l : List Int) : Prop :=
  ∃ a cap, v = .slice a l.length cap ∧ (l ≠ [] → ∃ b off, a = some ⟨b, off, none⟩ ∧ ∀ i (h : i < l.length), w.cell? ⟨b, off + i, none⟩ = some (.int .u8 l[i]))
theorem U8At.slice {w : World} {v : Value} {l : List Int} (h : U8At w v l) : ∃ a cap, v = .slice a l.length cap := by
  obtain ⟨a, cap, e, _⟩ := h
  exact ⟨a, cap, e⟩
theorem U8At.below {w w' : World} {v : Value} {l : List Int} (h : U8At w v l) (hb : Below w.heap.size w w') : U8At w' v l := by
  obtain ⟨a, cap, e, hc⟩ := h
  refine ⟨a, cap, e, fun hne => ?_⟩
  obtain ⟨b, off, ea, hc⟩ := hc hne
  exact ⟨b, off, ea, fun i hi => (hb.cell (p := ⟨b, _, none⟩) (lt_of_cell (hc i hi))).trans (hc i hi)⟩
theorem U8At.get {w : World} {a : Option Addr} {n c : Nat} {l : List Int} (h : U8At w (.slice a n c) l) (i : Nat) (hi : i < l.length) : ∃ b off, a = some ⟨b, off, none⟩ ∧ w.cell? ⟨b, off + i, none⟩ = some (.int .u8 l[i]) := by
  obtain ⟨a', c', e, hc⟩ := h
  cases e
  obtain ⟨b, off, ea, hx⟩ := hc (by intro h0; rw [h0] at hi; exact absurd hi (Nat.not_lt_zero _))
  exact ⟨b, off, ea, hx i hi⟩
end Go.Proofs.Ytjbeoakikdkdaaa
