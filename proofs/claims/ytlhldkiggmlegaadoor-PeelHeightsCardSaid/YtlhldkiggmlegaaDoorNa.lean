import Derived.RangeFuncNested
import Derived.RangeFuncBound
import Derived.RangeFuncCalls
import Derived.RangeFuncLeaves
import Derived.Shelf.Abstract
import Derived.Shelf.RegionOpen
import Derived.WalkKit
import Derived.OwnWalkIn
import Derived.TacticsInMore
import Derived.LoopNIn
import Derived.LoopIn
import Derived.Maps.AppendAt
import Derived.WalkSpells
import Derived.WalkLawsBesides
import Derived.Lib.Hide
import Derived.BigQuiet
import Derived.Deep.QuietTactic
import Derived.RegionTactic
import Derived.BigRegion
import Derived.Deep.RegionWith
import Derived.IntWalk
import Derived.Laws.ResultCell
import Derived.Deep.RegionHeld3
import Derived.Deep.DeepCutAuto
import Derived.Test.YtlhldkiggmlegaaDoorProg
namespace Go.Proofs.YtlhldkiggmlegaaDoor
open Go.RowKit
/-! ## Numbers: the greatest common divisor, fractions -/
theorem gcd_step (a b : Int) : Int.gcd (b.tmod a) a = Int.gcd a b := by
  simp only [Int.gcd, Int.natAbs_tmod]
  rw [← Nat.gcd_rec]

theorem ret_int {k : IntKind} {a b : Int} (h : a = b) : Ending.returned (.int k a) = .returned (.int k b) := by rw [h]

theorem tmod_bd (a b M : Int) (_ha : -M ≤ a) (_ha' : a ≤ M) (_hb : -M ≤ b) (_hb' : b ≤ M) (h : ¬ a = 0) :
    -M ≤ b.tmod a ∧ b.tmod a ≤ M ∧ (b.tmod a).natAbs < a.natAbs := by
  have h1 : (b.tmod a).natAbs = b.natAbs % a.natAbs := Int.natAbs_tmod ..
  have h2 : b.natAbs % a.natAbs < a.natAbs := Nat.mod_lt _ (by omega)
  omega

set_option maxHeartbeats 400000 in
theorem gcd_any (a b : Int) (w : World) (ha : -4611686018427387904 ≤ a) (ha' : a ≤ 4611686018427387904) (hb : -4611686018427387904 ≤ b) (hb' : b ≤ 4611686018427387904):
    Calls Tryd.prog 95 #[.int .i64 a, .int .i64 b] w fun e w' => e = .returned (.int .i64 (Int.gcd a b)) ∧ w = w' := by
  go_enter Tryd.func95, Tryd.ntmps95
  go_wp2
  go_loop [0, 1] (fun x y => ∃ c d : Int, x = .int .i64 c ∧ y = .int .i64 d ∧ Int.gcd c d = Int.gcd a b ∧ -4611686018427387904 ≤ c ∧ c ≤ 4611686018427387904 ∧ -4611686018427387904 ≤ d ∧ d ≤ 4611686018427387904) (fun x _ => (intOf x).natAbs)
  case atStart => exact ⟨a, b, rfl, rfl, rfl, ha, ha', hb, hb'⟩
  case round =>
    obtain ⟨c, d, rfl, rfl, hg, h1, h2, h3, h4⟩ := hrel
    have HG := Lib.hid hg
    clear hg
    by_cases hc : c = 0
    · subst hc
      go_wp2
      all_goals
        go_ret
        refine ⟨ret_int ?_, rfl⟩
        rw [← HG.out, Int.gcd_zero_left]
        omega
    · go_wp2
      go_round
      case rel =>
        have hb := tmod_bd c d _ h1 h2 h3 h4 hc
        exact ⟨_, _, rfl, rfl, (gcd_step _ _).trans HG.out, hb.1, hb.2.1, h1, h2⟩
      case measure =>
        have := (tmod_bd c d _ h1 h2 h3 h4 hc).2.2
        simpa [intOf] using this

theorem quot_num (num den : Int) (hd : 0 < den) : num.tdiv (Int.gcd num den) = (mkRat num den.toNat).num := by
  rw [Rat.num_mkRat, if_neg (by omega), Int.tdiv_eq_ediv_of_dvd (Int.gcd_dvd_left ..)]
  congr 2
  rw [Int.gcd, Nat.gcd_comm]
  congr 1
  omega
theorem quot_den (num den : Int) (hd : 0 < den) : den / (Int.gcd num den) = ((mkRat num den.toNat).den : Int) := by
  rw [Rat.den_mkRat, if_neg (by omega)]
  obtain ⟨n, rfl⟩ := Int.eq_ofNat_of_zero_le (Int.le_of_lt hd)
  simp [Int.gcd, Nat.gcd_comm]

/-- A fraction as the program holds it. -/
def qv (r : Rat) : Value := .agg #[.int .i64 r.num, .int .i64 r.den]

theorem qv_quot (num den : Int) (hd : 0 < den) : Value.agg #[.int .i64 (num.tdiv (Int.gcd num den)), .int .i64 (den / (Int.gcd num den))] = qv (mkRat num den.toNat) := by
  rw [quot_num num den hd, quot_den num den hd, qv]

set_option maxHeartbeats 400000 in
theorem ratio_any (num den : Int) (w : World) (ha : -4611686018427387904 ≤ num) (ha' : num ≤ 4611686018427387904) (hb : 0 < den) (hb' : den ≤ 4611686018427387904):
    Calls Tryd.prog 89 #[.int .i64 num, .int .i64 den] w fun e w' => e = .returned (qv (mkRat num den.toNat)) ∧ Below w.heap.size w w' := by
  have hpos : 0 < Int.gcd num den := Int.gcd_pos_of_ne_zero_right _ (by omega)
  have hne : ¬ ((Int.gcd num den : Nat) : Int) = 0 := by omega
  go_enter Tryd.func89, Tryd.ntmps89
  go_wp2_with (go_at_call 95; refine (gcd_any _ _ _ (by omega) (by omega) (by omega) (by omega)).mono ?_; rintro e w' ⟨rfl, rfl⟩)
  go_region
  all_goals go_wp2
  refine bodyPost_ret (v := .agg #[.int .i64 (num.tdiv (Int.gcd num den)), .int .i64 (den / (Int.gcd num den))]) (by simp [results, Tryd.results89, go_sem]) rfl ⟨by rw [qv_quot num den hb], ?_⟩
  exact ((Below.refl _ _).alloc (Nat.le_refl _) _).drew

theorem mul_bd (x y A B : Int) (h1 : -A ≤ x) (h2 : x ≤ A) (h3 : 0 ≤ y) (h4 : y ≤ B) (_hA : 0 ≤ A) : -(A * B) ≤ x * y ∧ x * y ≤ A * B := by
  have e1 : x * y ≤ A * y := Int.mul_le_mul_of_nonneg_right h2 h3
  have e2 : A * y ≤ A * B := Int.mul_le_mul_of_nonneg_left h4 (by omega)
  have e3 : -A * y ≤ x * y := Int.mul_le_mul_of_nonneg_right h1 h3
  rw [Int.neg_mul] at e3
  omega

/-- A fraction whose numbers are small enough for all that is done with it. -/
structure Fine (r : Rat) : Prop where
  lo : -17592186044416 ≤ r.num
  hi : r.num ≤ 17592186044416
  den : (r.den : Int) ≤ 131072

theorem Fine.mul {a b : Rat} (ha : Fine a) (hb : Fine b) : -2305843009213693952 ≤ a.num * b.den ∧ a.num * b.den ≤ 2305843009213693952 := by
  have := mul_bd a.num b.den 17592186044416 131072 ha.lo ha.hi (by omega) hb.den (by omega)
  omega
theorem Fine.dens {a b : Rat} (ha : Fine a) (hb : Fine b) : 0 < (a.den : Int) * b.den ∧ (a.den : Int) * b.den ≤ 17592186044416 := by
  have h1 := a.den_pos
  have h2 := b.den_pos
  have := mul_bd a.den b.den 131072 131072 (by omega) ha.den (by omega) hb.den (by omega)
  have : 0 < (a.den : Int) * b.den := Int.mul_pos (by omega) (by omega)
  omega

/-- Three new blocks. -/
theorem below3 (w : World) (a b c : Obj) : Below w.heap.size w (((w.alloc a).alloc b).alloc c) :=
  (((Below.refl _ _).alloc (Nat.le_refl _) _).alloc (by simp) _).alloc (by simp; omega) _
theorem below2 (w : World) (a b : Obj) : Below w.heap.size w ((w.alloc a).alloc b) :=
  ((Below.refl _ _).alloc (Nat.le_refl _) _).alloc (by simp) _
theorem below1 (w : World) (a : Obj) : Below w.heap.size w (w.alloc a) :=
  (Below.refl _ _).alloc (Nat.le_refl _) _

set_option maxHeartbeats 400000 in
theorem less_any (a b : Rat) (w : World) (ha : Fine a) (hb : Fine b) :
    Calls Tryd.prog 80 #[qv a, qv b] w fun e w' => e = .returned (.bool (decide (a < b))) ∧ Below w.heap.size w w' := by
  have m1 := ha.mul hb
  have m2 := hb.mul ha
  obtain ⟨m1, m1'⟩ := m1
  obtain ⟨m2, m2'⟩ := m2
  unfold qv
  go_enter Tryd.func80, Tryd.ntmps80
  go_wp2
  go_ret
  exact ⟨congrArg (fun b => Ending.returned (.bool b)) (decide_eq_decide.2 (Rat.lt_iff a b).symm), below2 _ _ _⟩

set_option maxHeartbeats 400000 in
theorem rless_any (a b : Rat) (w : World) (ha : Fine a) (hb : Fine b) :
    Calls Tryd.prog 45 #[qv a, qv b] w fun e w' => e = .returned (.bool (decide (a < b))) ∧ Below w.heap.size w w' := by
  have m1 := ha.mul hb
  have m2 := hb.mul ha
  obtain ⟨m1, m1'⟩ := m1
  obtain ⟨m2, m2'⟩ := m2
  unfold qv
  go_enter Tryd.func45, Tryd.ntmps45
  go_wp2
  go_ret
  exact ⟨congrArg (fun b => Ending.returned (.bool b)) (decide_eq_decide.2 (Rat.lt_iff a b).symm), below2 _ _ _⟩

theorem bcell {W w1 : World} (hb : Below W.heap.size W w1) : (∀ b o, b < W.heap.size → w1.cell? ⟨b, o, none⟩ = W.cell? ⟨b, o, none⟩) ∧ (∀ b o, b < W.heap.size → w1.frozen? ⟨b, o, none⟩ = W.frozen? ⟨b, o, none⟩) :=
  ⟨fun b o h => hb.cell (p := ⟨b, o, none⟩) h, fun b o h => hb.frozen (p := ⟨b, o, none⟩) h⟩

theorem mkRat_add (a b : Rat) : mkRat (a.num * b.den + b.num * a.den) ((a.den : Int) * b.den).toNat = a + b := by
  rw [Rat.add_def']
  congr 1

theorem after3 {w : World} {a b c : Obj} {w' : World} (h : Below (((w.alloc a).alloc b).alloc c).heap.size (((w.alloc a).alloc b).alloc c) w') : Below w.heap.size w w' :=
  (below3 w a b c).trans (h.mono (by simp; omega))
theorem after2 {w : World} {a b : Obj} {w' : World} (h : Below ((w.alloc a).alloc b).heap.size ((w.alloc a).alloc b) w') : Below w.heap.size w w' :=
  (below2 w a b).trans (h.mono (by simp; omega))
theorem after1 {w : World} {a : Obj} {w' : World} (h : Below (w.alloc a).heap.size (w.alloc a) w') : Below w.heap.size w w' :=
  (below1 w a).trans (h.mono (by simp))

set_option maxHeartbeats 400000 in
theorem plus_any (a b : Rat) (w : World) (ha : Fine a) (hb : Fine b) :
    Calls Tryd.prog 100 #[qv a, qv b] w fun e w' => e = .returned (qv (a + b)) ∧ Below w.heap.size w w' := by
  have m1 := ha.mul hb
  have m2 := hb.mul ha
  have m3 := ha.dens hb
  obtain ⟨m1, m1'⟩ := m1
  obtain ⟨m2, m2'⟩ := m2
  obtain ⟨m3, m3'⟩ := m3
  clear ha hb
  unfold qv
  go_enter Tryd.func100, Tryd.ntmps100
  go_wp2_with (go_at_call 89; refine (ratio_any _ _ _ (by omega) (by omega) (by omega) (by omega)).mono ?_; rintro e w' ⟨rfl, hb⟩; rw [mkRat_add]; unfold qv; obtain ⟨hc, hf⟩ := bcell hb; have hz := hb.size; simp at hz)
  refine bodyPost_ret (v := qv (a + b)) (by simp [results, Tryd.results100, go_sem, hc, qv]) rfl ⟨rfl, ?_⟩
  exact ((after3 hb).setCell (by simp; omega) _).setCell (by simp; omega) _

theorem Fine.neg {a : Rat} (ha : Fine a) : Fine (-a) :=
  ⟨by rw [Rat.neg_num]; have := ha.hi; omega, by rw [Rat.neg_num]; have := ha.lo; omega, by rw [Rat.neg_den]; exact ha.den⟩
theorem qv_neg (a : Rat) : Value.agg #[.int .i64 (-a.num), .int .i64 (a.den : Int)] = qv (-a) := by
  rw [qv, Rat.neg_num, Rat.neg_den]

set_option maxHeartbeats 400000 in
theorem minus_any (a b : Rat) (w : World) (ha : Fine a) (hb : Fine b) :
    Calls Tryd.prog 69 #[qv a, qv b] w fun e w' => e = .returned (qv (a - b)) ∧ Below w.heap.size w w' := by
  have n1 := hb.lo
  have n2 := hb.hi
  have hP := Lib.hid (fun w => plus_any a (-b) w ha hb.neg)
  rw [← qv_neg, qv] at hP
  clear ha hb
  rw [Rat.sub_eq_add_neg]
  unfold qv
  go_enter Tryd.func69, Tryd.ntmps69
  go_wp2_with (go_at_call 100; refine (hP.out _).mono ?_; rintro e w' ⟨rfl, hb⟩; unfold qv; obtain ⟨hc, hf⟩ := bcell hb; have hz := hb.size; simp at hz)
  refine bodyPost_ret (v := qv (a + -b)) (by simp [results, Tryd.results69, go_sem, hc, qv]) rfl ⟨rfl, ?_⟩
  exact ((after3 hb).setCell (by simp; omega) _).setCell (by simp; omega) _

theorem mkRat_part (a : Rat) (num den : Int) (h : 0 < den) : mkRat (a.num * num) ((a.den : Int) * den).toNat = a * num / den := by
  obtain ⟨d, rfl⟩ := Int.eq_ofNat_of_zero_le (Int.le_of_lt h)
  have e : ((a.den : Int) * (d : Int)).toNat = a.den * d := by rw [← Int.natCast_mul, Int.toNat_natCast]
  rw [e, Rat.mkRat_eq_div, Rat.intCast_mul, Rat.natCast_mul]
  have e2 : (a.num : Rat) / (a.den : Rat) = a := by rw [← Rat.mkRat_eq_div]; exact Rat.mkRat_self a
  have h1 : (a.den : Rat) ≠ 0 := by have := a.den_nz; simpa using this
  have h2 : (d : Rat) ≠ 0 := by have : d ≠ 0 := by omega
                                simpa using this
  have e3 : (a.num : Rat) = a * (a.den : Rat) := by
    have := congrArg (· * (a.den : Rat)) e2
    simpa [Rat.div_mul_cancel h1] using this
  rw [e3]
  show a * ↑a.den * ↑num / (↑a.den * ↑d) = a * ↑num / ↑d
  generalize (a.den : Rat) = x at *
  generalize (d : Rat) = y at *
  generalize (num : Rat) = z at *
  grind

set_option maxHeartbeats 400000 in
theorem part_any (a : Rat) (num den : Int) (w : World) (ha : Fine a) (h1 : -131072 ≤ num) (h2 : num ≤ 131072) (h3 : 0 < den) (h4 : den ≤ 131072) :
    Calls Tryd.prog 102 #[qv a, .int .i64 num, .int .i64 den] w fun e w' => e = .returned (qv (a * num / den)) ∧ Below w.heap.size w w' := by
  have m1 : -2305843009213693952 ≤ a.num * num ∧ a.num * num ≤ 2305843009213693952 := by
    have e1 := ha.lo
    have e2 := ha.hi
    rw [Int.mul_comm]
    by_cases h : 0 ≤ a.num
    · have := mul_bd num a.num 131072 17592186044416 h1 h2 h e2 (by omega)
      omega
    · have := mul_bd num (-a.num) 131072 17592186044416 h1 h2 (by omega) (by omega) (by omega)
      rw [Int.mul_neg] at this
      omega
  have m2 : 0 < (a.den : Int) * den ∧ (a.den : Int) * den ≤ 17592186044416 := by
    have e1 := a.den_pos
    have := mul_bd a.den den 131072 131072 (by omega) ha.den (by omega) h4 (by omega)
    have : 0 < (a.den : Int) * den := Int.mul_pos (by omega) h3
    omega
  obtain ⟨m1, m1'⟩ := m1
  obtain ⟨m2, m2'⟩ := m2
  have he := Lib.hid (mkRat_part a num den h3)
  clear ha h1 h2 h3 h4
  unfold qv
  go_enter Tryd.func102, Tryd.ntmps102
  go_wp2_with (go_at_call 89; refine (ratio_any _ _ _ (by omega) (by omega) (by omega) (by omega)).mono ?_; rintro e w' ⟨rfl, hb⟩; rw [he.out]; unfold qv; obtain ⟨hc, hf⟩ := bcell hb; have hz := hb.size; simp at hz)
  refine bodyPost_ret (v := qv (a * num / den)) (by simp [results, Tryd.results102, go_sem, hc, qv]) rfl ⟨rfl, ?_⟩
  exact ((after2 hb).setCell (by simp) _).setCell (by simp) _

set_option maxHeartbeats 400000 in
theorem whole_any (n : Int) (w : World) :
    Calls Tryd.prog 70 #[.int .i64 n] w fun e w' => e = .returned (qv (n : Rat)) ∧ Below w.heap.size w w' := by
  have hq : qv (n : Rat) = .agg #[.int .i64 n, .int .i64 1] := by rw [qv, Rat.num_intCast, Rat.den_intCast]; rfl
  rw [hq]
  clear hq
  go_enter Tryd.func70, Tryd.ntmps70
  go_wp2
  refine bodyPost_ret (v := .agg #[.int .i64 n, .int .i64 1]) (by simp [results, Tryd.results70, go_sem]) rfl ⟨rfl, ?_⟩
  exact below1 _ _

set_option maxHeartbeats 400000 in
theorem more_any (a b : Rat) (w : World) (ha : Fine a) (hb : Fine b) :
    Calls Tryd.prog 81 #[qv a, qv b] w fun e w' => e = .returned (.bool (decide (b < a))) ∧ Below w.heap.size w w' := by
  have hP := Lib.hid (fun w => less_any b a w hb ha)
  rw [qv] at hP
  clear ha hb
  unfold qv
  go_enter Tryd.func81, Tryd.ntmps81
  go_wp2_with (go_at_call 80; refine (hP.out _).mono ?_; rintro e w' ⟨rfl, hb⟩)
  go_ret
  exact ⟨rfl, after2 hb⟩


theorem rgcd_step (c d : Int) : Int.gcd d (c.tmod d) = Int.gcd c d := by
  rw [Int.gcd_comm, gcd_step, Int.gcd_comm]


theorem quot_same (num den : Int) : num / (Int.gcd num den : Int) = num.tdiv (Int.gcd num den) := (Int.tdiv_eq_ediv_of_dvd (Int.gcd_dvd_left ..)).symm

theorem rem_bd (c d : Int) (h3 : 0 ≤ d) (h : ¬ d = 0) : 0 ≤ c % d ∧ c % d < d :=
  ⟨Int.emod_nonneg _ h, Int.emod_lt_of_pos _ (by omega)⟩

set_option maxHeartbeats 800000 in
theorem rby_any (num den : Int) (w : World) (ha : -4611686018427387904 ≤ num) (ha' : num ≤ 4611686018427387904) (hb : 0 < den) (hb' : den ≤ 4611686018427387904):
    Calls Tryd.prog 51 #[.int .i64 num, .int .i64 den] w fun e w' => e = .returned (qv (mkRat num den.toNat)) ∧ Below w.heap.size w w' := by
  have hpos : 0 < Int.gcd num den := Int.gcd_pos_of_ne_zero_right _ (by omega)
  have hne : ¬ ((Int.gcd num den : Nat) : Int) = 0 := by omega
  go_enter Tryd.func51, Tryd.ntmps51
  go_wp2
  all_goals
    go_loopw [5, 6] (fun x y wr => ∃ (c d : Int) (nq : Nat), x = .int .i64 c ∧ y = .int .i64 d ∧ Int.gcd c d = Int.gcd num den ∧ 0 ≤ c ∧ c ≤ 4611686018427387904 ∧ 0 ≤ d ∧ d ≤ 4611686018427387904 ∧ wr = (w.alloc (Obj.cells #[Value.int IntKind.i64 0, Value.int IntKind.i64 0] 31)).drewN nq) (fun _ y _ => (intOf y).natAbs)
    case atStart => exact ⟨_, _, 0, rfl, rfl, by simp, by omega, by omega, by omega, by omega, rfl⟩
    case round =>
      obtain ⟨c, d, nq, rfl, rfl, hg, h1, h2, h3, h4, rfl⟩ := hrel
      have HG := Lib.hid hg
      clear hg
      by_cases hd : d = 0
      · subst hd
        have hcg : c = (Int.gcd num den : Int) := by rw [← HG.out, Int.gcd_zero_right]; omega
        subst hcg
        go_wp2
        go_region
        all_goals go_wp2
        refine bodyPost_ret (v := .agg #[.int .i64 (num.tdiv (Int.gcd num den)), .int .i64 (den / (Int.gcd num den))]) (by simp [results, Tryd.results51, go_sem, quot_same]) rfl ⟨by rw [qv_quot num den hb], ?_⟩
        exact ((below_drewN (below1 _ _) (nq + 1)).setCell (Nat.le_refl _) _).setCell (Nat.le_refl _) _
      · have hr := rem_bd c d h3 hd
        obtain ⟨r1, r2⟩ := hr
        go_wp2
        go_region
        go_wp2
        go_roundw
        case rel =>
          refine ⟨_, _, nq + 1, rfl, rfl, ?_, h3, h4, r1, by omega, rfl⟩
          rw [← HG.out, ← rgcd_step c d, Int.tmod_eq_emod_of_nonneg h1]
        case measure => simp [intOf]; omega
end Go.Proofs.YtlhldkiggmlegaaDoor

namespace Go.Proofs.YtlhldkiggmlegaaDoor
open Go.RowKit Go.Shelf
attribute [local go_sem] Oper.semAt_some
theorem upto_succ' {α : Type} (xs : List α) (k : Nat) (h : k < xs.length) : xs.take (k + 1) = xs.take k ++ [xs[k]] := by
  rw [List.take_succ_eq_append_getElem h]

set_option maxRecDepth 100000 in
set_option maxHeartbeats 2000000 in
theorem values1_in {α : Type} (f : α → Rat) (n : Nat) (_hn : 1 ≤ n) (l Bs n₀ b off cap : Nat) (W : World) (xs : List α) (hlen : xs.length ≤ 100000) (hb : b < n₀) (hnW : n₀ ≤ W.heap.size) (J Jx : List α → World → Prop)
    (hY : ∀ pre x W, J pre W → pre.length < xs.length → YieldAt Fence.wide (n - 1) Tryd.prog l #[qv (f x)] W fun e W' =>
      (e = .returned (.bool true) ∧ J (pre ++ [x]) W' ∧ Below n₀ W W') ∨ (e = .returned (.bool false) ∧ Jx (pre ++ [x]) W'))
    (hJa : ∀ pre W o, J pre W → J pre (W.alloc o))
    (hBs : W.cell? ⟨Bs, 0, none⟩ = some (.slice (some ⟨b, off, none⟩) xs.length cap))
    (hc : ∀ j (h : j < xs.length), W.cell? ⟨b, off + j * 2, none⟩ = some (.int .i64 (f xs[j]).num) ∧ W.cell? ⟨b, off + j * 2 + 1, none⟩ = some (.int .i64 (f xs[j]).den)) (h0 : J [] W) :
    CallsIn Fence.wide n Tryd.prog 105 #[.func (.yield l) #[] #[], .pointer (some ⟨Bs, 0, none⟩)] W fun e W' => (∃ v, e = .returned v) ∧
      ((∃ ys, ys = xs ∧ J ys W') ∨ (∃ pre, (pre <+: xs) ∧ Jx pre W')) := by
  refine callsIn_of_wp Tryd.func105 rfl trivial ?_ rfl
  simp only [Tryd.ntmps105, List.size_toArray, List.length_cons, List.length_nil, Nat.reduceAdd, Nat.reduceSub, Array.replicate_succ, Array.replicate_zero, List.push_toArray, List.append_toArray, List.nil_append, List.cons_append]
  gi_wp2
  gi_loopw [4, 7] (fun _ i wr => ∃ k : Nat, k ≤ xs.length ∧ i = .int .i64 k ∧ J (xs.take k) wr ∧ Below n₀ W wr)
    (fun _ i _ => xs.length - (intOf i).toNat)
  case atStart => exact ⟨0, Nat.zero_le _, rfl, h0, Below.refl _ _⟩
  case round =>
    obtain ⟨k, hk, rfl, hJs, hnx⟩ := hrel
    by_cases hlt : k < xs.length
    · have hcx : wr.cell? ⟨b, off + k * 2, none⟩ = some (.int .i64 (f xs[k]).num) := (hnx.cell (p := ⟨b, _, none⟩) hb).trans (hc k hlt).1
      have hcy : wr.cell? ⟨b, off + k * 2 + 1, none⟩ = some (.int .i64 (f xs[k]).den) := (hnx.cell (p := ⟨b, _, none⟩) hb).trans (hc k hlt).2
      obtain ⟨fn, tmps, assign, body, hy, hR⟩ := hY _ xs[k] (wr.alloc (.cells #[.int .i64 (f xs[k]).num, .int .i64 (f xs[k]).den] 31)) (hJa _ _ _ hJs) (by rw [List.length_take]; omega)
      unfold qv at hy
      gi_wp2
      refine hR.mono ?_
      rintro e W3 (⟨rfl, hJ3, hk3⟩ | ⟨rfl, hJx3⟩)
      · gi_wp2
        go_roundw
        case rel => exact ⟨k + 1, by omega, by simp, by rw [upto_succ' _ _ hlt]; exact hJ3, (hnx.alloc (Nat.le_trans hnW hnx.size) _).trans hk3⟩
        case measure => simp [intOf]; omega
      · gi_wp2
        refine bodyPost_ret (results_none rfl _ _ _) rfl ?_
        exact ⟨⟨_, rfl⟩, .inr ⟨_, by rw [← upto_succ' _ _ hlt]; exact List.take_prefix _ _, hJx3⟩⟩
    · obtain rfl : k = xs.length := by omega
      gi_wp2
      go_end0
      exact ⟨⟨_, rfl⟩, .inl ⟨xs, rfl, by simpa using hJs⟩⟩
/-- What a loop's book-keeping leaves of a world: all blocks below B, and all that are cells. -/
structure KeepsB (B : Nat) (W W' : World) : Prop where
  size : W.heap.size ≤ W'.heap.size
  same : ∀ (k : Nat) (o : Obj), W.heap[k]? = some o → (k < B ∨ o.isCells = true) → W'.heap[k]? = some o
  tape : W'.tape = W.tape
  os : W'.os = W.os
  output : W'.output = W.output

theorem ownFrom_of {β : Type} {B : Nat} {I : β → World → Prop} (h : ∀ s W W', I s W → KeepsB B W W' → I s W') : OwnFrom B I := by
  intro s W W' row hs hg hr
  refine h s W W' hs ⟨hg.size, ?_, hg.tape, hg.os, hg.output⟩
  intro k o hk hc
  have hlt : k < W.heap.size := (Array.getElem?_eq_some_iff.1 hk).1
  refine (hg.block k hlt (fun e => ?_)).trans hk
  obtain ⟨h1, o', ho', hn⟩ := hr k e.symm
  rw [hk] at ho'
  cases ho'
  rcases hc with hc | hc
  · omega
  · rw [hc] at hn; cases hn

/-- Block k is o. -/
def Blk (W : World) (k : Nat) (o : Obj) : Prop := W.heap[k]? = some o
theorem Blk.lt {W : World} {k : Nat} {o : Obj} (h : Blk W k o) : k < W.heap.size := (Array.getElem?_eq_some_iff.1 h).1
theorem Blk.new (W : World) (o : Obj) : Blk (W.alloc o) W.heap.size o := World.alloc_heap_new W o
theorem Blk.alloc {W : World} {k : Nat} {o : Obj} (h : Blk W k o) (o' : Obj) : Blk (W.alloc o') k o := (Below.heap_alloc W o' k h.lt).trans h
theorem Blk.below {W W' : World} {k : Nat} {o : Obj} (h : Blk W k o) (hb : Below W.heap.size W W') : Blk W' k o := (hb.block k h.lt).trans h
theorem Blk.below' {B : Nat} {W W' : World} {k : Nat} {o : Obj} (h : Blk W k o) (hb : Below B W W') (hk : k < B) : Blk W' k o := (hb.block k hk).trans h
theorem Blk.drew {W : World} {k : Nat} {o : Obj} (h : Blk W k o) : Blk W.drew k o := h
theorem Blk.keeps {B : Nat} {W W' : World} {k : Nat} {o : Obj} (h : Blk W k o) (hb : KeepsB B W W') (hc : k < B ∨ o.isCells = true) : Blk W' k o := hb.same k o h hc
theorem Blk.keepsC {B : Nat} {W W' : World} {k : Nat} {c : Array Value} {T : TypeId} {z : Nat × Nat} (h : Blk W k (.cells c T z)) (hb : KeepsB B W W') : Blk W' k (.cells c T z) := hb.same k _ h (Or.inr rfl)
theorem Blk.set {W : World} {k j : Nat} {c : Array Value} {T : TypeId} {z : Nat × Nat} (h : Blk W k (.cells c T z)) (v : Value) : Blk (W.setCell ⟨k, j, none⟩ v) k (.cells (c.setIfInBounds j v) T z) := by
  unfold Blk at h ⊢
  simp [World.setCell, Array.getElem?_modify, h]
theorem Blk.other {W : World} {k b j : Nat} {o : Obj} (h : Blk W k o) (hne : k ≠ b) (v : Value) : Blk (W.setCell ⟨b, j, none⟩ v) k o := by
  unfold Blk at h ⊢
  simp [World.setCell, Array.getElem?_modify, h, Ne.symm hne]
theorem Blk.cell {W : World} {k : Nat} {c : Array Value} {T : TypeId} {z : Nat × Nat} (h : Blk W k (.cells c T z)) (i : Nat) : W.cell? ⟨k, i, none⟩ = c[i]? := by
  simp [World.cell?, show W.heap[k]? = _ from h]
theorem Blk.frozen {W : World} {k : Nat} {c : Array Value} {T : TypeId} (h : Blk W k (.cells c T (0, 0))) (i : Nat) : W.frozen? ⟨k, i, none⟩ = false := by
  simp [World.frozen?, show W.heap[k]? = _ from h]

theorem Blk.put {W : World} {k b : Nat} {o : Obj} (h : Blk W k o) (hne : k ≠ b) (o' : Obj) : Blk (W.putObj b o') k o := (World.putObj_heap_other hne).trans h

theorem below_keeps {n₀ B : Nat} {w W W' : World} (h : Below n₀ w W) (hk : KeepsB B W W') (hn : n₀ ≤ B) (hs : n₀ ≤ W.heap.size) : Below n₀ w W' :=
  h.trans ⟨hk.os, hk.tape, hk.output, hk.size, fun k hlt => by
    have hlt' : k < W.heap.size := by omega
    rw [hk.same k W.heap[k] (Array.getElem?_eq_getElem hlt') (Or.inl (by omega)), Array.getElem?_eq_getElem hlt']⟩

theorem below4 (w : World) (a b c d : Obj) : Below w.heap.size w ((((w.alloc a).alloc b).alloc c).alloc d) := (below3 w a b c).alloc (by simp; omega) _

/-- An iterator's contract holds in every later world. -/
theorem SeqStopsK.from {α : Type} {F : Fence} {n : Nat} {P : Program} {g : Nat} {lb : Array Value} {encs : α → Array Value} {Kp : World → World → Prop} {S Sp : List α → Prop} {N : Nat} {w w' : World}
    (hb : Below w.heap.size w w') (h : SeqStopsK F n P g lb encs Kp S Sp N w) : SeqStopsK F n P g lb encs Kp S Sp N w' :=
  fun l J Jx W hW hJ hJx hY h0 => h l J Jx W (hb.trans (hW.mono hb.size)) hJ hJx hY h0

abbrev FR := { r : Rat // Fine r }
/-- The first of the least. -/
def leastR (xs : List Rat) : Option Rat :=
  xs.foldl (fun b x => match b with | none => some x | some y => if x < y then some x else some y) none

theorem leastR_snoc (xs : List Rat) (x : Rat) : leastR (xs ++ [x]) = match leastR xs with | none => some x | some y => if x < y then some x else some y := by
  simp [leastR]

theorem leastR_some {xs : List Rat} (h : xs ≠ []) : ∃ r, leastR xs = some r := by
  suffices H : ∀ (xs : List Rat) (y : Rat), ∃ r, xs.foldl (fun b x => match b with | none => some x | some y => if x < y then some x else some y) (some y) = some r by
    cases xs with
    | nil => exact absurd rfl h
    | cons x xs => exact H xs x
  intro xs
  induction xs with
  | nil => intro y; exact ⟨y, rfl⟩
  | cons x xs ih =>
    intro y
    simp only [List.foldl_cons]
    split <;> exact ih _

theorem KeepsOthers.of_below {W W' : World} (h : Below W.heap.size W W') : KeepsOthers W W' :=
  ⟨h.size, fun k _o hk _ => (h.block k (Array.getElem?_eq_some_iff.1 hk).1).trans hk⟩

theorem leastR_mem {xs : List Rat} {y : Rat} (h : leastR xs = some y) : y ∈ xs := by
  suffices H : ∀ (xs : List Rat) (b : Option Rat) (y : Rat), xs.foldl (fun b x => match b with | none => some x | some y => if x < y then some x else some y) b = some y → y ∈ xs ∨ b = some y by
    rcases H xs none y h with h | h
    · exact h
    · cases h
  intro xs
  induction xs with
  | nil => intro b y h; exact Or.inr h
  | cons x xs ih =>
    intro b y h
    rcases ih _ y h with h | h
    · exact Or.inl (List.mem_cons_of_mem _ h)
    · cases b with
      | none => simp at h; exact Or.inl (by simp [h])
      | some z =>
        simp only at h
        split at h
        · simp at h; exact Or.inl (by simp [h])
        · exact Or.inr h

/-- The cells of a fraction, of none: zeroes. -/
def cellsR (r : Option Rat) : Array Value := match r with | none => #[.int .i64 0, .int .i64 0] | some r => #[.int .i64 r.num, .int .i64 r.den]

set_option maxRecDepth 100000 in
set_option maxHeartbeats 2000000 in
theorem pick_less (n : Nat) (hn : 4 ≤ n) (gf : Nat) (lb : Array Value) (xs : List FR) (hne : xs ≠ []) (w : World)
    (eg : ∀ args w, (callFunc gf args).run Tryd.prog w = .ok (.enter gf args) w)
    (hseq : ∀ n, 1 ≤ n → SeqStopsK Fence.wide n Tryd.prog gf lb (fun x : FR => #[qv x.1]) (Below w.heap.size) (fun ys => ys = xs) (fun pre => pre <+: xs) xs.length w) :
    CallsIn Fence.wide n Tryd.prog 78 #[.func (.func gf) #[] lb, .func (.func 80) #[] #[]] w fun e w' => 
      (∃ r, leastR (xs.map Subtype.val) = some r ∧ e = .returned (qv r)) ∧ Below w.heap.size w w' := by
  have h1 : 1 ≤ n := by omega
  refine callsIn_of_wp_marks Tryd.func78 rfl trivial ?_ rfl
  simp only [Tryd.ntmps78, List.size_toArray, List.length_cons, List.length_nil, Nat.reduceAdd, Nat.reduceSub, Array.replicate_succ, Array.replicate_zero, List.push_toArray, List.append_toArray, List.nil_append, List.cons_append]
  gi_wp2
  obtain ⟨W0, hW0⟩ : ∃ W0, (((w.alloc (.cells #[.func (.func 80) #[] #[]] 62)).alloc (.cells #[.int .i64 0, .int .i64 0] 31)).alloc (.cells #[.int .i64 0, .int .i64 0] 31)).alloc (.cells #[.bool false] 4) = W0 := ⟨_, rfl⟩
  have hF : Blk W0 w.heap.size (.cells #[.func (.func 80) #[] #[]] 62) ∧ Blk W0 (w.heap.size + 1) (.cells #[.int .i64 0, .int .i64 0] 31) ∧ Blk W0 (w.heap.size + 1 + 1) (.cells #[.int .i64 0, .int .i64 0] 31) ∧ Blk W0 (w.heap.size + 1 + 1 + 1) (.cells #[.bool false] 4) ∧ Below w.heap.size w W0 ∧ W0.heap.size = w.heap.size + 4 := by
    subst hW0
    refine ⟨(((Blk.new _ _).alloc _).alloc _).alloc _, ?_, ?_, ?_, below4 _ _ _ _ _, by simp⟩
    · have := ((Blk.new (w.alloc (.cells #[.func (.func 80) #[] #[]] 62)) (.cells #[.int .i64 0, .int .i64 0] 31)).alloc (.cells #[.int .i64 0, .int .i64 0] 31)).alloc (.cells #[.bool false] 4)
      rwa [World.size_alloc] at this
    · have := (Blk.new ((w.alloc (.cells #[.func (.func 80) #[] #[]] 62)).alloc (.cells #[.int .i64 0, .int .i64 0] 31)) (.cells #[.int .i64 0, .int .i64 0] 31)).alloc (.cells #[.bool false] 4)
      rwa [World.size_alloc, World.size_alloc] at this
    · have := Blk.new (((w.alloc (.cells #[.func (.func 80) #[] #[]] 62)).alloc (.cells #[.int .i64 0, .int .i64 0] 31)).alloc (.cells #[.int .i64 0, .int .i64 0] 31)) (.cells #[.bool false] 4)
      rwa [World.size_alloc, World.size_alloc, World.size_alloc] at this
  rw [hW0]
  clear hW0
  obtain ⟨b0, b1, b2, b3, hB0, hz0⟩ := hF
  refine wpIn_rangeFunc_ownH (F := Fence.wide) rfl h1 (gf := gf) (lb := lb) rfl trivial eg
    (SeqStopsK.from hB0 (hseq (n - 1) (by omega))) belowK_t (belowK_b (by omega)) (Below.refl _ _) (fun _ => rfl)
    (fun (pre : List FR) W => Blk W w.heap.size (.cells #[.func (.func 80) #[] #[]] 62) ∧ Blk W (w.heap.size + 1) (.cells #[.int .i64 0, .int .i64 0] 31) ∧ Blk W (w.heap.size + 1 + 1) (.cells (cellsR (leastR (pre.map Subtype.val))) 31) ∧ Blk W (w.heap.size + 1 + 1 + 1) (.cells #[.bool (leastR (pre.map Subtype.val)).isSome] 4) ∧ Below w.heap.size w W ∧ w.heap.size + 4 ≤ W.heap.size)
    (fun _ _ _ => False)
    (ownFrom_of fun pre W W' ⟨c0, c1, c2, c3, hB, hs⟩ hk => ⟨c0.keepsC hk, c1.keepsC hk, c2.keepsC hk, c3.keepsC hk, below_keeps hB hk (by omega) hB.size, Nat.le_trans hs hk.size⟩)
    (fun _ _ _ _ _ hs _ _ => hs)
    ⟨b0, b1, b2, b3, hB0, by omega⟩
    (fun x a' W => ∃ Bx, W0.heap.size ≤ Bx ∧ Blk W Bx (.cells #[.int .i64 x.1.num, .int .i64 x.1.den] 31) ∧ a' = { tmps := #[.func (.func gf) #[] lb, .func (.func 80) #[] #[], undef, .pointer (some ⟨w.heap.size, 0, none⟩), .pointer (some ⟨w.heap.size + 1, 0, none⟩), .pointer (some ⟨w.heap.size + 1 + 1, 0, none⟩), .pointer (some ⟨w.heap.size + 1 + 1 + 1, 0, none⟩), .pointer (some ⟨Bx, 0, none⟩), .func (.func gf) #[] lb, qv x.1, undef, undef, undef, undef, undef, undef, undef, undef, undef, undef], defers := [] })
    (fun x a' => ownFrom_of fun _ W W' h hk => by obtain ⟨Bx, h1, h2, h3⟩ := h; exact ⟨Bx, h1, h2.keepsC hk, h3⟩)
    ?assign ?body ?done ?stop
  case assign =>
    rintro l pre x W K ⟨c0, c1, c2, c3, hB1, hs1⟩ hK
    unfold qv
    gi_wp2
    exact hK _ _ ((KeepsOthers.alloc _ _).from _) ((Below.refl _ W).alloc hB1.size _) ⟨c0.alloc _, c1.alloc _, c2.alloc _, c3.alloc _, hB1.alloc hB1.size _, by simp; omega⟩ ⟨W.heap.size, by omega, Blk.new W _, rfl⟩
  case body =>
    rintro l pre x a' W hl ⟨r, hr⟩ ⟨c0, c1, c2, c3, hB1, hs1⟩ ⟨Bx, hBx, bX, rfl⟩ hlt
    have hltX := bX.lt
    have e0 := c0.cell 0
    have e2 := c2.cell 0
    have e2' := c2.cell 1
    have e3 := c3.cell 0
    have f2 := c2.frozen 0
    have f2' := c2.frozen 1
    have f3 := c3.frozen 0
    have eX := bX.cell 0
    have eX' := bX.cell 1
    unfold qv
    rcases hle : leastR (pre.map Subtype.val) with _ | y
    · rw [hle] at e2 e2' e3 c2 c3
      simp [cellsR] at e0 e2 e2' e3 eX eX'
      gi_wp2
      refine ⟨fun _ h => (by cases h), ?_⟩
      gi_wp2
      have d2 := ((c2.set (j := 0) (.int .i64 x.1.num)).set (j := 1) (.int .i64 x.1.den)).other (b := w.heap.size + 1 + 1 + 1) (j := 0) (by omega) (.bool true)
      have d3 := ((c3.other (b := w.heap.size + 1 + 1) (j := 0) (by omega) (.int .i64 x.1.num)).other (b := w.heap.size + 1 + 1) (j := 1) (by omega) (.int .i64 x.1.den)).set (j := 0) (.bool true)
      refine ⟨(((KeepsOthers.setCell _ _ _).trans (KeepsOthers.setCell _ _ _)).trans (KeepsOthers.setCell _ _ _)).from _, (((Below.refl _ W).setCell (by simp; omega) _).setCell (by simp; omega) _).setCell (by simp; omega) _,
        ((c0.other (by omega) _).other (by omega) _).other (by omega) _, ((c1.other (by omega) _).other (by omega) _).other (by omega) _, ?_, ?_, ((hB1.setCell (by simp; omega) _).setCell (by simp; omega) _).setCell (by simp; omega) _, by simpa [World.setCell] using hs1⟩
      · rw [List.map_append, List.map_singleton, leastR_snoc, hle]; simpa [cellsR] using d2
      · rw [List.map_append, List.map_singleton, leastR_snoc, hle]; simpa using d3
    · rw [hle] at e2 e2' e3 c2 c3
      simp [cellsR] at e0 e2 e2' e3 eX eX'
      have hy : Fine y := by
        obtain ⟨z, _, rfl⟩ := List.mem_map.1 (leastR_mem hle)
        exact z.2
      have hP := less_any x.1 y W x.2 hy
      unfold qv at hP
      have hP' := Lib.hid hP
      clear hP
      by_cases hxy : x.1 < y
      · rw [decide_eq_true hxy] at hP'
        gi_wp2
        refine ⟨trivial, (fun h => (by cases h)), (CallsIn.inRound l (callsIn_wide.2 hP'.out)).mono ?_⟩
        rintro e w' ⟨rfl, hb⟩
        replace c0 := c0.below hb
        replace c1 := c1.below hb
        replace c2 := c2.below hb
        replace c3 := c3.below hb
        replace bX := bX.below hb
        have e2 := c2.cell 0
        have e2' := c2.cell 1
        have e3 := c3.cell 0
        have f2 := c2.frozen 0
        have f2' := c2.frozen 1
        have f3 := c3.frozen 0
        have eX := bX.cell 0
        have eX' := bX.cell 1
        simp [cellsR] at e2 e2' e3 eX eX'
        have hz := hb.size
        gi_wp2
        have d2 := ((c2.set (j := 0) (.int .i64 x.1.num)).set (j := 1) (.int .i64 x.1.den)).other (b := w.heap.size + 1 + 1 + 1) (j := 0) (by omega) (.bool true)
        have d3 := ((c3.other (b := w.heap.size + 1 + 1) (j := 0) (by omega) (.int .i64 x.1.num)).other (b := w.heap.size + 1 + 1) (j := 1) (by omega) (.int .i64 x.1.den)).set (j := 0) (.bool true)
        have hB2 : Below w.heap.size W w' := hb.mono hB1.size
        refine ⟨((KeepsOthers.of_below hb).trans (((KeepsOthers.setCell _ _ _).trans (KeepsOthers.setCell _ _ _)).trans (KeepsOthers.setCell _ _ _))).from _, ((hB2.setCell (by simp; omega) _).setCell (by simp; omega) _).setCell (by simp; omega) _,
          ((c0.other (by omega) _).other (by omega) _).other (by omega) _, ((c1.other (by omega) _).other (by omega) _).other (by omega) _, ?_, ?_, (((hB1.trans hB2).setCell (by simp; omega) _).setCell (by simp; omega) _).setCell (by simp; omega) _, by simp [World.setCell]; omega⟩
        · rw [List.map_append, List.map_singleton, leastR_snoc, hle]; simpa [cellsR, hxy] using d2
        · rw [List.map_append, List.map_singleton, leastR_snoc, hle]; simpa [hxy] using d3
      · rw [decide_eq_false hxy] at hP'
        gi_wp2
        refine ⟨trivial, (fun h => (by cases h)), (CallsIn.inRound l (callsIn_wide.2 hP'.out)).mono ?_⟩
        rintro e w' ⟨rfl, hb⟩
        gi_wp2
        have hz := hb.size
        have hB2 : Below w.heap.size W w' := hb.mono hB1.size
        refine ⟨(KeepsOthers.of_below hb).from _, hB2, c0.below hb, c1.below hb, ?_, ?_, hB1.trans hB2, by omega⟩
        · rw [List.map_append, List.map_singleton, leastR_snoc, hle]; simpa [hxy] using c2.below hb
        · rw [List.map_append, List.map_singleton, leastR_snoc, hle]; simpa [hxy] using c3.below hb
  case done =>
    rintro D zs W hD rfl ⟨c0, c1, c2, c3, hB1, hs1⟩ hK
    obtain ⟨r, hr⟩ : ∃ r, leastR (zs.map Subtype.val) = some r := leastR_some (by simp only [ne_eq, List.map_eq_nil_iff]; exact hne)
    rw [hr] at c2 c3
    have e1 := c1.cell 0
    have e1' := c1.cell 1
    have f1 := c1.frozen 0
    have f1' := c1.frozen 1
    have e2 := c2.cell 0
    have e2' := c2.cell 1
    simp [cellsR] at e1 e1' e2 e2'
    have hDlt := (Array.getElem?_eq_some_iff.1 hK).1
    gi_wp2
    have d1 := (c1.set (j := 0) (.int .i64 r.num)).set (j := 1) (.int .i64 r.den)
    have hK3 := ((KeepsOthers.setCell W ⟨w.heap.size + 1, 0, none⟩ (.int .i64 r.num)).trans (KeepsOthers.setCell _ ⟨w.heap.size + 1, 1, none⟩ (.int .i64 r.den))).same D _ hK rfl
    refine ⟨by simp, .inl ⟨_, _, rfl, run_takeDeferred hK3, ?_⟩⟩
    have d1' := d1.put (b := D) (by omega) (.deferred none)
    have g0 := d1'.cell 0
    have g1 := d1'.cell 1
    simp at g0 g1
    refine ⟨qv r, ?_, ⟨r, by first | rfl | exact hr, rfl⟩, ?_⟩
    · simp [results, Tryd.results78, go_sem, qv, g0, g1]
    · exact ((hB1.setCell (by simp) _).setCell (by simp) _).trans (belowK_b (w := w) (Nat.le_refl _) _ D _ _ (by omega) hK3 rfl rfl)
  case stop =>
    rintro D c pre W _ _ h _
    exact h.elim

/-- slices.Values hands back a value that gives the list, whatever the loop's body does with what is newer. -/
theorem values_stops {α : Type} (f : α → Rat) (n : Nat) (hn : 1 ≤ n) (Bs n₀ : Nat) (v : Value) (xs : List α) (hlen : xs.length ≤ 100000) (w : World) (hBs : Bs < w.heap.size) (hn₀ : n₀ ≤ w.heap.size) (hc : w.cell? ⟨Bs, 0, none⟩ = some v)
    (hv : ∃ b off cap, v = .slice (some ⟨b, off, none⟩) xs.length cap ∧ b < n₀ ∧ ∀ j (h : j < xs.length), w.cell? ⟨b, off + j * 2, none⟩ = some (.int .i64 (f xs[j]).num) ∧ w.cell? ⟨b, off + j * 2 + 1, none⟩ = some (.int .i64 (f xs[j]).den)) :
    SeqStopsK Fence.wide n Tryd.prog 105 #[.pointer (some ⟨Bs, 0, none⟩)] (fun x => #[qv (f x)]) (Below n₀) (fun ys => ys = xs) (fun pre => pre <+: xs) xs.length w := by
  obtain ⟨b, off, cap, rfl, hb, hcs⟩ := hv
  intro l J Jx W hW hJ _ hY h0
  refine values1_in f n hn l Bs n₀ b off cap W xs hlen hb (Nat.le_trans hn₀ hW.size) J Jx hY (fun pre W o hJ' => hJ pre W _ none hJ' (World.grownBy_alloc W o none) (fun r e => by cases e)) ?_ ?_ h0
  · exact (hW.cell (p := ⟨Bs, 0, none⟩) hBs).trans hc
  · intro j hj
    have hb' : b < w.heap.size := by omega
    exact ⟨(hW.cell (p := ⟨b, _, none⟩) hb').trans (hcs j hj).1, (hW.cell (p := ⟨b, _, none⟩) hb').trans (hcs j hj).2⟩

set_option maxHeartbeats 400000 in
theorem Values_any (v : Value) (w : World) (hs : ∃ a n c, v = .slice a n c) :
    Calls Tryd.prog 79 #[v] w fun e w' => e = .returned (.func (.func 105) #[] #[.pointer (some ⟨w.heap.size, 0, none⟩)]) ∧ w.alloc (.cells #[v] 114) = w' := by
  obtain ⟨a, n, c, rfl⟩ := hs
  have hmf : ∀ (fn : Fn) (first cap : Array Value) (w : World), (Instr.makeFunc fn first cap).run Tryd.prog w = .ok (.func fn first cap) w := fun _ _ _ _ => rfl
  go_enter Tryd.func79, Tryd.ntmps79
  go_wp2
  go_ret
  exact ⟨rfl, rfl⟩
end Go.Proofs.YtlhldkiggmlegaaDoor

namespace Go.Proofs.YtlhldkiggmlegaaDoor
open Go.RowKit

/-! ## What lies in memory: slices of numbers, of ranges, of slices -/
/-- The slice value v reads as the list l of numbers. -/
def IntsAt (w : World) (v : Value) (l : List Int) : Prop :=
  ∃ a cap, v = .slice a l.length cap ∧ (l ≠ [] → ∃ b off, a = some ⟨b, off, none⟩ ∧ ∀ i (h : i < l.length), w.cell? ⟨b, off + i, none⟩ = some (.int .i64 l[i]))

/-- The slice value v reads as the list l of pairs of numbers. -/
def PairsAt (w : World) (v : Value) (l : List (Int × Int)) : Prop :=
  ∃ a cap, v = .slice a l.length cap ∧ (l ≠ [] → ∃ b off, a = some ⟨b, off, none⟩ ∧ ∀ i (h : i < l.length), w.cell? ⟨b, off + i * 2, none⟩ = some (.int .i64 l[i].1) ∧ w.cell? ⟨b, off + i * 2 + 1, none⟩ = some (.int .i64 l[i].2))

/-- The slice value v reads as the list l of values of one cell each. -/
def ValsAt (w : World) (v : Value) (l : List Value) : Prop :=
  ∃ a cap, v = .slice a l.length cap ∧ (l ≠ [] → ∃ b off, a = some ⟨b, off, none⟩ ∧ ∀ i (h : i < l.length), w.cell? ⟨b, off + i, none⟩ = some l[i])

theorem lt_of_cell {w : World} {b o : Nat} {v : Value} (h : w.cell? ⟨b, o, none⟩ = some v) : b < w.heap.size := by
  unfold World.cell? at h
  split at h
  · rename_i hb; exact (Array.getElem?_eq_some_iff.1 hb).1
  · cases h

theorem IntsAt.below {w w' : World} {v : Value} {l : List Int} (h : IntsAt w v l) (hb : Below w.heap.size w w') : IntsAt w' v l := by
  obtain ⟨a, cap, e, hc⟩ := h
  refine ⟨a, cap, e, fun hne => ?_⟩
  obtain ⟨b, off, ea, hc⟩ := hc hne
  exact ⟨b, off, ea, fun i hi => (hb.cell (p := ⟨b, _, none⟩) (lt_of_cell (hc i hi))).trans (hc i hi)⟩
theorem PairsAt.below {w w' : World} {v : Value} {l : List (Int × Int)} (h : PairsAt w v l) (hb : Below w.heap.size w w') : PairsAt w' v l := by
  obtain ⟨a, cap, e, hc⟩ := h
  refine ⟨a, cap, e, fun hne => ?_⟩
  obtain ⟨b, off, ea, hc⟩ := hc hne
  exact ⟨b, off, ea, fun i hi => ⟨(hb.cell (p := ⟨b, _, none⟩) (lt_of_cell (hc i hi).1)).trans (hc i hi).1, (hb.cell (p := ⟨b, _, none⟩) (lt_of_cell (hc i hi).2)).trans (hc i hi).2⟩⟩
theorem ValsAt.below {w w' : World} {v : Value} {l : List Value} (h : ValsAt w v l) (hb : Below w.heap.size w w') : ValsAt w' v l := by
  obtain ⟨a, cap, e, hc⟩ := h
  refine ⟨a, cap, e, fun hne => ?_⟩
  obtain ⟨b, off, ea, hc⟩ := hc hne
  exact ⟨b, off, ea, fun i hi => (hb.cell (p := ⟨b, _, none⟩) (lt_of_cell (hc i hi))).trans (hc i hi)⟩

theorem IntsAt.at {w : World} {a : Option Addr} {n cap : Nat} {l : List Int} (h : IntsAt w (.slice a n cap) l) : n = l.length ∧ ∀ k (h : k < l.length), ∃ b off, a = some ⟨b, off, none⟩ ∧ w.cell? ⟨b, off + k, none⟩ = some (.int .i64 l[k]) := by
  obtain ⟨a', cap', e, hc⟩ := h
  cases e
  refine ⟨rfl, fun k hk => ?_⟩
  obtain ⟨b, off, ea, hc⟩ := hc (by intro h; subst h; exact absurd hk (Nat.not_lt_zero _))
  exact ⟨b, off, ea, hc k hk⟩

/-! ### Checks, as plain functions -/
def okInts (lo hi : Int) (l : List Int) : Bool := l.all fun x => decide (lo ≤ x) && decide (x ≤ hi)
def okEdge (r : Int × Int) : Bool := decide (r.1 ≤ r.2) && decide (-1000 ≤ r.1) && decide (r.2 ≤ 1000)
def okEdges (l : List (Int × Int)) : Bool := l.all okEdge
def strictB (l : List Int) : Bool := (l.zip l.tail).all fun p => decide (p.1 < p.2)

theorem strictB_iff (l : List Int) : strictB l = true ↔ ∀ i (h : i + 1 < l.length), l[i] < l[i + 1] := by
  unfold strictB
  rw [List.all_eq_true]
  constructor
  · intro h i hi
    have := h (l[i], l[i + 1]) (by
      rw [List.mem_iff_getElem]
      refine ⟨i, by simp; omega, by simp⟩)
    simpa using this
  · rintro h ⟨x, y⟩ hm
    rw [List.mem_iff_getElem] at hm
    obtain ⟨i, hi, e⟩ := hm
    simp at hi e
    have := h i (by omega)
    rw [e.1, e.2] at this
    simpa using this

/-- The error of places, with lists of ranges. -/
def placesErr (at_ : List Int) (lists : List (List (Int × Int))) : Int :=
  if at_.length < 2 ∨ 8 < at_.length then 6
  else if lists.any (fun l => l.length != at_.length) then 15
  else if okInts 0 100 at_ = false then 3
  else if lists.all okEdges = false then 3
  else if strictB at_ = false then 16
  else 0

theorem okInts_false {lo hi : Int} {l : List Int} {k : Nat} (h : k < l.length) (hx : ¬ (lo ≤ l[k] ∧ l[k] ≤ hi)) : okInts lo hi l = false := by
  cases e : okInts lo hi l with
  | false => rfl
  | true =>
    exfalso
    unfold okInts at e
    rw [List.all_eq_true] at e
    have := e l[k] (List.getElem_mem h)
    simp at this
    exact hx this
theorem okInts_snoc {lo hi : Int} {l : List Int} {k : Nat} (h : k < l.length) (ht : okInts lo hi (l.take k) = true) (h1 : lo ≤ l[k]) (h2 : l[k] ≤ hi) : okInts lo hi (l.take (k + 1)) = true := by
  rw [List.take_succ_eq_append_getElem h]
  unfold okInts at ht ⊢
  rw [List.all_append, ht]
  simp [h1, h2]
theorem all_false {α : Type} {p : α → Bool} {l : List α} {k : Nat} (h : k < l.length) (hx : p l[k] = false) : l.all p = false := by
  cases e : l.all p with
  | false => rfl
  | true =>
    rw [List.all_eq_true] at e
    rw [e _ (List.getElem_mem h)] at hx
    cases hx
theorem all_snoc {α : Type} {p : α → Bool} {l : List α} {k : Nat} (h : k < l.length) (ht : (l.take k).all p = true) (hx : p l[k] = true) : (l.take (k + 1)).all p = true := by
  rw [List.take_succ_eq_append_getElem h, List.all_append, ht]
  simp [hx]

theorem IntsAt.mk1 {w : World} {b off cap : Nat} {x : Int} (h0 : w.cell? ⟨b, off, none⟩ = some (.int .i64 x)) : IntsAt w (.slice (some ⟨b, off, none⟩) 1 cap) [x] := by
  refine ⟨_, cap, rfl, fun _ => ⟨b, off, rfl, ?_⟩⟩
  intro i hi
  match i, hi with
  | 0, _ => simpa using h0
theorem IntsAt.mk2 {w : World} {b off cap : Nat} {x y : Int} (h0 : w.cell? ⟨b, off, none⟩ = some (.int .i64 x)) (h1 : w.cell? ⟨b, off + 1, none⟩ = some (.int .i64 y)) : IntsAt w (.slice (some ⟨b, off, none⟩) 2 cap) [x, y] := by
  refine ⟨_, cap, rfl, fun _ => ⟨b, off, rfl, ?_⟩⟩
  intro i hi
  match i, hi with
  | 0, _ => simpa using h0
  | 1, _ => simpa using h1

set_option maxHeartbeats 400000 in
theorem within_any (lo hi : Int) (v : Value) (l : List Int) (w : World) (hv : IntsAt w v l) (hlen : l.length ≤ 1000000) :
    Calls Tryd.prog 64 #[.int .i64 lo, .int .i64 hi, v] w fun e w' => e = .returned (.bool (okInts lo hi l)) ∧ w = w' := by
  obtain ⟨a, cap, rfl, hc⟩ := hv
  have hat := (IntsAt.at (w := w) (a := a) (n := l.length) (cap := cap) ⟨a, cap, rfl, hc⟩).2
  clear hc
  have HA := Lib.hid hat
  clear hat
  go_enter Tryd.func64, Tryd.ntmps64
  go_wp2
  go_loop [8, 11] (fun _ i => ∃ k : Nat, k ≤ l.length ∧ i = .int .i64 k ∧ okInts lo hi (l.take k) = true) (fun _ i => l.length - (intOf i).toNat)
  case atStart => exact ⟨0, Nat.zero_le _, rfl, by simp [okInts]⟩
  case round =>
    obtain ⟨k, hk, rfl, hok⟩ := hrel
    have HO := Lib.hid hok
    clear hok
    by_cases hlt : k < l.length
    · obtain ⟨b, off, rfl, hc⟩ := HA.out k hlt
      by_cases h1 : l[k] < lo
      · go_wp2
        go_ret
        exact ⟨congrArg (fun b => Ending.returned (.bool b)) (okInts_false hlt (by omega)).symm, rfl⟩
      · by_cases h2 : hi < l[k]
        · go_wp2
          go_ret
          exact ⟨congrArg (fun b => Ending.returned (.bool b)) (okInts_false hlt (by omega)).symm, rfl⟩
        · go_wp2
          go_round
          case rel => exact ⟨k + 1, by omega, by go_num, okInts_snoc hlt HO.out (by omega) (by omega)⟩
          case measure => simp [intOf]; omega
    · obtain rfl : k = l.length := by omega
      go_wp2
      go_ret
      refine ⟨?_, rfl⟩
      have := HO.out
      rw [List.take_length] at this
      rw [this]
      rfl

theorem PairsAt.at {w : World} {a : Option Addr} {n cap : Nat} {l : List (Int × Int)} (h : PairsAt w (.slice a n cap) l) : n = l.length ∧ ∀ k (h : k < l.length), ∃ b off, a = some ⟨b, off, none⟩ ∧ w.cell? ⟨b, off + k * 2, none⟩ = some (.int .i64 l[k].1) ∧ w.cell? ⟨b, off + k * 2 + 1, none⟩ = some (.int .i64 l[k].2) := by
  obtain ⟨a', cap', e, hc⟩ := h
  cases e
  refine ⟨rfl, fun k hk => ?_⟩
  obtain ⟨b, off, ea, hc⟩ := hc (by intro h; subst h; exact absurd hk (Nat.not_lt_zero _))
  exact ⟨b, off, ea, hc k hk⟩

theorem okEdge_of {r : Int × Int} (h1 : ¬ r.2 < r.1) (h2 : okInts (-1000) 1000 [r.1, r.2] = true) : okEdge r = true := by
  simp [okInts] at h2
  simp [okEdge]
  omega
theorem okEdge_not {r : Int × Int} (h2 : okInts (-1000) 1000 [r.1, r.2] = false) : okEdge r = false := by
  simp [okInts] at h2
  simp [okEdge]
  omega

set_option maxHeartbeats 800000 in
theorem areEdges_any (v : Value) (l : List (Int × Int)) (w : World) (hv : PairsAt w v l) (hlen : l.length ≤ 1000000) :
    Calls Tryd.prog 90 #[v] w fun e w' => e = .returned (.bool (okEdges l)) ∧ Below w.heap.size w w' := by
  obtain ⟨a, cap, rfl, hc⟩ := hv
  have hat := (PairsAt.at (w := w) (a := a) (n := l.length) (cap := cap) ⟨a, cap, rfl, hc⟩).2
  clear hc
  have HA := Lib.hid hat
  clear hat
  go_enter Tryd.func90, Tryd.ntmps90
  go_wp2
  go_loopw [4, 7] (fun _ i wr => ∃ k : Nat, k ≤ l.length ∧ i = .int .i64 k ∧ okEdges (l.take k) = true ∧ Below w.heap.size w wr) (fun _ i _ => l.length - (intOf i).toNat)
  case atStart => exact ⟨0, Nat.zero_le _, rfl, by simp [okEdges], Below.refl _ _⟩
  case round =>
    obtain ⟨k, hk, rfl, hok, hB⟩ := hrel
    have HO := Lib.hid hok
    clear hok
    by_cases hlt : k < l.length
    · obtain ⟨b, off, rfl, hc, hc'⟩ := HA.out k hlt
      have hbl := lt_of_cell hc
      rw [← hB.cell (p := ⟨b, _, none⟩) hbl] at hc hc'
      have hk1 := hB.size
      by_cases h1 : l[k].2 < l[k].1
      · go_wp2
        go_ret
        exact ⟨congrArg (fun b => Ending.returned (.bool b)) (all_false hlt (by simp [okEdge]; omega)).symm, hB.alloc hB.size _⟩
      · go_wp2_with fail
        refine (within_any _ _ _ [l[k].1, l[k].2] _ (IntsAt.mk2 (by go_simp) (by go_simp)) (by simp)).mono ?_
        rintro e w' ⟨rfl, rfl⟩
        by_cases h2 : okInts (-1000) 1000 [l[k].1, l[k].2] = true
        · rw [h2]
          go_wp2
          go_roundw
          case rel => exact ⟨k + 1, by omega, by go_num, all_snoc hlt HO.out (okEdge_of (by omega) h2), (hB.alloc hk1 _).alloc (by simp; omega) _⟩
          case measure => simp [intOf]; omega
        · rw [Bool.not_eq_true] at h2
          rw [h2]
          go_wp2
          go_ret
          exact ⟨congrArg (fun b => Ending.returned (.bool b)) (all_false hlt (okEdge_not h2)).symm, (hB.alloc hk1 _).alloc (by simp; omega) _⟩
    · obtain rfl : k = l.length := by omega
      go_wp2
      go_ret
      refine ⟨?_, hB⟩
      have := HO.out
      rw [List.take_length] at this
      rw [this]
      rfl

theorem strictB_false {l : List Int} {k : Nat} (h : k + 1 < l.length) (hx : l[k + 1] ≤ l[k]) : strictB l = false := by
  cases e : strictB l with
  | false => rfl
  | true =>
    have := (strictB_iff l).1 e k h
    omega

theorem getElem_pred {l : List Int} {k : Nat} (h : 1 ≤ k) (hk : k < l.length) : l[k - 1 + 1] = l[k] := by
  congr 1
  omega

set_option maxHeartbeats 800000 in
theorem isStrict_any (v : Value) (l : List Int) (w : World) (hv : IntsAt w v l) (hlen : l.length ≤ 1000000) :
    Calls Tryd.prog 91 #[v] w fun e w' => e = .returned (.bool (strictB l)) ∧ Below w.heap.size w w' := by
  obtain ⟨a, cap, rfl, hc⟩ := hv
  have hat := (IntsAt.at (w := w) (a := a) (n := l.length) (cap := cap) ⟨a, cap, rfl, hc⟩).2
  clear hc
  have HA := Lib.hid hat
  clear hat
  go_enter Tryd.func91, Tryd.ntmps91
  go_wp2
  go_loopw [3] (fun i wr => ∃ k : Nat, (k ≤ l.length ∨ k = 1) ∧ 1 ≤ k ∧ i = .int .i64 k ∧ (∀ j (h : j + 1 < l.length), j + 1 < k → l[j] < l[j + 1]) ∧ ∃ nq, wr = w.drewN nq) (fun i _ => l.length - (intOf i).toNat)
  case atStart => exact ⟨1, by omega, by omega, rfl, by omega, 0, rfl⟩
  case round =>
    obtain ⟨k, hk, hk1, rfl, hok, nq, rfl⟩ := hrel
    have HO := Lib.hid hok
    clear hok
    by_cases hlt : k < l.length
    · obtain ⟨b, off, rfl, hc⟩ := HA.out k hlt
      obtain ⟨b', off', e, hc'⟩ := HA.out (k - 1) (by omega)
      obtain ⟨rfl, rfl⟩ : b = b' ∧ off = off' := by simpa using e
      clear e
      by_cases h1 : l[k] ≤ l[k - 1]
      · go_wp2_with fail
        go_quiet (fail)
        go_wp2
        go_ret
        refine ⟨congrArg (fun b => Ending.returned (.bool b)) ?_, below_drewN (below_drewN (Below.refl _ _) _) _⟩
        exact (strictB_false (k := k - 1) (by omega) (by rw [getElem_pred hk1 hlt]; exact h1)).symm
      · go_wp2_with fail
        go_quiet (fail)
        go_wp2
        go_roundw
        case rel => 
          refine ⟨k + 1, by omega, by omega, by go_num, ?_, _, rfl⟩
          intro j hj hjk
          by_cases hjj : j + 1 < k
          · exact HO.out j hj hjj
          · obtain rfl : k = j + 1 := by omega
            have := getElem_pred (l := l) hk1 hlt
            simp at this
            simp at h1
            omega
        case measure => simp [intOf]; omega
    · go_wp2
      go_ret
      refine ⟨congrArg (fun b => Ending.returned (.bool b)) ?_, below_drewN (Below.refl _ _) _⟩
      exact ((strictB_iff l).2 (fun i hi => HO.out i hi (by omega))).symm
end Go.Proofs.YtlhldkiggmlegaaDoor
