import Derived.Test.YtlhldkiggmlegaaDoorOb
namespace Go.Proofs.YtlhldkiggmlegaaDoor
open Go.RowKit Go.Shelf Go.Sort
attribute [local go_sem] Oper.semAt_some

/-! ## The law's own: fit; the heights fit -/
structure Fits (r : Rat) : Prop where
  den : (r.den : Int) ≤ 200
  lo : -1000000 * (r.den : Int) ≤ r.num
  hi : r.num ≤ 1000000 * (r.den : Int)
set_option maxHeartbeats 1000000 in
theorem fit_yes (r : Rat) (w : World) (h : Fits r) :
    Calls Tryd.prog 48 #[.agg #[.int .i64 r.num, .int .i64 (r.den : Int)]] w fun e w' => e = .returned (.bool true) ∧ Below w.heap.size w w' := by
  obtain ⟨h1, h2, h3⟩ := h
  have h4 : 1 ≤ (r.den : Int) := by have := r.den_pos; omega
  have hm : mkRat r.num (r.den : Int).toNat = r := by rw [Int.toNat_natCast]; exact Rat.mkRat_self r
  obtain ⟨n, hn⟩ : ∃ n, r.num = n := ⟨_, rfl⟩
  obtain ⟨d, hd⟩ : ∃ d, (r.den : Int) = d := ⟨_, rfl⟩
  rw [hd] at h1 h2 h3 h4
  rw [hn] at h2 h3
  rw [hn, hd] at hm ⊢
  have HM := Lib.hid hm
  have hq : qv r = .agg #[.int .i64 n, .int .i64 d] := by rw [qv, hn, hd]
  have hby : ∀ W, Calls Tryd.prog 51 #[.int .i64 n, .int .i64 d] W fun e w' => e = .returned (.agg #[.int .i64 n, .int .i64 d]) ∧ Below W.heap.size W w' := fun W => by
    have := rby_any n d W (by omega) (by omega) (by omega) (by omega)
    rw [HM.out, hq] at this
    exact this
  have HBY := Lib.hid hby
  clear hm hq hby hn hd HM
  have wr1 : IntKind.i64.wrap (-1000000 * d) = -1000000 * d := IntWalk.i64_in _ (by omega)
  have wr2 : IntKind.i64.wrap (1000000 * d) = 1000000 * d := IntWalk.i64_in _ (by omega)
  have t1 : decide (1 ≤ d) = true := by simp; omega
  have t2 : decide (d ≤ 200) = true := by simp; omega
  have t3 : decide (-1000000 * d ≤ n) = true := by simp; omega
  have t4 : decide (n ≤ 1000000 * d) = true := by simp; omega
  have heq := fun w => pair_eq n d w
  have x := Blk.new w (.cells #[.int .i64 n, .int .i64 d] 31)
  have hB := below1 w (.cells #[.int .i64 n, .int .i64 d] 31)
  go_enter Tryd.func48, Tryd.ntmps48
  go_wp2_with fail
  generalize w.alloc (.cells #[.int .i64 n, .int .i64 d] 31) = w1 at *
  have x0 := x.cell 0
  have x1 := x.cell 1
  simp at x0 x1
  have g1 := fun d os => cell_regrown x0 d os
  have g2 := fun d os => cell_regrown x1 d os
  have hk := fun (dr : Nat) (os : Array Obj) => Calls.regrown_of (HBY.out (grow (redrawn w1 dr) os))
  have HB := Lib.hid hB
  clear x x0 x1 hB
  refine wp_region_quiet_below (by kernel_rfl) (by kernel_rfl) ?_
  repeat (quiet_step ((go_at_call 51; exact hk _ _)))
  refine wpQuiet_nil ?_
  intro _ hw'
  obtain ⟨⟨dq, osq⟩, hw''⟩ := hw'
  subst hw''
  have HBF := Lib.hid (bC HB.out (below_regrown w1 dq osq))
  clear g1 g2 hk heq wr1 wr2
  generalize grow (redrawn w1 dq) osq = w6 at *
  go_wp2
  go_ret
  exact ⟨rfl, HBF.out⟩

theorem corner_fr1 {l : LogD} (hf : Fit l.at_ [l.edges]) {core : Int} (h : CoreOk (core : Rat)) {x : Pt × Pt} (hx : IsCorner l (core : Rat) x) :
    ∃ D : Nat, 0 < D ∧ D ≤ 100 ∧ ∀ t : Int, 0 ≤ t → t ≤ 100 → Fr D 603000 (lineAt x.1 x.2 t) := by
  obtain ⟨f1, f2, _, _, f5, f6, f7, _, _⟩ := corner_fine hf h hx (k := 0) (by have := hf.two; omega)
  obtain ⟨i, j, c, d, hij, hj, hc, hd, rfl⟩ := hx
  obtain ⟨a1, a2⟩ := ptK_fr hf h (show i < l.at_.length by omega) c
  obtain ⟨b1, b2⟩ := ptK_fr hf h hj d
  rw [Rat.den_intCast] at a1 b1
  generalize ptK (lowP l core i) (uppP l core i) c = pa at *
  generalize ptK (lowP l core j) (uppP l core j) d = pb at *
  simp only at f1 f2 f5 f6 f7
  have e1 : Fr 1 6000 (pb.2 - pa.2) := (b1.sub a1).mono (by omega)
  refine ⟨1 * (pb.1 - pa.1).toNat, by omega, by omega, fun t ht ht' => ?_⟩
  have e2 := e1.part (n := t - pa.1) (d := pb.1 - pa.1) (by omega) (by omega) (by omega) (by omega)
  exact ((a1.wide (pb.1 - pa.1).toNat (by omega)).add e2).mono (by omega)
theorem fr_fits {D : Nat} {r : Rat} (hD : 0 < D) (hD' : D ≤ 200) (h : Fr D 603000 r) : Fits r := by
  have hden := Nat.le_trans (h.dens hD) hD'
  obtain ⟨k, hk, k1, k2⟩ := h
  have hDr : (0 : Rat) < (D : Rat) := Rat.natCast_pos.2 hD
  have e : r * (D : Rat) = (k : Rat) := by rw [hk]; exact Rat.div_mul_cancel (by grind)
  have b1 : (-603000 : Rat) ≤ r := by
    refine Rat.le_of_mul_le_mul_right ?_ hDr
    rw [e]
    have := (Rat.intCast_le_intCast (a := -603000 * (D : Int)) (b := k)).2 (by omega)
    rw [Rat.intCast_mul, Rat.intCast_natCast] at this
    exact this
  have b2 : r ≤ (603000 : Rat) := by
    refine Rat.le_of_mul_le_mul_right ?_ hDr
    rw [e]
    have := (Rat.intCast_le_intCast (a := k) (b := 603000 * (D : Int))).2 (by omega)
    rw [Rat.intCast_mul, Rat.intCast_natCast] at this
    exact this
  have c1 : ((-1000000 : Int) : Rat) = -1000000 := rfl
  have c2 : ((1000000 : Int) : Rat) = 1000000 := rfl
  exact ⟨by omega, num_ge (by rw [c1]; grind), num_le (by rw [c2]; grind)⟩
theorem heights_fits {l : LogD} (hf : Fit l.at_ [l.edges]) {core x : Int} (h1 : -2000 ≤ core) (h2 : core ≤ 2000) (h3 : 0 ≤ x) (h4 : x ≤ 100) {better : Rat → Rat → Bool} (hne : heightsL l core x ≠ []) (hb : ∀ y, bestBy better (heightsL l core x) = some y → y ∈ heightsL l core x) : Fits (heightsV better l core x) := by
  obtain ⟨y, hy⟩ := bestBy_some better hne
  have e : heightsV better l core x = y := by unfold heightsV; rw [hy]; rfl
  rw [e]
  obtain ⟨p, hp, rfl⟩ := List.mem_map.1 (hb y hy)
  obtain ⟨D, g1, g2, g3⟩ := corner_fr1 hf (intCore h1 h2) (isCorner_of_mem (List.mem_filter.1 hp).1)
  exact fr_fits g1 (by omega) (g3 x h3 h4)
theorem Fits.fine {r : Rat} (h : Fits r) : Fine r := by
  obtain ⟨g1, g2, g3⟩ := h
  exact ⟨by omega, by omega, by omega⟩
/-- Whether a whole number is at most a fraction. -/
theorem le_num {r : Rat} {m : Int} : (m : Rat) ≤ r ↔ m * (r.den : Int) ≤ r.num := by
  refine ⟨num_ge, fun h => ?_⟩
  have hd : (0 : Rat) < (r.den : Rat) := Rat.natCast_pos.2 r.den_pos
  have e : r * (r.den : Rat) = (r.num : Rat) := by
    have e0 : r = (r.num : Rat) / (r.den : Rat) := by rw [← Rat.mkRat_eq_div]; exact (Rat.mkRat_self _).symm
    have := congrArg (· * (r.den : Rat)) e0
    simpa [Rat.div_mul_cancel (show (r.den : Rat) ≠ 0 by grind)] using this
  refine Rat.le_of_mul_le_mul_right ?_ hd
  rw [e]
  have := (Rat.intCast_le_intCast (a := m * (r.den : Int)) (b := r.num)).2 h
  rw [Rat.intCast_mul, Rat.intCast_natCast] at this
  exact this
end Go.Proofs.YtlhldkiggmlegaaDoor
