import Derived.Test.YtclbnamlkfgedaaDoorOb
namespace Go.Proofs.YtclbnamlkfgedaaDoor
open Go.RowKit Go.Shelf Go.Sort
attribute [local go_sem] Oper.semAt_some

/-! ## The law's own: fit; the heights fit -/
structure Fits (r : Rat) : Prop where
  den : (r.den : Int) ≤ 200
  lo : -1000000 * (r.den : Int) ≤ r.num
  hi : r.num ≤ 1000000 * (r.den : Int)
set_option maxHeartbeats 1000000 in
theorem fit_yes (r : Rat) (w : World) (h : Fits r) :
    Calls Tryd.prog 48 #[.agg #[.int .i64 r.num, .int .i64 (r.den : Int)]] w fun e w' => e = .returned (.bool true) ∧ Below w.heap.size w w' := by
  obtain ⟨h1, h2, h3⟩ := h
  have h4 : 1 ≤ (r.den : Int) := by have := r.den_pos; omega
  have hm : mkRat r.num (r.den : Int).toNat = r := by rw [Int.toNat_natCast]; exact Rat.mkRat_self r
  obtain ⟨n, hn⟩ : ∃ n, r.num = n := ⟨_, rfl⟩
  obtain ⟨d, hd⟩ : ∃ d, (r.den : Int) = d := ⟨_, rfl⟩
  rw [hd] at h1 h2 h3 h4
  rw [hn] at h2 h3
  rw [hn, hd] at hm ⊢
  have HM := Lib.hid hm
  have hq : qv r = .agg #[.int .i64 n, .int .i64 d] := by rw [qv, hn, hd]
  have hby : ∀ W, Calls Tryd.prog 51 #[.int .i64 n, .int .i64 d] W fun e w' => e = .returned (.agg #[.int .i64 n, .int .i64 d]) ∧ Below W.heap.size W w' := fun W => by
    have := rby_any n d W (by omega) (by omega) (by omega) (by omega)
    rw [HM.out, hq] at this
    exact this
  have HBY := Lib.hid hby
  clear hm hq hby hn hd HM
  have wr1 : IntKind.i64.wrap (-1000000 * d) = -1000000 * d := IntWalk.i64_in _ (by omega)
  have wr2 : IntKind.i64.wrap (1000000 * d) = 1000000 * d := IntWalk.i64_in _ (by omega)
  have t1 : decide (1 ≤ d) = true := by simp; omega
  have t2 : decide (d ≤ 200) = true := by simp; omega
  have t3 : decide (-1000000 * d ≤ n) = true := by simp; omega
  have t4 : decide (n ≤ 1000000 * d) = true := by simp; omega
  have heq := fun w => pair_eq n d w
  have x := Blk.new w (.cells #[.int .i64 n, .int .i64 d] 31)
  have hB := below1 w (.cells #[.int .i64 n, .int .i64 d] 31)
  go_enter Tryd.func48, Tryd.ntmps48
  go_wp2_with fail
  generalize w.alloc (.cells #[.int .i64 n, .int .i64 d] 31) = w1 at *
  have x0 := x.cell 0
  have x1 := x.cell 1
  simp at x0 x1
  have g1 := fun d os => cell_regrown x0 d os
  have g2 := fun d os => cell_regrown x1 d os
  have hk := fun (dr : Nat) (os : Array Obj) => Calls.regrown_of (HBY.out (grow (redrawn w1 dr) os))
  have HB := Lib.hid hB
  clear x x0 x1 hB
  refine wp_region_quiet_below (by kernel_rfl) (by kernel_rfl) ?_
  repeat (quiet_step ((go_at_call 51; exact hk _ _)))
  refine wpQuiet_nil ?_
  intro _ hw'
  obtain ⟨⟨dq, osq⟩, hw''⟩ := hw'
  subst hw''
  have HBF := Lib.hid (bC HB.out (below_regrown w1 dq osq))
  clear g1 g2 hk heq wr1 wr2
  generalize grow (redrawn w1 dq) osq = w6 at *
  go_wp2
  go_ret
  exact ⟨rfl, HBF.out⟩

theorem corner_fr1 {l : LogD} (hf : Fit l.at_ [l.edges]) {core : Int} (h : CoreOk (core : Rat)) {x : Pt × Pt} (hx : IsCorner l (core : Rat) x) :
    ∃ D : Nat, 0 < D ∧ D ≤ 100 ∧ ∀ t : Int, 0 ≤ t → t ≤ 100 → Fr D 603000 (lineAt x.1 x.2 t) := by
  obtain ⟨f1, f2, _, _, f5, f6, f7, _, _⟩ := corner_fine hf h hx (k := 0) (by have := hf.two; omega)
  obtain ⟨i, j, c, d, hij, hj, hc, hd, rfl⟩ := hx
  obtain ⟨a1, a2⟩ := ptK_fr hf h (show i < l.at_.length by omega) c
  obtain ⟨b1, b2⟩ := ptK_fr hf h hj d
  rw [Rat.den_intCast] at a1 b1
  generalize ptK (lowP l core i) (uppP l core i) c = pa at *
  generalize ptK (lowP l core j) (uppP l core j) d = pb at *
  simp only at f1 f2 f5 f6 f7
  have e1 : Fr 1 6000 (pb.2 - pa.2) := (b1.sub a1).mono (by omega)
  refine ⟨1 * (pb.1 - pa.1).toNat, by omega, by omega, fun t ht ht' => ?_⟩
  have e2 := e1.part (n := t - pa.1) (d := pb.1 - pa.1) (by omega) (by omega) (by omega) (by omega)
  exact ((a1.wide (pb.1 - pa.1).toNat (by omega)).add e2).mono (by omega)
theorem fr_fits {D : Nat} {r : Rat} (hD : 0 < D) (hD' : D ≤ 200) (h : Fr D 603000 r) : Fits r := by
  have hden := Nat.le_trans (h.dens hD) hD'
  obtain ⟨k, hk, k1, k2⟩ := h
  have hDr : (0 : Rat) < (D : Rat) := Rat.natCast_pos.2 hD
  have e : r * (D : Rat) = (k : Rat) := by rw [hk]; exact Rat.div_mul_cancel (by grind)
  have b1 : (-603000 : Rat) ≤ r := by
    refine Rat.le_of_mul_le_mul_right ?_ hDr
    rw [e]
    have := (Rat.intCast_le_intCast (a := -603000 * (D : Int)) (b := k)).2 (by omega)
    rw [Rat.intCast_mul, Rat.intCast_natCast] at this
    exact this
  have b2 : r ≤ (603000 : Rat) := by
    refine Rat.le_of_mul_le_mul_right ?_ hDr
    rw [e]
    have := (Rat.intCast_le_intCast (a := k) (b := 603000 * (D : Int))).2 (by omega)
    rw [Rat.intCast_mul, Rat.intCast_natCast] at this
    exact this
  have c1 : ((-1000000 : Int) : Rat) = -1000000 := rfl
  have c2 : ((1000000 : Int) : Rat) = 1000000 := rfl
  exact ⟨by omega, num_ge (by rw [c1]; grind), num_le (by rw [c2]; grind)⟩
theorem heights_fits {l : LogD} (hf : Fit l.at_ [l.edges]) {core x : Int} (h1 : -2000 ≤ core) (h2 : core ≤ 2000) (h3 : 0 ≤ x) (h4 : x ≤ 100) {better : Rat → Rat → Bool} (hne : heightsL l core x ≠ []) (hb : ∀ y, bestBy better (heightsL l core x) = some y → y ∈ heightsL l core x) : Fits (heightsV better l core x) := by
  obtain ⟨y, hy⟩ := bestBy_some better hne
  have e : heightsV better l core x = y := by unfold heightsV; rw [hy]; rfl
  rw [e]
  obtain ⟨p, hp, rfl⟩ := List.mem_map.1 (hb y hy)
  obtain ⟨D, g1, g2, g3⟩ := corner_fr1 hf (intCore h1 h2) (isCorner_of_mem (List.mem_filter.1 hp).1)
  exact fr_fits g1 (by omega) (g3 x h3 h4)
theorem Fits.fine {r : Rat} (h : Fits r) : Fine r := by
  obtain ⟨g1, g2, g3⟩ := h
  exact ⟨by omega, by omega, by omega⟩
/-- Whether a whole number is at most a fraction. -/
theorem le_num {r : Rat} {m : Int} : (m : Rat) ≤ r ↔ m * (r.den : Int) ≤ r.num := by
  refine ⟨num_ge, fun h => ?_⟩
  have hd : (0 : Rat) < (r.den : Rat) := Rat.natCast_pos.2 r.den_pos
  have e : r * (r.den : Rat) = (r.num : Rat) := by
    have e0 : r = (r.num : Rat) / (r.den : Rat) := by rw [← Rat.mkRat_eq_div]; exact (Rat.mkRat_self _).symm
    have := congrArg (· * (r.den : Rat)) e0
    simpa [Rat.div_mul_cancel (show (r.den : Rat) ≠ 0 by grind)] using this
  refine Rat.le_of_mul_le_mul_right ?_ hd
  rw [e]
  have := (Rat.intCast_le_intCast (a := m * (r.den : Int)) (b := r.num)).2 h
  rw [Rat.intCast_mul, Rat.intCast_natCast] at this
  exact this
end Go.Proofs.YtclbnamlkfgedaaDoor

namespace Go.Proofs.YtclbnamlkfgedaaDoor
open Go.RowKit Go.Shelf Go.Sort
attribute [local go_sem] Oper.semAt_some

/-! ## The law PeelNone -/
/-- What Heights answers at a valid log. -/
structure HV (l : LogD) (core x : Int) (an ad bn bd : Int) : Prop where
  ne : heightsL l core x ≠ []
  a1 : (heightsV (fun a b => decide (a < b)) l core x).num = an
  a2 : ((heightsV (fun a b => decide (a < b)) l core x).den : Int) = ad
  b1 : (heightsV (fun a b => decide (b < a)) l core x).num = bn
  b2 : ((heightsV (fun a b => decide (b < a)) l core x).den : Int) = bd
theorem he_some {l : LogD} (h0 : logErr l = 0) {core x : Int} (h1 : -2000 ≤ core) (h2 : core ≤ 2000) (h3 : 0 ≤ x) (h4 : x ≤ 100) (h : (core : Rat) ≤ bestV l) :
    ∃ an ad bn bd : Int, he l core x = .tuple #[.agg #[.int .i64 an, .int .i64 ad], .agg #[.int .i64 bn, .int .i64 bd], .int .i64 0] ∧ HV l core x an ad bn bd := by
  have hne := (height_ne (logErr_fit' h0) (x := x)).2 h
  have e : heightsE l core x = 0 := by unfold heightsE; rw [if_neg (by simp [h0]), if_neg (by omega), if_neg hne]
  exact ⟨_, _, _, _, by unfold he; rw [if_pos e, if_pos e, e]; rfl, hne, rfl, rfl, rfl, rfl⟩
theorem he_none {l : LogD} (h0 : logErr l = 0) {core x : Int} (h1 : -2000 ≤ core) (h2 : core ≤ 2000) (h3 : 0 ≤ x) (h4 : x ≤ 100) (h : ¬ (core : Rat) ≤ bestV l) :
    ∃ an ad bn bd : Int, he l core x = .tuple #[.agg #[.int .i64 an, .int .i64 ad], .agg #[.int .i64 bn, .int .i64 bd], .int .i64 17] := by
  have hne : heightsL l core x = [] := Classical.byContradiction fun hn => h ((height_ne (logErr_fit' h0) (x := x)).1 hn)
  have e : heightsE l core x = 17 := by unfold heightsE; rw [if_neg (by simp [h0]), if_neg (by omega), if_pos hne]
  exact ⟨_, _, _, _, by unfold he; rw [if_neg (by rw [e]; decide), if_neg (by rw [e]; decide), e]⟩
theorem Keep.mono {l : LogD} {c c' a s : Rat} (h : Keep l c' a s) (hc : c ≤ c') : Keep l c a s := fun k hk => by
  obtain ⟨g1, g2⟩ := h k hk
  constructor <;> grind
theorem tmN' (x N : Int) (h0 : 0 ≤ x) (h : 0 < N) : 0 ≤ x.tmod N ∧ x.tmod N < N := by
  rw [Int.tmod_eq_emod_of_nonneg h0]
  exact ⟨Int.emod_nonneg _ (by omega), Int.emod_lt_of_pos _ h⟩
theorem tm_bd1 {x : Int} (h : 0 ≤ x) : 0 ≤ x.tmod 101 ∧ x.tmod 101 ≤ 100 := by have := tmN' x 101 h (by decide); omega
set_option maxRecDepth 1000000 in
set_option maxHeartbeats 40000000 in
theorem PeelNone_any (v : Value) (l : LogD) (num more x0 : Int) (w : World) (hN : NoneAt w) (hv : LogAt w v l)
    (g1 : -32768 ≤ num ∧ num ≤ 32767) (g2 : 0 ≤ more ∧ more ≤ 255) (g3 : 0 ≤ x0 ∧ x0 ≤ 255) :
    Calls Tryd.prog 10 #[v, .int .i16 num, .int .u8 more, .int .u8 x0] w fun e w' => e = .returned (.bool true) ∧ Below w.heap.size w w' := by
  obtain ⟨va, ve, rfl, h1, h2⟩ := hv
  obtain ⟨a, cap, rfl⟩ := h1.slice
  obtain ⟨a', cap', rfl⟩ := h2.slice
  have HV : Hid (LogAt w (.agg #[.slice a l.at_.length cap, .slice a' l.edges.length cap']) l) := Lib.hid ⟨_, _, rfl, h1, h2⟩
  have HN := Lib.hid hN
  clear h1 h2 hN
  have hL := Blk.new w (.cells #[.slice a l.at_.length cap, .slice a' l.edges.length cap'] 25)
  have hB0 := below1 w (.cells #[.slice a l.at_.length cap, .slice a' l.edges.length cap'] 25)
  have HL0 := Lib.hid hL
  have HB0 := Lib.hid hB0
  clear hB0 hL
  by_cases h0 : logErr l = 0
  · have HF : Hid (∀ W, LogAt W (.agg #[.slice a l.at_.length cap, .slice a' l.edges.length cap']) l → Calls Tryd.prog 41 #[(.agg #[.slice a l.at_.length cap, .slice a' l.edges.length cap'])] W (Gets (.bool true) W)) := Lib.hid (fun W h => by have := fine_any _ l W h; rw [decide_eq_true h0] at this; exact this)
    have hf := logErr_fit' h0
    have hS : l.small := by unfold LogD.small; have := hf.eight; have := hf.lens _ (List.mem_singleton.2 rfl); omega
    obtain ⟨n, hn⟩ : ∃ n, (bestV l).num = n := ⟨_, rfl⟩
    obtain ⟨d, hd⟩ : ∃ d, ((bestV l).den : Int) = d := ⟨_, rfl⟩
    have sv := small_best hf
    have hdb : 1 ≤ d ∧ d ≤ 200 := by obtain ⟨q1, q2, q3⟩ := sv; have := (bestV l).den_pos; omega
    obtain ⟨t1, t2⟩ := tm_bd num
    obtain ⟨t3, t4⟩ := tm_bd1 g3.1
    obtain ⟨core, hcore⟩ : ∃ core, num.tmod 2001 = core := ⟨_, rfl⟩
    obtain ⟨x, hx⟩ : ∃ x, x0.tmod 101 = x := ⟨_, rfl⟩
    rw [hcore] at t1 t2
    rw [hx] at t3 t4
    obtain ⟨core2, hcore2⟩ : ∃ core2, min 2000 (core + more) = core2 := ⟨_, rfl⟩
    have c1 : core ≤ core2 := by omega
    have c2 : core2 ≤ 2000 := by omega
    have hmul := mulL_bd t1 t2 (show 0 ≤ d by omega)
    have r1 : IntKind.i64.wrap num = num := IntWalk.i64_in _ (by omega)
    have r2 : IntKind.i64.wrap core = core := IntWalk.i64_in _ (by omega)
    have r3 : IntKind.i64.wrap x0 = x0 := IntWalk.i64_in _ (by omega)
    have r4 : IntKind.i64.wrap x = x := IntWalk.i64_in _ (by omega)
    have r5 : IntKind.i64.wrap more = more := IntWalk.i64_in _ (by omega)
    have r6 : IntKind.i64.wrap (core + more) = core + more := IntWalk.i64_in _ (by omega)
    have r7 : IntKind.i64.wrap (core * d) = core * d := IntWalk.i64_in _ (by omega)
    have hle : (core : Rat) ≤ bestV l ↔ core * d ≤ n := by rw [le_num, hn, hd]
    have hle2 : (core : Rat) ≤ (core2 : Rat) := Rat.intCast_le_intCast.2 c1
    have HBG : Hid (∀ W, NoneAt W → LogAt W (.agg #[.slice a l.at_.length cap, .slice a' l.edges.length cap']) l → Calls Tryd.prog 42 #[(.agg #[.slice a l.at_.length cap, .slice a' l.edges.length cap'])] W (Gets (.tuple #[.agg #[.int .i64 n, .int .i64 d], .bool true]) W)) := Lib.hid (fun W hN h => by have := best_good _ l W hN h h0; rw [qv, hn, hd] at this; exact this)
    by_cases hc : (core : Rat) ≤ bestV l
    · obtain ⟨an, ad, bn, bd, eHH1, V1⟩ := he_some h0 (core := core) (x := x) (by omega) (by omega) (by omega) (by omega) hc
      have HH1 : Hid (∀ W, LogAt W (.agg #[.slice a l.at_.length cap, .slice a' l.edges.length cap']) l → Calls Tryd.prog 34 #[(.agg #[.slice a l.at_.length cap, .slice a' l.edges.length cap']), .int .i64 core, .int .i64 x] W (Gets (.tuple #[.agg #[.int .i64 an, .int .i64 ad], .agg #[.int .i64 bn, .int .i64 bd], .int .i64 0]) W)) := Lib.hid (fun W h => by have := Heights_any _ l core x W h hS; rw [eHH1] at this; exact this)
      have k1 : decide (core * d ≤ n) = true := decide_eq_true (hle.1 hc)
      obtain ⟨V0, v1, v2, v3, v4⟩ := V1
      have fa := heights_fits hf (core := core) (x := x) (by omega) (by omega) (by omega) (by omega) V0 (fun y hy => (best_least hy).1)
      have fb := heights_fits hf (core := core) (x := x) (by omega) (by omega) (by omega) (by omega) V0 (fun y hy => (best_most hy).1)
      have w1 := height_least hf V0
      have w2 := height_most hf V0
      have nba : ¬ heightsV (fun a b => decide (b < a)) l core x < heightsV (fun a b => decide (a < b)) l core x := by
        obtain ⟨⟨p, q, z1, z2⟩, _⟩ := w1
        have := w2.2 p q z1
        grind
      have HFA : Hid (∀ W, Calls Tryd.prog 48 #[.agg #[.int .i64 an, .int .i64 ad]] W (Gets (.bool true) W)) := Lib.hid (fun W => by have := fit_yes _ W fa; rw [v1, v2] at this; exact this)
      have HFB : Hid (∀ W, Calls Tryd.prog 48 #[.agg #[.int .i64 bn, .int .i64 bd]] W (Gets (.bool true) W)) := Lib.hid (fun W => by have := fit_yes _ W fb; rw [v3, v4] at this; exact this)
      have HL1 : Hid (∀ W, Calls Tryd.prog 45 #[.agg #[.int .i64 bn, .int .i64 bd], .agg #[.int .i64 an, .int .i64 ad]] W (Gets (.bool false) W)) := Lib.hid (fun W => by have := rless_any _ _ W fb.fine fa.fine; rw [decide_eq_false nba, qv, qv, v1, v2, v3, v4] at this; exact this)
      by_cases hc2 : (core2 : Rat) ≤ bestV l
      · obtain ⟨cn, cd, en, ed, eHH2, V2⟩ := he_some h0 (core := core2) (x := x) (by omega) (by omega) (by omega) (by omega) hc2
        have HH2 : Hid (∀ W, LogAt W (.agg #[.slice a l.at_.length cap, .slice a' l.edges.length cap']) l → Calls Tryd.prog 34 #[(.agg #[.slice a l.at_.length cap, .slice a' l.edges.length cap']), .int .i64 core2, .int .i64 x] W (Gets (.tuple #[.agg #[.int .i64 cn, .int .i64 cd], .agg #[.int .i64 en, .int .i64 ed], .int .i64 0]) W)) := Lib.hid (fun W h => by have := Heights_any _ l core2 x W h hS; rw [eHH2] at this; exact this)
        obtain ⟨U0, u1, u2, u3, u4⟩ := V2
        have fc := heights_fits hf (core := core2) (x := x) (by omega) (by omega) (by omega) (by omega) U0 (fun y hy => (best_least hy).1)
        have fd := heights_fits hf (core := core2) (x := x) (by omega) (by omega) (by omega) (by omega) U0 (fun y hy => (best_most hy).1)
        have y1 := height_least hf U0
        have y2 := height_most hf U0
        have nca : ¬ heightsV (fun a b => decide (a < b)) l core2 x < heightsV (fun a b => decide (a < b)) l core x := by
          obtain ⟨⟨p, q, z1, z2⟩, _⟩ := y1
          have := w1.2 p q (z1.mono hle2)
          grind
        have nbd : ¬ heightsV (fun a b => decide (b < a)) l core x < heightsV (fun a b => decide (b < a)) l core2 x := by
          obtain ⟨⟨p, q, z1, z2⟩, _⟩ := y2
          have := w2.2 p q (z1.mono hle2)
          grind
        have HFC : Hid (∀ W, Calls Tryd.prog 48 #[.agg #[.int .i64 cn, .int .i64 cd]] W (Gets (.bool true) W)) := Lib.hid (fun W => by have := fit_yes _ W fc; rw [u1, u2] at this; exact this)
        have HFD : Hid (∀ W, Calls Tryd.prog 48 #[.agg #[.int .i64 en, .int .i64 ed]] W (Gets (.bool true) W)) := Lib.hid (fun W => by have := fit_yes _ W fd; rw [u3, u4] at this; exact this)
        have HL2 : Hid (∀ W, Calls Tryd.prog 45 #[.agg #[.int .i64 cn, .int .i64 cd], .agg #[.int .i64 an, .int .i64 ad]] W (Gets (.bool false) W)) := Lib.hid (fun W => by have := rless_any _ _ W fc.fine fa.fine; rw [decide_eq_false nca, qv, qv, v1, v2, u1, u2] at this; exact this)
        have HL3 : Hid (∀ W, Calls Tryd.prog 45 #[.agg #[.int .i64 bn, .int .i64 bd], .agg #[.int .i64 en, .int .i64 ed]] W (Gets (.bool false) W)) := Lib.hid (fun W => by have := rless_any _ _ W fb.fine fd.fine; rw [decide_eq_false nbd, qv, qv, u3, u4, v3, v4] at this; exact this)
        clear fc fd y1 y2 nca nbd U0 u1 u2 u3 u4 hc2 eHH2
        clear fa fb w1 w2 nba V0 v1 v2 v3 v4 hc eHH1
        clear hf hS sv hdb t1 t2 t3 t4 c1 c2 hmul hle hle2 hn hd h0 g1 g2 g3
        by_cases hm : 2000 ≤ core + more
        · have e2 : core2 = 2000 := by omega
          have hd1 : decide (2000 ≤ core + more) = true := by simp; omega
          subst e2
          clear hcore2
          go_enter Tryd.func10, Tryd.ntmps10
          go_wp2_with fail
          refine (HF.out _ (HV.out.below HB0.out)).mono ?_
          rintro e w1x ⟨rfl, hb⟩
          have HB1 := Lib.hid (bC HB0.out hb)
          have HL1 := Lib.hid (HL0.out.below hb)
          clear hb HB0 HL0
          have Lc0 := HL1.out.cell 0
          have Lc1 := HL1.out.cell 1
          simp at Lc0 Lc1
          have Ll := HL1.out.lt
          go_wp2_with fail
          clear Lc0 Lc1 Ll
          refine (HBG.out _ (HN.out.below HB1.out) (HV.out.below HB1.out)).mono ?_
          rintro e w2x ⟨rfl, hb⟩
          have HB2 := Lib.hid (bC HB1.out hb)
          have HL2 := Lib.hid (HL1.out.below hb)
          clear hb HB1 HL1
          have Lc0 := HL2.out.cell 0
          have Lc1 := HL2.out.cell 1
          simp at Lc0 Lc1
          have Ll := HL2.out.lt
          go_wp2_with fail
          clear Lc0 Lc1 Ll
          have hP := Blk.new w2x (.cells #[.int .i64 n, .int .i64 d] 31)
          have hA := below1 w2x (.cells #[.int .i64 n, .int .i64 d] 31)
          generalize w2x.alloc (.cells #[.int .i64 n, .int .i64 d] 31) = W2x at *
          have HP3 := Lib.hid hP
          clear hP
          have HB3 := Lib.hid (bC HB2.out hA)
          have HL3 := Lib.hid (HL2.out.below hA)
          clear hA HB2 HL2
          refine (HH1.out _ (HV.out.below HB3.out)).mono ?_
          rintro e w4x ⟨rfl, hb⟩
          have HB4 := Lib.hid (bC HB3.out hb)
          have HL4 := Lib.hid (HL3.out.below hb)
          have HP4 := Lib.hid (HP3.out.below hb)
          clear hb HB3 HL3 HP3
          have Lc0 := HL4.out.cell 0
          have Lc1 := HL4.out.cell 1
          simp at Lc0 Lc1
          have Ll := HL4.out.lt
          go_wp2_with fail
          clear Lc0 Lc1 Ll
          have hQ := (Blk.new w4x (.cells #[.int .i64 an, .int .i64 ad] 31)).alloc (.cells #[.int .i64 bn, .int .i64 bd] 31)
          have hT := Blk.new (w4x.alloc (.cells #[.int .i64 an, .int .i64 ad] 31)) (.cells #[.int .i64 bn, .int .i64 bd] 31)
          rw [World.size_alloc] at hT
          have hA := below2 w4x (.cells #[.int .i64 an, .int .i64 ad] 31) (.cells #[.int .i64 bn, .int .i64 bd] 31)
          generalize (w4x.alloc (.cells #[.int .i64 an, .int .i64 ad] 31)).alloc (.cells #[.int .i64 bn, .int .i64 bd] 31) = W4x at *
          have HQ5 := Lib.hid hQ
          have HT5 := Lib.hid hT
          clear hQ hT
          have HB5 := Lib.hid (bC HB4.out hA)
          have HL5 := Lib.hid (HL4.out.below hA)
          have HP5 := Lib.hid (HP4.out.below hA)
          clear hA HB4 HL4 HP4
          refine (HH2.out _ (HV.out.below HB5.out)).mono ?_
          rintro e w6x ⟨rfl, hb⟩
          have HB6 := Lib.hid (bC HB5.out hb)
          have HL6 := Lib.hid (HL5.out.below hb)
          have HP6 := Lib.hid (HP5.out.below hb)
          have HQ6 := Lib.hid (HQ5.out.below hb)
          have HT6 := Lib.hid (HT5.out.below hb)
          clear hb HB5 HL5 HP5 HQ5 HT5
          have Pc0 := HP6.out.cell 0
          have Pc1 := HP6.out.cell 1
          have Qc0 := HQ6.out.cell 0
          have Qc1 := HQ6.out.cell 1
          simp at Pc0 Pc1 Qc0 Qc1
          have Pl := HP6.out.lt
          have Ql := HQ6.out.lt
          go_wp2_with fail
          clear Pc0 Pc1 Qc0 Qc1 Pl Ql
          have hU := (Blk.new w6x (.cells #[.int .i64 cn, .int .i64 cd] 31)).alloc (.cells #[.int .i64 en, .int .i64 ed] 31)
          have hX := Blk.new (w6x.alloc (.cells #[.int .i64 cn, .int .i64 cd] 31)) (.cells #[.int .i64 en, .int .i64 ed] 31)
          rw [World.size_alloc] at hX
          have hA := below2 w6x (.cells #[.int .i64 cn, .int .i64 cd] 31) (.cells #[.int .i64 en, .int .i64 ed] 31)
          generalize (w6x.alloc (.cells #[.int .i64 cn, .int .i64 cd] 31)).alloc (.cells #[.int .i64 en, .int .i64 ed] 31) = W6x at *
          have HU7 := Lib.hid hU
          have HX7 := Lib.hid hX
          clear hU hX
          have HB7 := Lib.hid (bC HB6.out hA)
          have HL7 := Lib.hid (HL6.out.below hA)
          have HP7 := Lib.hid (HP6.out.below hA)
          have HQ7 := Lib.hid (HQ6.out.below hA)
          have HT7 := Lib.hid (HT6.out.below hA)
          clear hA HB6 HL6 HP6 HQ6 HT6
          refine (HFA.out _).mono ?_
          rintro e w8x ⟨rfl, hb⟩
          have HB8 := Lib.hid (bC HB7.out hb)
          have HL8 := Lib.hid (HL7.out.below hb)
          have HP8 := Lib.hid (HP7.out.below hb)
          have HQ8 := Lib.hid (HQ7.out.below hb)
          have HT8 := Lib.hid (HT7.out.below hb)
          have HU8 := Lib.hid (HU7.out.below hb)
          have HX8 := Lib.hid (HX7.out.below hb)
          clear hb HB7 HL7 HP7 HQ7 HT7 HU7 HX7
          have Tc0 := HT8.out.cell 0
          have Tc1 := HT8.out.cell 1
          simp at Tc0 Tc1
          have Tl := HT8.out.lt
          go_wp2_with fail
          clear Tc0 Tc1 Tl
          refine (HFB.out _).mono ?_
          rintro e w9x ⟨rfl, hb⟩
          have HB9 := Lib.hid (bC HB8.out hb)
          have HL9 := Lib.hid (HL8.out.below hb)
          have HP9 := Lib.hid (HP8.out.below hb)
          have HQ9 := Lib.hid (HQ8.out.below hb)
          have HT9 := Lib.hid (HT8.out.below hb)
          have HU9 := Lib.hid (HU8.out.below hb)
          have HX9 := Lib.hid (HX8.out.below hb)
          clear hb HB8 HL8 HP8 HQ8 HT8 HU8 HX8
          have Qc0 := HQ9.out.cell 0
          have Qc1 := HQ9.out.cell 1
          have Tc0 := HT9.out.cell 0
          have Tc1 := HT9.out.cell 1
          simp at Qc0 Qc1 Tc0 Tc1
          have Ql := HQ9.out.lt
          have Tl := HT9.out.lt
          go_wp2_with fail
          clear Qc0 Qc1 Tc0 Tc1 Ql Tl
          refine (HL1.out _).mono ?_
          rintro e w10x ⟨rfl, hb⟩
          have HB10 := Lib.hid (bC HB9.out hb)
          have HL10 := Lib.hid (HL9.out.below hb)
          have HP10 := Lib.hid (HP9.out.below hb)
          have HQ10 := Lib.hid (HQ9.out.below hb)
          have HT10 := Lib.hid (HT9.out.below hb)
          have HU10 := Lib.hid (HU9.out.below hb)
          have HX10 := Lib.hid (HX9.out.below hb)
          clear hb HB9 HL9 HP9 HQ9 HT9 HU9 HX9
          have Uc0 := HU10.out.cell 0
          have Uc1 := HU10.out.cell 1
          simp at Uc0 Uc1
          have Ul := HU10.out.lt
          go_wp2_with fail
          clear Uc0 Uc1 Ul
          refine (HFC.out _).mono ?_
          rintro e w11x ⟨rfl, hb⟩
          have HB11 := Lib.hid (bC HB10.out hb)
          have HL11 := Lib.hid (HL10.out.below hb)
          have HP11 := Lib.hid (HP10.out.below hb)
          have HQ11 := Lib.hid (HQ10.out.below hb)
          have HT11 := Lib.hid (HT10.out.below hb)
          have HU11 := Lib.hid (HU10.out.below hb)
          have HX11 := Lib.hid (HX10.out.below hb)
          clear hb HB10 HL10 HP10 HQ10 HT10 HU10 HX10
          have Xc0 := HX11.out.cell 0
          have Xc1 := HX11.out.cell 1
          simp at Xc0 Xc1
          have Xl := HX11.out.lt
          go_wp2_with fail
          clear Xc0 Xc1 Xl
          refine (HFD.out _).mono ?_
          rintro e w12x ⟨rfl, hb⟩
          have HB12 := Lib.hid (bC HB11.out hb)
          have HL12 := Lib.hid (HL11.out.below hb)
          have HP12 := Lib.hid (HP11.out.below hb)
          have HQ12 := Lib.hid (HQ11.out.below hb)
          have HT12 := Lib.hid (HT11.out.below hb)
          have HU12 := Lib.hid (HU11.out.below hb)
          have HX12 := Lib.hid (HX11.out.below hb)
          clear hb HB11 HL11 HP11 HQ11 HT11 HU11 HX11
          have Uc0 := HU12.out.cell 0
          have Uc1 := HU12.out.cell 1
          have Qc0 := HQ12.out.cell 0
          have Qc1 := HQ12.out.cell 1
          simp at Uc0 Uc1 Qc0 Qc1
          have Ul := HU12.out.lt
          have Ql := HQ12.out.lt
          go_wp2_with fail
          clear Uc0 Uc1 Qc0 Qc1 Ul Ql
          refine (HL2.out _).mono ?_
          rintro e w13x ⟨rfl, hb⟩
          have HB13 := Lib.hid (bC HB12.out hb)
          have HL13 := Lib.hid (HL12.out.below hb)
          have HP13 := Lib.hid (HP12.out.below hb)
          have HQ13 := Lib.hid (HQ12.out.below hb)
          have HT13 := Lib.hid (HT12.out.below hb)
          have HU13 := Lib.hid (HU12.out.below hb)
          have HX13 := Lib.hid (HX12.out.below hb)
          clear hb HB12 HL12 HP12 HQ12 HT12 HU12 HX12
          have Tc0 := HT13.out.cell 0
          have Tc1 := HT13.out.cell 1
          have Xc0 := HX13.out.cell 0
          have Xc1 := HX13.out.cell 1
          simp at Tc0 Tc1 Xc0 Xc1
          have Tl := HT13.out.lt
          have Xl := HX13.out.lt
          go_wp2_with fail
          clear Tc0 Tc1 Xc0 Xc1 Tl Xl
          refine (HL3.out _).mono ?_
          rintro e w14x ⟨rfl, hb⟩
          have HB14 := Lib.hid (bC HB13.out hb)
          have HL14 := Lib.hid (HL13.out.below hb)
          have HP14 := Lib.hid (HP13.out.below hb)
          have HQ14 := Lib.hid (HQ13.out.below hb)
          have HT14 := Lib.hid (HT13.out.below hb)
          have HU14 := Lib.hid (HU13.out.below hb)
          have HX14 := Lib.hid (HX13.out.below hb)
          clear hb HB13 HL13 HP13 HQ13 HT13 HU13 HX13
          go_wp2_with fail
          refine (Works_any _ (HN.out.below HB14.out)).mono ?_
          rintro e w15x ⟨rfl, hb⟩
          have HB15 := Lib.hid (bC HB14.out hb)
          have HL15 := Lib.hid (HL14.out.below hb)
          have HP15 := Lib.hid (HP14.out.below hb)
          have HQ15 := Lib.hid (HQ14.out.below hb)
          have HT15 := Lib.hid (HT14.out.below hb)
          have HU15 := Lib.hid (HU14.out.below hb)
          have HX15 := Lib.hid (HX14.out.below hb)
          clear hb HB14 HL14 HP14 HQ14 HT14 HU14 HX14
          go_wp2_with fail
          go_ret
          exact ⟨rfl, HB15.out⟩
        · have e2 : core2 = core + more := by omega
          have hd1 : decide (2000 ≤ core + more) = false := by simp; omega
          subst e2
          clear hcore2
          go_enter Tryd.func10, Tryd.ntmps10
          go_wp2_with fail
          refine (HF.out _ (HV.out.below HB0.out)).mono ?_
          rintro e w1x ⟨rfl, hb⟩
          have HB1 := Lib.hid (bC HB0.out hb)
          have HL1 := Lib.hid (HL0.out.below hb)
          clear hb HB0 HL0
          have Lc0 := HL1.out.cell 0
          have Lc1 := HL1.out.cell 1
          simp at Lc0 Lc1
          have Ll := HL1.out.lt
          go_wp2_with fail
          clear Lc0 Lc1 Ll
          refine (HBG.out _ (HN.out.below HB1.out) (HV.out.below HB1.out)).mono ?_
          rintro e w2x ⟨rfl, hb⟩
          have HB2 := Lib.hid (bC HB1.out hb)
          have HL2 := Lib.hid (HL1.out.below hb)
          clear hb HB1 HL1
          have Lc0 := HL2.out.cell 0
          have Lc1 := HL2.out.cell 1
          simp at Lc0 Lc1
          have Ll := HL2.out.lt
          go_wp2_with fail
          clear Lc0 Lc1 Ll
          have hP := Blk.new w2x (.cells #[.int .i64 n, .int .i64 d] 31)
          have hA := below1 w2x (.cells #[.int .i64 n, .int .i64 d] 31)
          generalize w2x.alloc (.cells #[.int .i64 n, .int .i64 d] 31) = W2x at *
          have HP3 := Lib.hid hP
          clear hP
          have HB3 := Lib.hid (bC HB2.out hA)
          have HL3 := Lib.hid (HL2.out.below hA)
          clear hA HB2 HL2
          refine (HH1.out _ (HV.out.below HB3.out)).mono ?_
          rintro e w4x ⟨rfl, hb⟩
          have HB4 := Lib.hid (bC HB3.out hb)
          have HL4 := Lib.hid (HL3.out.below hb)
          have HP4 := Lib.hid (HP3.out.below hb)
          clear hb HB3 HL3 HP3
          have Lc0 := HL4.out.cell 0
          have Lc1 := HL4.out.cell 1
          simp at Lc0 Lc1
          have Ll := HL4.out.lt
          go_wp2_with fail
          clear Lc0 Lc1 Ll
          have hQ := (Blk.new w4x (.cells #[.int .i64 an, .int .i64 ad] 31)).alloc (.cells #[.int .i64 bn, .int .i64 bd] 31)
          have hT := Blk.new (w4x.alloc (.cells #[.int .i64 an, .int .i64 ad] 31)) (.cells #[.int .i64 bn, .int .i64 bd] 31)
          rw [World.size_alloc] at hT
          have hA := below2 w4x (.cells #[.int .i64 an, .int .i64 ad] 31) (.cells #[.int .i64 bn, .int .i64 bd] 31)
          generalize (w4x.alloc (.cells #[.int .i64 an, .int .i64 ad] 31)).alloc (.cells #[.int .i64 bn, .int .i64 bd] 31) = W4x at *
          have HQ5 := Lib.hid hQ
          have HT5 := Lib.hid hT
          clear hQ hT
          have HB5 := Lib.hid (bC HB4.out hA)
          have HL5 := Lib.hid (HL4.out.below hA)
          have HP5 := Lib.hid (HP4.out.below hA)
          clear hA HB4 HL4 HP4
          refine (HH2.out _ (HV.out.below HB5.out)).mono ?_
          rintro e w6x ⟨rfl, hb⟩
          have HB6 := Lib.hid (bC HB5.out hb)
          have HL6 := Lib.hid (HL5.out.below hb)
          have HP6 := Lib.hid (HP5.out.below hb)
          have HQ6 := Lib.hid (HQ5.out.below hb)
          have HT6 := Lib.hid (HT5.out.below hb)
          clear hb HB5 HL5 HP5 HQ5 HT5
          have Pc0 := HP6.out.cell 0
          have Pc1 := HP6.out.cell 1
          have Qc0 := HQ6.out.cell 0
          have Qc1 := HQ6.out.cell 1
          simp at Pc0 Pc1 Qc0 Qc1
          have Pl := HP6.out.lt
          have Ql := HQ6.out.lt
          go_wp2_with fail
          clear Pc0 Pc1 Qc0 Qc1 Pl Ql
          have hU := (Blk.new w6x (.cells #[.int .i64 cn, .int .i64 cd] 31)).alloc (.cells #[.int .i64 en, .int .i64 ed] 31)
          have hX := Blk.new (w6x.alloc (.cells #[.int .i64 cn, .int .i64 cd] 31)) (.cells #[.int .i64 en, .int .i64 ed] 31)
          rw [World.size_alloc] at hX
          have hA := below2 w6x (.cells #[.int .i64 cn, .int .i64 cd] 31) (.cells #[.int .i64 en, .int .i64 ed] 31)
          generalize (w6x.alloc (.cells #[.int .i64 cn, .int .i64 cd] 31)).alloc (.cells #[.int .i64 en, .int .i64 ed] 31) = W6x at *
          have HU7 := Lib.hid hU
          have HX7 := Lib.hid hX
          clear hU hX
          have HB7 := Lib.hid (bC HB6.out hA)
          have HL7 := Lib.hid (HL6.out.below hA)
          have HP7 := Lib.hid (HP6.out.below hA)
          have HQ7 := Lib.hid (HQ6.out.below hA)
          have HT7 := Lib.hid (HT6.out.below hA)
          clear hA HB6 HL6 HP6 HQ6 HT6
          refine (HFA.out _).mono ?_
          rintro e w8x ⟨rfl, hb⟩
          have HB8 := Lib.hid (bC HB7.out hb)
          have HL8 := Lib.hid (HL7.out.below hb)
          have HP8 := Lib.hid (HP7.out.below hb)
          have HQ8 := Lib.hid (HQ7.out.below hb)
          have HT8 := Lib.hid (HT7.out.below hb)
          have HU8 := Lib.hid (HU7.out.below hb)
          have HX8 := Lib.hid (HX7.out.below hb)
          clear hb HB7 HL7 HP7 HQ7 HT7 HU7 HX7
          have Tc0 := HT8.out.cell 0
          have Tc1 := HT8.out.cell 1
          simp at Tc0 Tc1
          have Tl := HT8.out.lt
          go_wp2_with fail
          clear Tc0 Tc1 Tl
          refine (HFB.out _).mono ?_
          rintro e w9x ⟨rfl, hb⟩
          have HB9 := Lib.hid (bC HB8.out hb)
          have HL9 := Lib.hid (HL8.out.below hb)
          have HP9 := Lib.hid (HP8.out.below hb)
          have HQ9 := Lib.hid (HQ8.out.below hb)
          have HT9 := Lib.hid (HT8.out.below hb)
          have HU9 := Lib.hid (HU8.out.below hb)
          have HX9 := Lib.hid (HX8.out.below hb)
          clear hb HB8 HL8 HP8 HQ8 HT8 HU8 HX8
          have Qc0 := HQ9.out.cell 0
          have Qc1 := HQ9.out.cell 1
          have Tc0 := HT9.out.cell 0
          have Tc1 := HT9.out.cell 1
          simp at Qc0 Qc1 Tc0 Tc1
          have Ql := HQ9.out.lt
          have Tl := HT9.out.lt
          go_wp2_with fail
          clear Qc0 Qc1 Tc0 Tc1 Ql Tl
          refine (HL1.out _).mono ?_
          rintro e w10x ⟨rfl, hb⟩
          have HB10 := Lib.hid (bC HB9.out hb)
          have HL10 := Lib.hid (HL9.out.below hb)
          have HP10 := Lib.hid (HP9.out.below hb)
          have HQ10 := Lib.hid (HQ9.out.below hb)
          have HT10 := Lib.hid (HT9.out.below hb)
          have HU10 := Lib.hid (HU9.out.below hb)
          have HX10 := Lib.hid (HX9.out.below hb)
          clear hb HB9 HL9 HP9 HQ9 HT9 HU9 HX9
          have Uc0 := HU10.out.cell 0
          have Uc1 := HU10.out.cell 1
          simp at Uc0 Uc1
          have Ul := HU10.out.lt
          go_wp2_with fail
          clear Uc0 Uc1 Ul
          refine (HFC.out _).mono ?_
          rintro e w11x ⟨rfl, hb⟩
          have HB11 := Lib.hid (bC HB10.out hb)
          have HL11 := Lib.hid (HL10.out.below hb)
          have HP11 := Lib.hid (HP10.out.below hb)
          have HQ11 := Lib.hid (HQ10.out.below hb)
          have HT11 := Lib.hid (HT10.out.below hb)
          have HU11 := Lib.hid (HU10.out.below hb)
          have HX11 := Lib.hid (HX10.out.below hb)
          clear hb HB10 HL10 HP10 HQ10 HT10 HU10 HX10
          have Xc0 := HX11.out.cell 0
          have Xc1 := HX11.out.cell 1
          simp at Xc0 Xc1
          have Xl := HX11.out.lt
          go_wp2_with fail
          clear Xc0 Xc1 Xl
          refine (HFD.out _).mono ?_
          rintro e w12x ⟨rfl, hb⟩
          have HB12 := Lib.hid (bC HB11.out hb)
          have HL12 := Lib.hid (HL11.out.below hb)
          have HP12 := Lib.hid (HP11.out.below hb)
          have HQ12 := Lib.hid (HQ11.out.below hb)
          have HT12 := Lib.hid (HT11.out.below hb)
          have HU12 := Lib.hid (HU11.out.below hb)
          have HX12 := Lib.hid (HX11.out.below hb)
          clear hb HB11 HL11 HP11 HQ11 HT11 HU11 HX11
          have Uc0 := HU12.out.cell 0
          have Uc1 := HU12.out.cell 1
          have Qc0 := HQ12.out.cell 0
          have Qc1 := HQ12.out.cell 1
          simp at Uc0 Uc1 Qc0 Qc1
          have Ul := HU12.out.lt
          have Ql := HQ12.out.lt
          go_wp2_with fail
          clear Uc0 Uc1 Qc0 Qc1 Ul Ql
          refine (HL2.out _).mono ?_
          rintro e w13x ⟨rfl, hb⟩
          have HB13 := Lib.hid (bC HB12.out hb)
          have HL13 := Lib.hid (HL12.out.below hb)
          have HP13 := Lib.hid (HP12.out.below hb)
          have HQ13 := Lib.hid (HQ12.out.below hb)
          have HT13 := Lib.hid (HT12.out.below hb)
          have HU13 := Lib.hid (HU12.out.below hb)
          have HX13 := Lib.hid (HX12.out.below hb)
          clear hb HB12 HL12 HP12 HQ12 HT12 HU12 HX12
          have Tc0 := HT13.out.cell 0
          have Tc1 := HT13.out.cell 1
          have Xc0 := HX13.out.cell 0
          have Xc1 := HX13.out.cell 1
          simp at Tc0 Tc1 Xc0 Xc1
          have Tl := HT13.out.lt
          have Xl := HX13.out.lt
          go_wp2_with fail
          clear Tc0 Tc1 Xc0 Xc1 Tl Xl
          refine (HL3.out _).mono ?_
          rintro e w14x ⟨rfl, hb⟩
          have HB14 := Lib.hid (bC HB13.out hb)
          have HL14 := Lib.hid (HL13.out.below hb)
          have HP14 := Lib.hid (HP13.out.below hb)
          have HQ14 := Lib.hid (HQ13.out.below hb)
          have HT14 := Lib.hid (HT13.out.below hb)
          have HU14 := Lib.hid (HU13.out.below hb)
          have HX14 := Lib.hid (HX13.out.below hb)
          clear hb HB13 HL13 HP13 HQ13 HT13 HU13 HX13
          go_wp2_with fail
          refine (Works_any _ (HN.out.below HB14.out)).mono ?_
          rintro e w15x ⟨rfl, hb⟩
          have HB15 := Lib.hid (bC HB14.out hb)
          have HL15 := Lib.hid (HL14.out.below hb)
          have HP15 := Lib.hid (HP14.out.below hb)
          have HQ15 := Lib.hid (HQ14.out.below hb)
          have HT15 := Lib.hid (HT14.out.below hb)
          have HU15 := Lib.hid (HU14.out.below hb)
          have HX15 := Lib.hid (HX14.out.below hb)
          clear hb HB14 HL14 HP14 HQ14 HT14 HU14 HX14
          go_wp2_with fail
          go_ret
          exact ⟨rfl, HB15.out⟩
      · obtain ⟨cn, cd, en, ed, eHH2⟩ := he_none h0 (core := core2) (x := x) (by omega) (by omega) (by omega) (by omega) hc2
        have HH2 : Hid (∀ W, LogAt W (.agg #[.slice a l.at_.length cap, .slice a' l.edges.length cap']) l → Calls Tryd.prog 34 #[(.agg #[.slice a l.at_.length cap, .slice a' l.edges.length cap']), .int .i64 core2, .int .i64 x] W (Gets (.tuple #[.agg #[.int .i64 cn, .int .i64 cd], .agg #[.int .i64 en, .int .i64 ed], .int .i64 17]) W)) := Lib.hid (fun W h => by have := Heights_any _ l core2 x W h hS; rw [eHH2] at this; exact this)
        clear fa fb w1 w2 nba V0 v1 v2 v3 v4 hc hc2 eHH1 eHH2
        clear hf hS sv hdb t1 t2 t3 t4 c1 c2 hmul hle hle2 hn hd h0 g1 g2 g3
        by_cases hm : 2000 ≤ core + more
        · have e2 : core2 = 2000 := by omega
          have hd1 : decide (2000 ≤ core + more) = true := by simp; omega
          subst e2
          clear hcore2
          go_enter Tryd.func10, Tryd.ntmps10
          go_wp2_with fail
          refine (HF.out _ (HV.out.below HB0.out)).mono ?_
          rintro e w1x ⟨rfl, hb⟩
          have HB1 := Lib.hid (bC HB0.out hb)
          have HL1 := Lib.hid (HL0.out.below hb)
          clear hb HB0 HL0
          have Lc0 := HL1.out.cell 0
          have Lc1 := HL1.out.cell 1
          simp at Lc0 Lc1
          have Ll := HL1.out.lt
          go_wp2_with fail
          clear Lc0 Lc1 Ll
          refine (HBG.out _ (HN.out.below HB1.out) (HV.out.below HB1.out)).mono ?_
          rintro e w2x ⟨rfl, hb⟩
          have HB2 := Lib.hid (bC HB1.out hb)
          have HL2 := Lib.hid (HL1.out.below hb)
          clear hb HB1 HL1
          have Lc0 := HL2.out.cell 0
          have Lc1 := HL2.out.cell 1
          simp at Lc0 Lc1
          have Ll := HL2.out.lt
          go_wp2_with fail
          clear Lc0 Lc1 Ll
          have hP := Blk.new w2x (.cells #[.int .i64 n, .int .i64 d] 31)
          have hA := below1 w2x (.cells #[.int .i64 n, .int .i64 d] 31)
          generalize w2x.alloc (.cells #[.int .i64 n, .int .i64 d] 31) = W2x at *
          have HP3 := Lib.hid hP
          clear hP
          have HB3 := Lib.hid (bC HB2.out hA)
          have HL3 := Lib.hid (HL2.out.below hA)
          clear hA HB2 HL2
          refine (HH1.out _ (HV.out.below HB3.out)).mono ?_
          rintro e w4x ⟨rfl, hb⟩
          have HB4 := Lib.hid (bC HB3.out hb)
          have HL4 := Lib.hid (HL3.out.below hb)
          have HP4 := Lib.hid (HP3.out.below hb)
          clear hb HB3 HL3 HP3
          have Lc0 := HL4.out.cell 0
          have Lc1 := HL4.out.cell 1
          simp at Lc0 Lc1
          have Ll := HL4.out.lt
          go_wp2_with fail
          clear Lc0 Lc1 Ll
          have hQ := (Blk.new w4x (.cells #[.int .i64 an, .int .i64 ad] 31)).alloc (.cells #[.int .i64 bn, .int .i64 bd] 31)
          have hT := Blk.new (w4x.alloc (.cells #[.int .i64 an, .int .i64 ad] 31)) (.cells #[.int .i64 bn, .int .i64 bd] 31)
          rw [World.size_alloc] at hT
          have hA := below2 w4x (.cells #[.int .i64 an, .int .i64 ad] 31) (.cells #[.int .i64 bn, .int .i64 bd] 31)
          generalize (w4x.alloc (.cells #[.int .i64 an, .int .i64 ad] 31)).alloc (.cells #[.int .i64 bn, .int .i64 bd] 31) = W4x at *
          have HQ5 := Lib.hid hQ
          have HT5 := Lib.hid hT
          clear hQ hT
          have HB5 := Lib.hid (bC HB4.out hA)
          have HL5 := Lib.hid (HL4.out.below hA)
          have HP5 := Lib.hid (HP4.out.below hA)
          clear hA HB4 HL4 HP4
          refine (HH2.out _ (HV.out.below HB5.out)).mono ?_
          rintro e w6x ⟨rfl, hb⟩
          have HB6 := Lib.hid (bC HB5.out hb)
          have HL6 := Lib.hid (HL5.out.below hb)
          have HP6 := Lib.hid (HP5.out.below hb)
          have HQ6 := Lib.hid (HQ5.out.below hb)
          have HT6 := Lib.hid (HT5.out.below hb)
          clear hb HB5 HL5 HP5 HQ5 HT5
          have Pc0 := HP6.out.cell 0
          have Pc1 := HP6.out.cell 1
          have Qc0 := HQ6.out.cell 0
          have Qc1 := HQ6.out.cell 1
          simp at Pc0 Pc1 Qc0 Qc1
          have Pl := HP6.out.lt
          have Ql := HQ6.out.lt
          go_wp2_with fail
          clear Pc0 Pc1 Qc0 Qc1 Pl Ql
          have hU := (Blk.new w6x (.cells #[.int .i64 cn, .int .i64 cd] 31)).alloc (.cells #[.int .i64 en, .int .i64 ed] 31)
          have hX := Blk.new (w6x.alloc (.cells #[.int .i64 cn, .int .i64 cd] 31)) (.cells #[.int .i64 en, .int .i64 ed] 31)
          rw [World.size_alloc] at hX
          have hA := below2 w6x (.cells #[.int .i64 cn, .int .i64 cd] 31) (.cells #[.int .i64 en, .int .i64 ed] 31)
          generalize (w6x.alloc (.cells #[.int .i64 cn, .int .i64 cd] 31)).alloc (.cells #[.int .i64 en, .int .i64 ed] 31) = W6x at *
          have HU7 := Lib.hid hU
          have HX7 := Lib.hid hX
          clear hU hX
          have HB7 := Lib.hid (bC HB6.out hA)
          have HL7 := Lib.hid (HL6.out.below hA)
          have HP7 := Lib.hid (HP6.out.below hA)
          have HQ7 := Lib.hid (HQ6.out.below hA)
          have HT7 := Lib.hid (HT6.out.below hA)
          clear hA HB6 HL6 HP6 HQ6 HT6
          refine (HFA.out _).mono ?_
          rintro e w8x ⟨rfl, hb⟩
          have HB8 := Lib.hid (bC HB7.out hb)
          have HL8 := Lib.hid (HL7.out.below hb)
          have HP8 := Lib.hid (HP7.out.below hb)
          have HQ8 := Lib.hid (HQ7.out.below hb)
          have HT8 := Lib.hid (HT7.out.below hb)
          have HU8 := Lib.hid (HU7.out.below hb)
          have HX8 := Lib.hid (HX7.out.below hb)
          clear hb HB7 HL7 HP7 HQ7 HT7 HU7 HX7
          have Tc0 := HT8.out.cell 0
          have Tc1 := HT8.out.cell 1
          simp at Tc0 Tc1
          have Tl := HT8.out.lt
          go_wp2_with fail
          clear Tc0 Tc1 Tl
          refine (HFB.out _).mono ?_
          rintro e w9x ⟨rfl, hb⟩
          have HB9 := Lib.hid (bC HB8.out hb)
          have HL9 := Lib.hid (HL8.out.below hb)
          have HP9 := Lib.hid (HP8.out.below hb)
          have HQ9 := Lib.hid (HQ8.out.below hb)
          have HT9 := Lib.hid (HT8.out.below hb)
          have HU9 := Lib.hid (HU8.out.below hb)
          have HX9 := Lib.hid (HX8.out.below hb)
          clear hb HB8 HL8 HP8 HQ8 HT8 HU8 HX8
          have Qc0 := HQ9.out.cell 0
          have Qc1 := HQ9.out.cell 1
          have Tc0 := HT9.out.cell 0
          have Tc1 := HT9.out.cell 1
          simp at Qc0 Qc1 Tc0 Tc1
          have Ql := HQ9.out.lt
          have Tl := HT9.out.lt
          go_wp2_with fail
          clear Qc0 Qc1 Tc0 Tc1 Ql Tl
          refine (HL1.out _).mono ?_
          rintro e w10x ⟨rfl, hb⟩
          have HB10 := Lib.hid (bC HB9.out hb)
          have HL10 := Lib.hid (HL9.out.below hb)
          have HP10 := Lib.hid (HP9.out.below hb)
          have HQ10 := Lib.hid (HQ9.out.below hb)
          have HT10 := Lib.hid (HT9.out.below hb)
          have HU10 := Lib.hid (HU9.out.below hb)
          have HX10 := Lib.hid (HX9.out.below hb)
          clear hb HB9 HL9 HP9 HQ9 HT9 HU9 HX9
          go_wp2_with fail
          refine (Works_any _ (HN.out.below HB10.out)).mono ?_
          rintro e w11x ⟨rfl, hb⟩
          have HB11 := Lib.hid (bC HB10.out hb)
          have HL11 := Lib.hid (HL10.out.below hb)
          have HP11 := Lib.hid (HP10.out.below hb)
          have HQ11 := Lib.hid (HQ10.out.below hb)
          have HT11 := Lib.hid (HT10.out.below hb)
          have HU11 := Lib.hid (HU10.out.below hb)
          have HX11 := Lib.hid (HX10.out.below hb)
          clear hb HB10 HL10 HP10 HQ10 HT10 HU10 HX10
          go_wp2_with fail
          go_ret
          exact ⟨rfl, HB11.out⟩
        · have e2 : core2 = core + more := by omega
          have hd1 : decide (2000 ≤ core + more) = false := by simp; omega
          subst e2
          clear hcore2
          go_enter Tryd.func10, Tryd.ntmps10
          go_wp2_with fail
          refine (HF.out _ (HV.out.below HB0.out)).mono ?_
          rintro e w1x ⟨rfl, hb⟩
          have HB1 := Lib.hid (bC HB0.out hb)
          have HL1 := Lib.hid (HL0.out.below hb)
          clear hb HB0 HL0
          have Lc0 := HL1.out.cell 0
          have Lc1 := HL1.out.cell 1
          simp at Lc0 Lc1
          have Ll := HL1.out.lt
          go_wp2_with fail
          clear Lc0 Lc1 Ll
          refine (HBG.out _ (HN.out.below HB1.out) (HV.out.below HB1.out)).mono ?_
          rintro e w2x ⟨rfl, hb⟩
          have HB2 := Lib.hid (bC HB1.out hb)
          have HL2 := Lib.hid (HL1.out.below hb)
          clear hb HB1 HL1
          have Lc0 := HL2.out.cell 0
          have Lc1 := HL2.out.cell 1
          simp at Lc0 Lc1
          have Ll := HL2.out.lt
          go_wp2_with fail
          clear Lc0 Lc1 Ll
          have hP := Blk.new w2x (.cells #[.int .i64 n, .int .i64 d] 31)
          have hA := below1 w2x (.cells #[.int .i64 n, .int .i64 d] 31)
          generalize w2x.alloc (.cells #[.int .i64 n, .int .i64 d] 31) = W2x at *
          have HP3 := Lib.hid hP
          clear hP
          have HB3 := Lib.hid (bC HB2.out hA)
          have HL3 := Lib.hid (HL2.out.below hA)
          clear hA HB2 HL2
          refine (HH1.out _ (HV.out.below HB3.out)).mono ?_
          rintro e w4x ⟨rfl, hb⟩
          have HB4 := Lib.hid (bC HB3.out hb)
          have HL4 := Lib.hid (HL3.out.below hb)
          have HP4 := Lib.hid (HP3.out.below hb)
          clear hb HB3 HL3 HP3
          have Lc0 := HL4.out.cell 0
          have Lc1 := HL4.out.cell 1
          simp at Lc0 Lc1
          have Ll := HL4.out.lt
          go_wp2_with fail
          clear Lc0 Lc1 Ll
          have hQ := (Blk.new w4x (.cells #[.int .i64 an, .int .i64 ad] 31)).alloc (.cells #[.int .i64 bn, .int .i64 bd] 31)
          have hT := Blk.new (w4x.alloc (.cells #[.int .i64 an, .int .i64 ad] 31)) (.cells #[.int .i64 bn, .int .i64 bd] 31)
          rw [World.size_alloc] at hT
          have hA := below2 w4x (.cells #[.int .i64 an, .int .i64 ad] 31) (.cells #[.int .i64 bn, .int .i64 bd] 31)
          generalize (w4x.alloc (.cells #[.int .i64 an, .int .i64 ad] 31)).alloc (.cells #[.int .i64 bn, .int .i64 bd] 31) = W4x at *
          have HQ5 := Lib.hid hQ
          have HT5 := Lib.hid hT
          clear hQ hT
          have HB5 := Lib.hid (bC HB4.out hA)
          have HL5 := Lib.hid (HL4.out.below hA)
          have HP5 := Lib.hid (HP4.out.below hA)
          clear hA HB4 HL4 HP4
          refine (HH2.out _ (HV.out.below HB5.out)).mono ?_
          rintro e w6x ⟨rfl, hb⟩
          have HB6 := Lib.hid (bC HB5.out hb)
          have HL6 := Lib.hid (HL5.out.below hb)
          have HP6 := Lib.hid (HP5.out.below hb)
          have HQ6 := Lib.hid (HQ5.out.below hb)
          have HT6 := Lib.hid (HT5.out.below hb)
          clear hb HB5 HL5 HP5 HQ5 HT5
          have Pc0 := HP6.out.cell 0
          have Pc1 := HP6.out.cell 1
          have Qc0 := HQ6.out.cell 0
          have Qc1 := HQ6.out.cell 1
          simp at Pc0 Pc1 Qc0 Qc1
          have Pl := HP6.out.lt
          have Ql := HQ6.out.lt
          go_wp2_with fail
          clear Pc0 Pc1 Qc0 Qc1 Pl Ql
          have hU := (Blk.new w6x (.cells #[.int .i64 cn, .int .i64 cd] 31)).alloc (.cells #[.int .i64 en, .int .i64 ed] 31)
          have hX := Blk.new (w6x.alloc (.cells #[.int .i64 cn, .int .i64 cd] 31)) (.cells #[.int .i64 en, .int .i64 ed] 31)
          rw [World.size_alloc] at hX
          have hA := below2 w6x (.cells #[.int .i64 cn, .int .i64 cd] 31) (.cells #[.int .i64 en, .int .i64 ed] 31)
          generalize (w6x.alloc (.cells #[.int .i64 cn, .int .i64 cd] 31)).alloc (.cells #[.int .i64 en, .int .i64 ed] 31) = W6x at *
          have HU7 := Lib.hid hU
          have HX7 := Lib.hid hX
          clear hU hX
          have HB7 := Lib.hid (bC HB6.out hA)
          have HL7 := Lib.hid (HL6.out.below hA)
          have HP7 := Lib.hid (HP6.out.below hA)
          have HQ7 := Lib.hid (HQ6.out.below hA)
          have HT7 := Lib.hid (HT6.out.below hA)
          clear hA HB6 HL6 HP6 HQ6 HT6
          refine (HFA.out _).mono ?_
          rintro e w8x ⟨rfl, hb⟩
          have HB8 := Lib.hid (bC HB7.out hb)
          have HL8 := Lib.hid (HL7.out.below hb)
          have HP8 := Lib.hid (HP7.out.below hb)
          have HQ8 := Lib.hid (HQ7.out.below hb)
          have HT8 := Lib.hid (HT7.out.below hb)
          have HU8 := Lib.hid (HU7.out.below hb)
          have HX8 := Lib.hid (HX7.out.below hb)
          clear hb HB7 HL7 HP7 HQ7 HT7 HU7 HX7
          have Tc0 := HT8.out.cell 0
          have Tc1 := HT8.out.cell 1
          simp at Tc0 Tc1
          have Tl := HT8.out.lt
          go_wp2_with fail
          clear Tc0 Tc1 Tl
          refine (HFB.out _).mono ?_
          rintro e w9x ⟨rfl, hb⟩
          have HB9 := Lib.hid (bC HB8.out hb)
          have HL9 := Lib.hid (HL8.out.below hb)
          have HP9 := Lib.hid (HP8.out.below hb)
          have HQ9 := Lib.hid (HQ8.out.below hb)
          have HT9 := Lib.hid (HT8.out.below hb)
          have HU9 := Lib.hid (HU8.out.below hb)
          have HX9 := Lib.hid (HX8.out.below hb)
          clear hb HB8 HL8 HP8 HQ8 HT8 HU8 HX8
          have Qc0 := HQ9.out.cell 0
          have Qc1 := HQ9.out.cell 1
          have Tc0 := HT9.out.cell 0
          have Tc1 := HT9.out.cell 1
          simp at Qc0 Qc1 Tc0 Tc1
          have Ql := HQ9.out.lt
          have Tl := HT9.out.lt
          go_wp2_with fail
          clear Qc0 Qc1 Tc0 Tc1 Ql Tl
          refine (HL1.out _).mono ?_
          rintro e w10x ⟨rfl, hb⟩
          have HB10 := Lib.hid (bC HB9.out hb)
          have HL10 := Lib.hid (HL9.out.below hb)
          have HP10 := Lib.hid (HP9.out.below hb)
          have HQ10 := Lib.hid (HQ9.out.below hb)
          have HT10 := Lib.hid (HT9.out.below hb)
          have HU10 := Lib.hid (HU9.out.below hb)
          have HX10 := Lib.hid (HX9.out.below hb)
          clear hb HB9 HL9 HP9 HQ9 HT9 HU9 HX9
          go_wp2_with fail
          refine (Works_any _ (HN.out.below HB10.out)).mono ?_
          rintro e w11x ⟨rfl, hb⟩
          have HB11 := Lib.hid (bC HB10.out hb)
          have HL11 := Lib.hid (HL10.out.below hb)
          have HP11 := Lib.hid (HP10.out.below hb)
          have HQ11 := Lib.hid (HQ10.out.below hb)
          have HT11 := Lib.hid (HT10.out.below hb)
          have HU11 := Lib.hid (HU10.out.below hb)
          have HX11 := Lib.hid (HX10.out.below hb)
          clear hb HB10 HL10 HP10 HQ10 HT10 HU10 HX10
          go_wp2_with fail
          go_ret
          exact ⟨rfl, HB11.out⟩
    · obtain ⟨an, ad, bn, bd, eHH1⟩ := he_none h0 (core := core) (x := x) (by omega) (by omega) (by omega) (by omega) hc
      obtain ⟨cn, cd, en, ed, eHH2⟩ := he_none h0 (core := core2) (x := x) (by omega) (by omega) (by omega) (by omega) (fun h => hc (Rat.le_trans hle2 h))
      have HH1 : Hid (∀ W, LogAt W (.agg #[.slice a l.at_.length cap, .slice a' l.edges.length cap']) l → Calls Tryd.prog 34 #[(.agg #[.slice a l.at_.length cap, .slice a' l.edges.length cap']), .int .i64 core, .int .i64 x] W (Gets (.tuple #[.agg #[.int .i64 an, .int .i64 ad], .agg #[.int .i64 bn, .int .i64 bd], .int .i64 17]) W)) := Lib.hid (fun W h => by have := Heights_any _ l core x W h hS; rw [eHH1] at this; exact this)
      have HH2 : Hid (∀ W, LogAt W (.agg #[.slice a l.at_.length cap, .slice a' l.edges.length cap']) l → Calls Tryd.prog 34 #[(.agg #[.slice a l.at_.length cap, .slice a' l.edges.length cap']), .int .i64 core2, .int .i64 x] W (Gets (.tuple #[.agg #[.int .i64 cn, .int .i64 cd], .agg #[.int .i64 en, .int .i64 ed], .int .i64 17]) W)) := Lib.hid (fun W h => by have := Heights_any _ l core2 x W h hS; rw [eHH2] at this; exact this)
      have k1 : decide (core * d ≤ n) = false := decide_eq_false (fun h => hc (hle.2 h))
      clear hc eHH1 eHH2
      clear hf hS sv hdb t1 t2 t3 t4 c1 c2 hmul hle hle2 hn hd h0 g1 g2 g3
      by_cases hm : 2000 ≤ core + more
      · have e2 : core2 = 2000 := by omega
        have hd1 : decide (2000 ≤ core + more) = true := by simp; omega
        subst e2
        clear hcore2
        go_enter Tryd.func10, Tryd.ntmps10
        go_wp2_with fail
        refine (HF.out _ (HV.out.below HB0.out)).mono ?_
        rintro e w1x ⟨rfl, hb⟩
        have HB1 := Lib.hid (bC HB0.out hb)
        have HL1 := Lib.hid (HL0.out.below hb)
        clear hb HB0 HL0
        have Lc0 := HL1.out.cell 0
        have Lc1 := HL1.out.cell 1
        simp at Lc0 Lc1
        have Ll := HL1.out.lt
        go_wp2_with fail
        clear Lc0 Lc1 Ll
        refine (HBG.out _ (HN.out.below HB1.out) (HV.out.below HB1.out)).mono ?_
        rintro e w2x ⟨rfl, hb⟩
        have HB2 := Lib.hid (bC HB1.out hb)
        have HL2 := Lib.hid (HL1.out.below hb)
        clear hb HB1 HL1
        have Lc0 := HL2.out.cell 0
        have Lc1 := HL2.out.cell 1
        simp at Lc0 Lc1
        have Ll := HL2.out.lt
        go_wp2_with fail
        clear Lc0 Lc1 Ll
        have hP := Blk.new w2x (.cells #[.int .i64 n, .int .i64 d] 31)
        have hA := below1 w2x (.cells #[.int .i64 n, .int .i64 d] 31)
        generalize w2x.alloc (.cells #[.int .i64 n, .int .i64 d] 31) = W2x at *
        have HP3 := Lib.hid hP
        clear hP
        have HB3 := Lib.hid (bC HB2.out hA)
        have HL3 := Lib.hid (HL2.out.below hA)
        clear hA HB2 HL2
        refine (HH1.out _ (HV.out.below HB3.out)).mono ?_
        rintro e w4x ⟨rfl, hb⟩
        have HB4 := Lib.hid (bC HB3.out hb)
        have HL4 := Lib.hid (HL3.out.below hb)
        have HP4 := Lib.hid (HP3.out.below hb)
        clear hb HB3 HL3 HP3
        have Lc0 := HL4.out.cell 0
        have Lc1 := HL4.out.cell 1
        simp at Lc0 Lc1
        have Ll := HL4.out.lt
        go_wp2_with fail
        clear Lc0 Lc1 Ll
        have hQ := (Blk.new w4x (.cells #[.int .i64 an, .int .i64 ad] 31)).alloc (.cells #[.int .i64 bn, .int .i64 bd] 31)
        have hT := Blk.new (w4x.alloc (.cells #[.int .i64 an, .int .i64 ad] 31)) (.cells #[.int .i64 bn, .int .i64 bd] 31)
        rw [World.size_alloc] at hT
        have hA := below2 w4x (.cells #[.int .i64 an, .int .i64 ad] 31) (.cells #[.int .i64 bn, .int .i64 bd] 31)
        generalize (w4x.alloc (.cells #[.int .i64 an, .int .i64 ad] 31)).alloc (.cells #[.int .i64 bn, .int .i64 bd] 31) = W4x at *
        have HQ5 := Lib.hid hQ
        have HT5 := Lib.hid hT
        clear hQ hT
        have HB5 := Lib.hid (bC HB4.out hA)
        have HL5 := Lib.hid (HL4.out.below hA)
        have HP5 := Lib.hid (HP4.out.below hA)
        clear hA HB4 HL4 HP4
        refine (HH2.out _ (HV.out.below HB5.out)).mono ?_
        rintro e w6x ⟨rfl, hb⟩
        have HB6 := Lib.hid (bC HB5.out hb)
        have HL6 := Lib.hid (HL5.out.below hb)
        have HP6 := Lib.hid (HP5.out.below hb)
        have HQ6 := Lib.hid (HQ5.out.below hb)
        have HT6 := Lib.hid (HT5.out.below hb)
        clear hb HB5 HL5 HP5 HQ5 HT5
        have Pc0 := HP6.out.cell 0
        have Pc1 := HP6.out.cell 1
        simp at Pc0 Pc1
        have Pl := HP6.out.lt
        go_wp2_with fail
        clear Pc0 Pc1 Pl
        have hU := (Blk.new w6x (.cells #[.int .i64 cn, .int .i64 cd] 31)).alloc (.cells #[.int .i64 en, .int .i64 ed] 31)
        have hX := Blk.new (w6x.alloc (.cells #[.int .i64 cn, .int .i64 cd] 31)) (.cells #[.int .i64 en, .int .i64 ed] 31)
        rw [World.size_alloc] at hX
        have hA := below2 w6x (.cells #[.int .i64 cn, .int .i64 cd] 31) (.cells #[.int .i64 en, .int .i64 ed] 31)
        generalize (w6x.alloc (.cells #[.int .i64 cn, .int .i64 cd] 31)).alloc (.cells #[.int .i64 en, .int .i64 ed] 31) = W6x at *
        have HU7 := Lib.hid hU
        have HX7 := Lib.hid hX
        clear hU hX
        have HB7 := Lib.hid (bC HB6.out hA)
        have HL7 := Lib.hid (HL6.out.below hA)
        have HP7 := Lib.hid (HP6.out.below hA)
        have HQ7 := Lib.hid (HQ6.out.below hA)
        have HT7 := Lib.hid (HT6.out.below hA)
        clear hA HB6 HL6 HP6 HQ6 HT6
        refine (Works_any _ (HN.out.below HB7.out)).mono ?_
        rintro e w8x ⟨rfl, hb⟩
        have HB8 := Lib.hid (bC HB7.out hb)
        have HL8 := Lib.hid (HL7.out.below hb)
        have HP8 := Lib.hid (HP7.out.below hb)
        have HQ8 := Lib.hid (HQ7.out.below hb)
        have HT8 := Lib.hid (HT7.out.below hb)
        have HU8 := Lib.hid (HU7.out.below hb)
        have HX8 := Lib.hid (HX7.out.below hb)
        clear hb HB7 HL7 HP7 HQ7 HT7 HU7 HX7
        go_wp2_with fail
        go_ret
        exact ⟨rfl, HB8.out⟩
      · have e2 : core2 = core + more := by omega
        have hd1 : decide (2000 ≤ core + more) = false := by simp; omega
        subst e2
        clear hcore2
        go_enter Tryd.func10, Tryd.ntmps10
        go_wp2_with fail
        refine (HF.out _ (HV.out.below HB0.out)).mono ?_
        rintro e w1x ⟨rfl, hb⟩
        have HB1 := Lib.hid (bC HB0.out hb)
        have HL1 := Lib.hid (HL0.out.below hb)
        clear hb HB0 HL0
        have Lc0 := HL1.out.cell 0
        have Lc1 := HL1.out.cell 1
        simp at Lc0 Lc1
        have Ll := HL1.out.lt
        go_wp2_with fail
        clear Lc0 Lc1 Ll
        refine (HBG.out _ (HN.out.below HB1.out) (HV.out.below HB1.out)).mono ?_
        rintro e w2x ⟨rfl, hb⟩
        have HB2 := Lib.hid (bC HB1.out hb)
        have HL2 := Lib.hid (HL1.out.below hb)
        clear hb HB1 HL1
        have Lc0 := HL2.out.cell 0
        have Lc1 := HL2.out.cell 1
        simp at Lc0 Lc1
        have Ll := HL2.out.lt
        go_wp2_with fail
        clear Lc0 Lc1 Ll
        have hP := Blk.new w2x (.cells #[.int .i64 n, .int .i64 d] 31)
        have hA := below1 w2x (.cells #[.int .i64 n, .int .i64 d] 31)
        generalize w2x.alloc (.cells #[.int .i64 n, .int .i64 d] 31) = W2x at *
        have HP3 := Lib.hid hP
        clear hP
        have HB3 := Lib.hid (bC HB2.out hA)
        have HL3 := Lib.hid (HL2.out.below hA)
        clear hA HB2 HL2
        refine (HH1.out _ (HV.out.below HB3.out)).mono ?_
        rintro e w4x ⟨rfl, hb⟩
        have HB4 := Lib.hid (bC HB3.out hb)
        have HL4 := Lib.hid (HL3.out.below hb)
        have HP4 := Lib.hid (HP3.out.below hb)
        clear hb HB3 HL3 HP3
        have Lc0 := HL4.out.cell 0
        have Lc1 := HL4.out.cell 1
        simp at Lc0 Lc1
        have Ll := HL4.out.lt
        go_wp2_with fail
        clear Lc0 Lc1 Ll
        have hQ := (Blk.new w4x (.cells #[.int .i64 an, .int .i64 ad] 31)).alloc (.cells #[.int .i64 bn, .int .i64 bd] 31)
        have hT := Blk.new (w4x.alloc (.cells #[.int .i64 an, .int .i64 ad] 31)) (.cells #[.int .i64 bn, .int .i64 bd] 31)
        rw [World.size_alloc] at hT
        have hA := below2 w4x (.cells #[.int .i64 an, .int .i64 ad] 31) (.cells #[.int .i64 bn, .int .i64 bd] 31)
        generalize (w4x.alloc (.cells #[.int .i64 an, .int .i64 ad] 31)).alloc (.cells #[.int .i64 bn, .int .i64 bd] 31) = W4x at *
        have HQ5 := Lib.hid hQ
        have HT5 := Lib.hid hT
        clear hQ hT
        have HB5 := Lib.hid (bC HB4.out hA)
        have HL5 := Lib.hid (HL4.out.below hA)
        have HP5 := Lib.hid (HP4.out.below hA)
        clear hA HB4 HL4 HP4
        refine (HH2.out _ (HV.out.below HB5.out)).mono ?_
        rintro e w6x ⟨rfl, hb⟩
        have HB6 := Lib.hid (bC HB5.out hb)
        have HL6 := Lib.hid (HL5.out.below hb)
        have HP6 := Lib.hid (HP5.out.below hb)
        have HQ6 := Lib.hid (HQ5.out.below hb)
        have HT6 := Lib.hid (HT5.out.below hb)
        clear hb HB5 HL5 HP5 HQ5 HT5
        have Pc0 := HP6.out.cell 0
        have Pc1 := HP6.out.cell 1
        simp at Pc0 Pc1
        have Pl := HP6.out.lt
        go_wp2_with fail
        clear Pc0 Pc1 Pl
        have hU := (Blk.new w6x (.cells #[.int .i64 cn, .int .i64 cd] 31)).alloc (.cells #[.int .i64 en, .int .i64 ed] 31)
        have hX := Blk.new (w6x.alloc (.cells #[.int .i64 cn, .int .i64 cd] 31)) (.cells #[.int .i64 en, .int .i64 ed] 31)
        rw [World.size_alloc] at hX
        have hA := below2 w6x (.cells #[.int .i64 cn, .int .i64 cd] 31) (.cells #[.int .i64 en, .int .i64 ed] 31)
        generalize (w6x.alloc (.cells #[.int .i64 cn, .int .i64 cd] 31)).alloc (.cells #[.int .i64 en, .int .i64 ed] 31) = W6x at *
        have HU7 := Lib.hid hU
        have HX7 := Lib.hid hX
        clear hU hX
        have HB7 := Lib.hid (bC HB6.out hA)
        have HL7 := Lib.hid (HL6.out.below hA)
        have HP7 := Lib.hid (HP6.out.below hA)
        have HQ7 := Lib.hid (HQ6.out.below hA)
        have HT7 := Lib.hid (HT6.out.below hA)
        clear hA HB6 HL6 HP6 HQ6 HT6
        refine (Works_any _ (HN.out.below HB7.out)).mono ?_
        rintro e w8x ⟨rfl, hb⟩
        have HB8 := Lib.hid (bC HB7.out hb)
        have HL8 := Lib.hid (HL7.out.below hb)
        have HP8 := Lib.hid (HP7.out.below hb)
        have HQ8 := Lib.hid (HQ7.out.below hb)
        have HT8 := Lib.hid (HT7.out.below hb)
        have HU8 := Lib.hid (HU7.out.below hb)
        have HX8 := Lib.hid (HX7.out.below hb)
        clear hb HB7 HL7 HP7 HQ7 HT7 HU7 HX7
        go_wp2_with fail
        go_ret
        exact ⟨rfl, HB8.out⟩
  · have HF : Hid (∀ W, LogAt W (.agg #[.slice a l.at_.length cap, .slice a' l.edges.length cap']) l → Calls Tryd.prog 41 #[(.agg #[.slice a l.at_.length cap, .slice a' l.edges.length cap'])] W (Gets (.bool false) W)) := Lib.hid (fun W h => by have := fine_any _ l W h; rw [decide_eq_false h0] at this; exact this)
    clear h0 g1 g2 g3
    go_enter Tryd.func10, Tryd.ntmps10
    go_wp2_with fail
    refine (HF.out _ (HV.out.below HB0.out)).mono ?_
    rintro e w1x ⟨rfl, hb⟩
    have HB1 := Lib.hid (bC HB0.out hb)
    have HL1 := Lib.hid (HL0.out.below hb)
    clear hb HB0 HL0
    go_wp2_with fail
    refine (Works_any _ (HN.out.below HB1.out)).mono ?_
    rintro e w2x ⟨rfl, hb⟩
    have HB2 := Lib.hid (bC HB1.out hb)
    have HL2 := Lib.hid (HL1.out.below hb)
    clear hb HB1 HL1
    go_wp2_with fail
    go_ret
    exact ⟨rfl, HB2.out⟩
end Go.Proofs.YtclbnamlkfgedaaDoor
