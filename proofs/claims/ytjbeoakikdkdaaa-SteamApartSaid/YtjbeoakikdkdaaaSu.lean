import Derived.Test.YtjbeoakikdkdaaaSt
namespace Go.Proofs.Ytjbeoakikdkdaaa
open Go.RowKit Go.Vat Go.Sort Go.Shelf

/-! ## Closed values: the examples of the chapter -/
def fiveY : YardD := ⟨2, [(2, 5), (3, 4), (4, 8), (6, 9), (7, 7)]⟩
def noneY : YardD := ⟨1, []⟩
theorem five_ok : fiveY.Ok := yardErr_zero (by kernel_rfl)
theorem none_ok : noneY.Ok := yardErr_zero (by kernel_rfl)
set_option maxRecDepth 100000 in
theorem wv_h1 : hoursV fiveY [2, 4, 4, 7, 7] = 3 ∧ hoursErr fiveY [2, 4, 4, 7, 7] = 0 := by constructor <;> kernel_rfl
set_option maxRecDepth 100000 in
theorem wv_h2 : hoursV fiveY [2, 4, 4, 6, 7] = 4 ∧ hoursErr fiveY [2, 4, 4, 6, 7] = 0 := by constructor <;> kernel_rfl
theorem wv_h3 : hoursV fiveY [2, 4, 4, 7] = 0 ∧ hoursErr fiveY [2, 4, 4, 7] = 15 := by constructor <;> kernel_rfl
theorem wv_h4 : hoursV fiveY [2, 4, 4, 7, 8] = 0 ∧ hoursErr fiveY [2, 4, 4, 7, 8] = 19 := by constructor <;> kernel_rfl
theorem wv_U10 : U fiveY 10 = 3 := by kernel_rfl
theorem wv_U : U fiveY 101 = 3 := by
  rw [U_const (m := 10) (fun l hl => by
    simp only [fiveY, List.mem_cons, List.not_mem_nil, or_false] at hl
    rcases hl with rfl | rfl | rfl | rfl | rfl <;> decide) (by omega), wv_U10]
theorem wv_U0 : U noneY 101 = 0 := U_empty none_ok 101
set_option maxRecDepth 100000 in
theorem wv_late : lateL fiveY = [4, 7, 9] := by kernel_rfl
set_option maxRecDepth 100000 in
theorem wv_early : earlyL fiveY = [2, 4, 7] := by kernel_rfl
set_option maxRecDepth 100000 in
theorem wv_keep2 : keepL fiveY 2 = [0, 1, 2, 3] := by kernel_rfl
theorem wv_need : need fiveY 2 9 = 3 ∧ need fiveY 6 9 = 1 ∧ need fiveY 5 5 = 0 := by refine ⟨?_, ?_, ?_⟩ <;> kernel_rfl
theorem wv_p1 : proofV fiveY [(2, 5), (6, 9)] = 2 ∧ proofErr fiveY [(2, 5), (6, 9)] = 0 := by constructor <;> kernel_rfl
theorem wv_p2 : proofV fiveY [(2, 5), (5, 9)] = 0 ∧ proofErr fiveY [(2, 5), (5, 9)] = 16 := by constructor <;> kernel_rfl
theorem wv_p3 : proofV fiveY [(2, 9)] = 3 ∧ proofErr fiveY [(2, 9)] = 0 := by constructor <;> kernel_rfl
theorem wv_p4 : proofV fiveY [] = 0 ∧ proofErr fiveY [] = 0 := by constructor <;> kernel_rfl
theorem wv_h5 : hoursV fiveY [5, 4, 4, 7, 7] = 3 ∧ hoursErr fiveY [5, 4, 4, 7, 7] = 0 := by constructor <;> kernel_rfl
theorem wv_h6 : hoursV noneY [] = 0 ∧ hoursErr noneY [] = 0 := by constructor <;> kernel_rfl
theorem wv_late0 : lateL noneY = [] := by kernel_rfl
theorem wv_keep1 : keepL fiveY 1 = [0, 1] := by kernel_rfl
theorem wv_keep3 : keepL fiveY 3 = [0, 1, 2, 3, 4] := by kernel_rfl
theorem wv_keep0 : keepL fiveY 0 = [] := by kernel_rfl
set_option maxRecDepth 100000 in
theorem wv_proof : proofL fiveY = [(2, 9)] := by kernel_rfl
/-- The proof that is returned proves the fewest loads. -/
theorem pfB_snoc : ∀ (ws : List (Int × Int)) (nx : Int) (x : Int × Int), pfB nx ws = true → nx ≤ x.1 → (∀ z ∈ ws, z.2 < x.1) → pfB nx (ws ++ [x]) = true
  | [], nx, x, _, h, _ => by simp [pfB, h]
  | z :: ws, nx, x, h, _, hz => by
    rw [pfB, Bool.and_eq_true, decide_eq_true_eq] at h
    rw [List.cons_append, pfB, Bool.and_eq_true, decide_eq_true_eq]
    exact ⟨h.1, pfB_snoc ws (z.2 + 1) x h.2 (by have := hz z List.mem_cons_self; omega) fun q hq => hz q (List.mem_cons_of_mem _ hq)⟩
theorem pick_spec {y : YardD} {h : Nat} : (∀ x, pick y h = some x → x ∈ wins y h ∧ need y x.1 x.2 ≠ 0 ∧ U y x.1.toNat + need y x.1 x.2 = U y (h + 1)) ∧ (pick y h = none → U y (h + 1) = U y h) := by
  constructor
  · intro x e
    unfold pick at e
    have h1 := List.mem_of_find?_eq_some e
    have h2 := List.find?_some e
    unfold pickB at h2
    simp only [Bool.and_eq_true, decide_eq_true_eq] at h2
    exact ⟨h1, h2.1, h2.2⟩
  · intro e
    rcases U_cases y h with c | ⟨w, hw, c⟩
    · exact c
    · unfold pick at e
      have h1 := List.find?_eq_none.1 e w hw
      unfold pickB at h1
      simp only [Bool.and_eq_true, decide_eq_true_eq, not_and] at h1
      by_cases hn : need y w.1 w.2 = 0
      · have h2 := U_mono y (a := w.1.toNat) (b := h) (by
          obtain ⟨_, _, l, _, h3, h4⟩ := wins_iff.1 hw
          omega)
        have h3 := U_step y h
        omega
      · exact absurd c.symm (h1 hn)
theorem prF_spec {y : YardD} (hy : y.Ok) : ∀ (f h : Nat), h ≤ f → h ≤ 101 → pfSum y (prF y f h) = U y h ∧ (∀ z ∈ prF y f h, okWin z = true ∧ z.2 < h) ∧ pfB 0 (prF y f h).reverse = true ∧ ((prF y f h).length : Int) ≤ U y h
  | 0, h, hf, _ => by
    obtain rfl : h = 0 := by omega
    exact ⟨by simp [prF, pfSum, U_zero], by simp [prF], by simp [prF, pfB], by simp [prF, U_zero]⟩
  | f + 1, 0, _, _ => ⟨by simp [prF, pfSum, U_zero], by simp [prF], by simp [prF, pfB], by simp [prF, U_zero]⟩
  | f + 1, h + 1, hf, hh => by
    cases e : pick y h with
    | none =>
      rw [prF_none e, (pick_spec.2 e)]
      obtain ⟨h1, h2, h3, h4⟩ := prF_spec hy f h (by omega) (by omega)
      exact ⟨h1, fun z hz => ⟨(h2 z hz).1, by have := (h2 z hz).2; omega⟩, h3, h4⟩
    | some x =>
      obtain ⟨hx, hn, hu⟩ := pick_spec.1 x e
      obtain ⟨⟨q, hq, hq2⟩, hx2, l, hl, hl2, hl3⟩ := wins_iff.1 hx
      have hlo := hy.log l hl
      rw [prF_some e]
      obtain ⟨h1, h2, h3, h4⟩ := prF_spec hy f x.1.toNat (by omega) (by omega)
      have hnn := need_nonneg hy.l1 x.1 x.2
      refine ⟨by rw [pfSum, h1]; omega, fun z hz => ?_, ?_, ?_⟩
      · rcases List.mem_cons.1 hz with rfl | hz
        · exact ⟨(okWin_iff z.1 z.2).2 (by omega), by omega⟩
        · exact ⟨(h2 z hz).1, by have := (h2 z hz).2; omega⟩
      · rw [List.reverse_cons]
        exact pfB_snoc _ 0 x h3 (by omega) fun z hz => by have := (h2 z (by simpa using hz)).2; omega
      · rw [List.length_cons]
        omega
theorem pfSum_rev (y : YardD) (ws : List (Int × Int)) : pfSum y ws.reverse = pfSum y ws := by
  induction ws with
  | nil => rfl
  | cons x ws ih => rw [List.reverse_cons, pfSum_append, ih, pfSum, pfSum, pfSum]; omega
theorem proofL_good {y : YardD} (hy : y.Ok) : proofErr y (proofL y) = 0 ∧ proofV y (proofL y) = U y 101 ∧ (proofL y).length ≤ 10 := by
  obtain ⟨h1, h2, h3, h4⟩ := prF_spec hy 101 101 (Nat.le_refl _) (Nat.le_refl _)
  have hl : (proofL y).length ≤ 10 := by
    unfold proofL
    rw [List.length_reverse]
    have := U_len hy 101
    have := hy.count
    omega
  have he : proofErr y (proofL y) = 0 := by
    rw [proofErr_ok hy]
    unfold proofErr0
    rw [if_neg (by omega), if_pos (List.all_eq_true.2 fun z hz => (h2 z (by unfold proofL at hz; simpa using hz)).1), if_pos (show pfB 0 (proofL y) = true from h3)]
  exact ⟨he, by unfold proofV; rw [if_pos he]; unfold proofL; rw [pfSum_rev, h1], hl⟩
end Go.Proofs.Ytjbeoakikdkdaaa

namespace Go.Proofs.Ytjbeoakikdkdaaa
open Go.RowKit Go.Vat Go.Sort Go.Shelf
attribute [local go_sem] Oper.semAt_some

/-! ## The law's own functions -/
theorem of_any (v : Value) (w : World) : Calls Try.prog 52 #[v] w fun e w' => e = .returned v ∧ w = w' := by
  go_enter Try.func52, Try.ntmps52
  go_wp2
  go_ret
  exact ⟨rfl, rfl⟩
theorem longs_any (v : Value) (w : World) : Calls Try.prog 49 #[v] w fun e w' => e = .returned v ∧ w = w' := by
  go_enter Try.func49, Try.ntmps49
  go_wp2
  go_ret
  exact ⟨rfl, rfl⟩
theorem ranges_any (v : Value) (w : World) : Calls Try.prog 46 #[v] w fun e w' => e = .returned v ∧ w = w' := by
  go_enter Try.func46, Try.ntmps46
  go_wp2
  go_ret
  exact ⟨rfl, rfl⟩
theorem to_any (a b : Int) (w : World) : Calls Try.prog 45 #[.int .i64 a, .int .i64 b] w fun e w' => e = .returned (.agg #[.int .i64 a, .int .i64 b]) ∧ Below w.heap.size w w' := by
  go_enter Try.func45, Try.ntmps45
  go_wp2
  exact bodyPost_ret (v := .agg #[.int .i64 a, .int .i64 b]) (by simp [results, Try.results45, go_sem]) rfl ⟨rfl, below1 _ _⟩
set_option maxRecDepth 100000 in
set_option maxHeartbeats 8000000 in
theorem Ints_any (av bv : Value) (a b : List Int) (w : World) (ha : IntsAt w av a) (hb : IntsAt w bv b) (hl : a.length ≤ 1000) :
    Calls Try.prog 38 #[av, bv] w fun e w' => e = .returned (.bool (decide (a = b))) ∧ Below w.heap.size w w' := by
  obtain ⟨aa, ac, rfl⟩ := ha.slice
  obtain ⟨ba, bc, rfl⟩ := hb.slice
  have HA := Lib.hid ha
  have HB := Lib.hid hb
  clear ha hb
  by_cases hlen : a.length = b.length
  case neg =>
    have d1 : ((a.length : Int) != (b.length : Int)) = true := by simp; omega
    have HE := Lib.hid (show false = decide (a = b) by rw [decide_eq_false]; rintro rfl; exact hlen rfl)
    clear hlen
    go_enter Try.func38, Try.ntmps38
    go_wp2
    go_ret
    exact ⟨ret_bool HE.out, Below.refl _ _⟩
  have d1 : ((a.length : Int) != (b.length : Int)) = false := by simp; omega
  have HL := Lib.hid hlen
  clear hlen
  go_enter Try.func38, Try.ntmps38
  go_wp2
  clear d1
  go_loopw [5] (fun i wr => ∃ k : Nat, k ≤ a.length ∧ i = .int .i64 (k : Int) ∧ a.take k = b.take k ∧ Below w.heap.size w wr) (fun i _ => a.length - (intOf i).toNat)
  case atStart => exact ⟨0, Nat.zero_le _, rfl, by simp, Below.refl _ _⟩
  case round =>
    obtain ⟨k, hk, rfl, hpre, hbw⟩ := hrel
    have HP := Lib.hid hpre
    clear hpre
    by_cases hlt : k < a.length
    · have hltb : k < b.length := by have := HL.out; omega
      obtain ⟨xb, xo, xc, e, hx⟩ := (HA.out.below hbw).get k hlt
      cases e
      obtain ⟨zb, zo, zc, e, hz⟩ := (HB.out.below hbw).get k hltb
      cases e
      have HS := Lib.hid (show a[k] = b[k] → a.take (k + 1) = b.take (k + 1) from fun h => by rw [List.take_succ_eq_append_getElem hlt, List.take_succ_eq_append_getElem hltb, HP.out, h])
      have HN := Lib.hid (show a[k] ≠ b[k] → false = decide (a = b) from fun h => by
        rw [decide_eq_false]
        rintro rfl
        exact h rfl)
      obtain ⟨x, hx0⟩ : ∃ x, a[k] = x := ⟨_, rfl⟩
      obtain ⟨z, hz0⟩ : ∃ z, b[k] = z := ⟨_, rfl⟩
      rw [hx0] at hx HS HN
      rw [hz0] at hz HS HN
      have i1 : (k : Int) < (a.length : Int) := by omega
      have i2 : (k : Int) < (b.length : Int) := by omega
      clear hx0 hz0
      by_cases q : x = z
      · have d2 : (x != z) = false := by simpa using q
        have HS2 := Lib.hid (HS.out q)
        clear q HS HN
        go_wp2_with fail
        go_quiet (fail)
        clear hx hz d2
        go_wp2
        go_roundw
        case rel => exact ⟨k + 1, by omega, by go_num, HS2.out, below_drewN hbw _⟩
        case measure => simp [intOf] <;> omega
      · have d2 : (x != z) = true := by simpa using q
        have HN2 := Lib.hid (HN.out q)
        clear q HS HN
        go_wp2_with fail
        go_quiet (fail)
        clear hx hz d2
        go_wp2
        go_ret
        exact ⟨ret_bool HN2.out, below_drewN hbw _⟩
    · obtain rfl : k = a.length := by omega
      have HE := Lib.hid (show true = decide (a = b) by
        have := HP.out
        rw [List.take_length, HL.out, List.take_length] at this
        rw [decide_eq_true this])
      go_wp2
      go_ret
      exact ⟨ret_bool HE.out, hbw⟩
set_option maxRecDepth 100000 in
set_option maxHeartbeats 8000000 in
theorem Longs_any (av bv : Value) (a b : List Int) (w : World) (ha : IntsAt w av a) (hb : IntsAt w bv b) (hl : a.length ≤ 1000) :
    Calls Try.prog 35 #[av, bv] w fun e w' => e = .returned (.bool (decide (a = b))) ∧ Below w.heap.size w w' := by
  obtain ⟨aa, ac, rfl⟩ := ha.slice
  obtain ⟨ba, bc, rfl⟩ := hb.slice
  have HA := Lib.hid ha
  have HB := Lib.hid hb
  clear ha hb
  by_cases hlen : a.length = b.length
  case neg =>
    have d1 : ((a.length : Int) != (b.length : Int)) = true := by simp; omega
    have HE := Lib.hid (show false = decide (a = b) by rw [decide_eq_false]; rintro rfl; exact hlen rfl)
    clear hlen
    go_enter Try.func35, Try.ntmps35
    go_wp2
    go_ret
    exact ⟨ret_bool HE.out, Below.refl _ _⟩
  have d1 : ((a.length : Int) != (b.length : Int)) = false := by simp; omega
  have HL := Lib.hid hlen
  clear hlen
  go_enter Try.func35, Try.ntmps35
  go_wp2
  clear d1
  go_loopw [5] (fun i wr => ∃ k : Nat, k ≤ a.length ∧ i = .int .i64 (k : Int) ∧ a.take k = b.take k ∧ Below w.heap.size w wr) (fun i _ => a.length - (intOf i).toNat)
  case atStart => exact ⟨0, Nat.zero_le _, rfl, by simp, Below.refl _ _⟩
  case round =>
    obtain ⟨k, hk, rfl, hpre, hbw⟩ := hrel
    have HP := Lib.hid hpre
    clear hpre
    by_cases hlt : k < a.length
    · have hltb : k < b.length := by have := HL.out; omega
      obtain ⟨xb, xo, xc, e, hx⟩ := (HA.out.below hbw).get k hlt
      cases e
      obtain ⟨zb, zo, zc, e, hz⟩ := (HB.out.below hbw).get k hltb
      cases e
      have HS := Lib.hid (show a[k] = b[k] → a.take (k + 1) = b.take (k + 1) from fun h => by rw [List.take_succ_eq_append_getElem hlt, List.take_succ_eq_append_getElem hltb, HP.out, h])
      have HN := Lib.hid (show a[k] ≠ b[k] → false = decide (a = b) from fun h => by
        rw [decide_eq_false]
        rintro rfl
        exact h rfl)
      obtain ⟨x, hx0⟩ : ∃ x, a[k] = x := ⟨_, rfl⟩
      obtain ⟨z, hz0⟩ : ∃ z, b[k] = z := ⟨_, rfl⟩
      rw [hx0] at hx HS HN
      rw [hz0] at hz HS HN
      have i1 : (k : Int) < (a.length : Int) := by omega
      have i2 : (k : Int) < (b.length : Int) := by omega
      clear hx0 hz0
      by_cases q : x = z
      · have d2 : (x != z) = false := by simpa using q
        have HS2 := Lib.hid (HS.out q)
        clear q HS HN
        go_wp2_with fail
        go_quiet (fail)
        clear hx hz d2
        go_wp2
        go_roundw
        case rel => exact ⟨k + 1, by omega, by go_num, HS2.out, below_drewN hbw _⟩
        case measure => simp [intOf] <;> omega
      · have d2 : (x != z) = true := by simpa using q
        have HN2 := Lib.hid (HN.out q)
        clear q HS HN
        go_wp2_with fail
        go_quiet (fail)
        clear hx hz d2
        go_wp2
        go_ret
        exact ⟨ret_bool HN2.out, below_drewN hbw _⟩
    · obtain rfl : k = a.length := by omega
      have HE := Lib.hid (show true = decide (a = b) by
        have := HP.out
        rw [List.take_length, HL.out, List.take_length] at this
        rw [decide_eq_true this])
      go_wp2
      go_ret
      exact ⟨ret_bool HE.out, hbw⟩
set_option maxRecDepth 100000 in
set_option maxHeartbeats 8000000 in
theorem Yard_any (load : Int) (xa : Option Addr) (xc : Nat) (ps : List (Int × Int)) (w : World) (hx : PairsAt w (.slice xa ps.length xc) ps) (hl : ps.length ≤ 100) (xc2 : Nat) :
    Calls Try.prog 78 #[.int .i64 load, .slice xa (ps.length * 2) xc2] w fun e w' => ∃ sv, e = .returned (.agg #[.int .i64 load, sv]) ∧ PairsAt w' sv ps ∧ (∀ g o k c, sv = .slice (some ⟨g, o, none⟩) k c → w.heap.size ≤ g) ∧ Below w.heap.size w w' := by
  have HP := Lib.hid (fun k (hk : k < ps.length) => PairsAt.get0 hx hk)
  clear hx
  go_enter Try.func78, Try.ntmps78
  go_wp2
  have hB0 := below2 w (.cells #[.int .i64 0, .slice none 0 0] 24) (.cells #[.int .i64 load, .slice none 0 0] 24)
  have hb1 := (Blk.new w (.cells #[.int .i64 0, .slice none 0 0] 24)).alloc (.cells #[.int .i64 load, .slice none 0 0] 24)
  have b2 := Blk.new (w.alloc (.cells #[.int .i64 0, .slice none 0 0] 24)) (.cells #[.int .i64 load, .slice none 0 0] 24)
  have hz0 : ((w.alloc (.cells #[.int .i64 0, .slice none 0 0] 24)).alloc (.cells #[.int .i64 load, .slice none 0 0] 24)).heap.size = w.heap.size + 2 := by simp
  rw [World.size_alloc] at b2
  generalize (w.alloc (.cells #[.int .i64 0, .slice none 0 0] 24)).alloc (.cells #[.int .i64 load, .slice none 0 0] 24) = W0 at *
  have HB0 := Lib.hid hB0
  have HB1 := Lib.hid hb1
  have HZ0 := Lib.hid hz0
  obtain ⟨LL, hL⟩ : ∃ L, w.heap.size + 1 = L := ⟨_, rfl⟩
  obtain ⟨R, hR⟩ : ∃ R, w.heap.size = R := ⟨_, rfl⟩
  rw [hL] at b2 ⊢
  rw [hR] at HB1 ⊢
  have HL := Lib.hid (And.intro hL hR)
  have HB2 := Lib.hid b2
  clear hB0 hb1 b2 hz0 hL hR
  go_loopw [6] (fun i wr => ∃ (k : Nat) (s : Value) (iv : Int), k ≤ ps.length ∧ iv = 2 * (k : Int) ∧ i = .int .i64 iv ∧ Blk wr LL (.cells #[.int .i64 load, s] 24) ∧ wr.ownsRow W0.heap.size 27 2 s k (pairCells (ps.take k)) ∧ FrL W0 LL wr) (fun i _ => ps.length * 2 + 1 - (intOf i).toNat)
  case atStart => exact ⟨0, _, 0, Nat.zero_le _, rfl, rfl, HB2.out, owns_nil _ _ _ _, FrL.of_below (Below.refl _ _)⟩
  case round =>
    clear HB2
    obtain ⟨k, s, iv, hk, hiv, rfl, hbL, hown, hF⟩ := hrel
    have HIV := Lib.hid hiv
    obtain ⟨ra, rc, rfl⟩ := owns_slice hown
    have HOWN := Lib.hid hown
    have HF := Lib.hid hF
    have HBL := Lib.hid hbL
    have hzL := hbL.lt
    have hfz := hF.size
    have hBw := HB0.out.trans (hF.under (B := w.heap.size) (by rw [HZ0.out]; omega) (by have := HL.out.1; omega))
    have HBW := Lib.hid hBw
    have cL1 := hbL.cell 1
    simp at cL1
    have ha1 : IntKind.i64.wrap (iv + 1) = iv + 1 := IntWalk.i64_in _ (by omega)
    clear hown hbL hBw
    by_cases hlt : k < ps.length
    · obtain ⟨pb, off, rfl, hpw, hc, hd⟩ := HP.out k hlt
      replace hc := cellB hc HBW.out
      replace hd := cellB hd HBW.out
      have HST := Lib.hid (show ps.take (k + 1) = ps.take k ++ [(ps[k].1, ps[k].2)] from List.take_succ_eq_append_getElem hlt)
      obtain ⟨l1, hl1⟩ : ∃ x, ps[k].1 = x := ⟨_, rfl⟩
      obtain ⟨l2, hl2⟩ : ∃ x, ps[k].2 = x := ⟨_, rfl⟩
      rw [hl1] at hc HST
      rw [hl2] at hd HST
      have d1 : decide (iv + 1 < ((ps.length * 2 : Nat) : Int)) = true := by simp; omega
      have d1' : decide (iv + 1 < (ps.length : Int) * 2) = true := by simp; omega
      have q1 : iv.toNat = k * 2 := by omega
      have q2 : (iv + 1).toNat = k * 2 + 1 := by omega
      have q3 : 0 ≤ iv := by omega
      have q4 : 0 ≤ iv + 1 := by omega
      have q5 : iv < ((ps.length * 2 : Nat) : Int) := by omega
      have q6 : iv + 1 < ((ps.length * 2 : Nat) : Int) := by omega
      have q5' : iv < (ps.length : Int) * 2 := by omega
      have q6' : iv + 1 < (ps.length : Int) * 2 := by omega
      have q7 : IntKind.i64.wrap (iv + 2) = iv + 2 := IntWalk.i64_in _ (by omega)
      clear hl1 hl2 hF hiv
      go_wp2_with fail
      clear d1 d1'
      have y0 : wr.drew.cell? ⟨LL, 1, none⟩ = some (.slice ra k rc) := cL1
      have y1 : wr.drew.cell? ⟨pb, off + k * 2, none⟩ = some (.int .i64 l1) := hc
      have y2 : wr.drew.cell? ⟨pb, off + k * 2 + 1, none⟩ = some (.int .i64 l2) := hd
      have own : wr.drew.ownsRow W0.heap.size 27 2 (.slice ra k rc) k (pairCells (ps.take k)) := HOWN.out
      have BL : Blk wr.drew LL (.cells #[.int .i64 load, .slice ra k rc] 24) := HBL.out
      have FF : FrL W0 LL wr.drew := HF.out.below ((Below.refl _ _).drew)
      clear HOWN HBL HF HBW cL1 hc hd hzL hfz
      refine (wp_region_T 13 (fun W' => W'.cell? ⟨LL, 1, none⟩ = some (.slice ra k rc) ∧ W'.cell? ⟨pb, off + k * 2, none⟩ = some (.int .i64 l1) ∧ W'.cell? ⟨pb, off + k * 2 + 1, none⟩ = some (.int .i64 l2)) (by kernel_rfl) (by kernel_rfl) ⟨y0, y1, y2⟩ ?_)
      intro inv hS
      clear y0 y1 y2
      generalize wr.drew = V0 at *
      refine wpAnyT_take inv (by kernel_rfl) (by omega) (i := 0) (v := .pointer (some ⟨LL, 1, none⟩)) rfl (by kernel_rfl) (by kernel_rfl) (fun _ _ _ h => h) (Or.inl ⟨by kernel_rfl, ?_⟩) (by assumption) ?_
      · rintro W' ⟨q0, q1, q2⟩
        go_simp
      intro inv2
      clear inv
      have inv := inv2
      clear inv2
      simp only [Act.put, List.setIfInBounds_toArray]
      refine wpAnyT_take inv (by kernel_rfl) (by omega) (i := 1) (v := .slice ra k rc) rfl (by kernel_rfl) (by kernel_rfl) (fun _ _ _ h => h) (Or.inl ⟨by kernel_rfl, ?_⟩) (by assumption) ?_
      · rintro W' ⟨q0, q1, q2⟩
        go_simp
      intro inv2
      clear inv
      have inv := inv2
      clear inv2
      simp only [Act.put]
      refine wpAnyT_take inv (by kernel_rfl) (by omega) (i := 2) (v := .slice (some ⟨pb, off, none⟩) (ps.length * 2) xc2) rfl (by kernel_rfl) (by kernel_rfl) (fun _ _ _ h => h) (Or.inl ⟨by kernel_rfl, ?_⟩) (by assumption) ?_
      · rintro W' ⟨q0, q1, q2⟩
        go_simp
      intro inv2
      clear inv
      have inv := inv2
      clear inv2
      simp only [Act.put]
      refine wpAnyT_take inv (by kernel_rfl) (by omega) (i := 3) (v := .int .i64 iv) rfl (by kernel_rfl) (by kernel_rfl) (fun _ _ _ h => h) (Or.inl ⟨by kernel_rfl, ?_⟩) (by assumption) ?_
      · rintro W' ⟨q0, q1, q2⟩
        go_simp
      intro inv2
      clear inv
      have inv := inv2
      clear inv2
      simp only [Act.put]
      refine wpAnyT_take inv (by kernel_rfl) (by omega) (i := 4) (v := .pointer (some ⟨pb, off + k * 2, none⟩)) rfl (by kernel_rfl) (by kernel_rfl) (fun _ _ _ h => h) (Or.inl ⟨by kernel_rfl, ?_⟩) (by assumption) ?_
      · rintro W' ⟨q0, q1, q2⟩
        go_simp
      intro inv2
      clear inv
      have inv := inv2
      clear inv2
      simp only [Act.put]
      refine wpAnyT_take inv (by kernel_rfl) (by omega) (i := 5) (v := .int .i64 l1) rfl (by kernel_rfl) (by kernel_rfl) (fun _ _ _ h => h) (Or.inl ⟨by kernel_rfl, ?_⟩) (by assumption) ?_
      · rintro W' ⟨q0, q1, q2⟩
        go_simp
      intro inv2
      clear inv
      have inv := inv2
      clear inv2
      simp only [Act.put]
      refine wpAnyT_take inv (by kernel_rfl) (by omega) (i := 6) (v := .slice (some ⟨pb, off, none⟩) (ps.length * 2) xc2) rfl (by kernel_rfl) (by kernel_rfl) (fun _ _ _ h => h) (Or.inl ⟨by kernel_rfl, ?_⟩) (by assumption) ?_
      · rintro W' ⟨q0, q1, q2⟩
        go_simp
      intro inv2
      clear inv
      have inv := inv2
      clear inv2
      simp only [Act.put]
      refine wpAnyT_take inv (by kernel_rfl) (by omega) (i := 7) (v := .int .i64 iv) rfl (by kernel_rfl) (by kernel_rfl) (fun _ _ _ h => h) (Or.inl ⟨by kernel_rfl, ?_⟩) (by assumption) ?_
      · rintro W' ⟨q0, q1, q2⟩
        go_simp
      intro inv2
      clear inv
      have inv := inv2
      clear inv2
      simp only [Act.put]
      refine wpAnyT_take inv (by kernel_rfl) (by omega) (i := 8) (v := .int .i64 (iv + 1)) rfl (by kernel_rfl) (by kernel_rfl) (fun _ _ _ h => h) (Or.inl ⟨by kernel_rfl, ?_⟩) (by assumption) ?_
      · rintro W' ⟨q0, q1, q2⟩
        go_simp
      intro inv2
      clear inv
      have inv := inv2
      clear inv2
      simp only [Act.put]
      refine wpAnyT_take inv (by kernel_rfl) (by omega) (i := 9) (v := .pointer (some ⟨pb, off + k * 2 + 1, none⟩)) rfl (by kernel_rfl) (by kernel_rfl) (fun _ _ _ h => h) (Or.inl ⟨by kernel_rfl, ?_⟩) (by assumption) ?_
      · rintro W' ⟨q0, q1, q2⟩
        go_simp
      intro inv2
      clear inv
      have inv := inv2
      clear inv2
      simp only [Act.put]
      refine wpAnyT_take inv (by kernel_rfl) (by omega) (i := 10) (v := .int .i64 l2) rfl (by kernel_rfl) (by kernel_rfl) (fun _ _ _ h => h) (Or.inl ⟨by kernel_rfl, ?_⟩) (by assumption) ?_
      · rintro W' ⟨q0, q1, q2⟩
        go_simp
      intro inv2
      clear inv
      have inv := inv2
      clear inv2
      simp only [Act.put]
      refine wpAnyT_ready [11] (by kernel_rfl) (by simp) ?_
      refine AllReadyT.cons rfl (fun K hK => ?_) AllReadyT.nil
      go_simp
      refine (to_any l1 l2 _).mono ?_
      rintro e z1 ⟨rfl, hb⟩
      refine hK.out _ _ (fun _ => ⟨cellB hS.1 hb, cellB hS.2.1 hb, cellB hS.2.2 hb⟩) (fun _ => ?_)
      replace inv := HeadM.step inv 11 (by kernel_rfl) (by omega)
      clear hK K
      try simp only [Act.put]
      replace hS := And.intro (cellB hS.1 hb) (And.intro (cellB hS.2.1 hb) (cellB hS.2.2 hb))
      replace own := owns_below own hb
      replace BL := BL.below hb
      replace FF := FF.below hb
      clear hb
      refine wpAnyT_ready [12] (by kernel_rfl) (by simp) ?_
      refine AllReadyT.cons rfl (fun K hK => ?_) AllReadyT.nil
      go_simp
      have hA := below1 z1 (.cells #[.int .i64 l1, .int .i64 l2] 27)
      refine hK.out _ _ (fun _ => ⟨cellB hS.1 hA, cellB hS.2.1 hA, cellB hS.2.2 hA⟩) (fun _ => ?_)
      clear hK K hS inv
      try simp only [Act.put]
      have bN := Blk.new z1 (.cells #[.int .i64 l1, .int .i64 l2] 27)
      replace own := owns_below own hA
      replace BL := BL.below hA
      replace FF := FF.below hA
      obtain ⟨bx, hbx⟩ : ∃ bx, z1.heap.size = bx := ⟨_, rfl⟩
      rw [hbx] at bN ⊢
      clear hA hbx
      generalize z1.alloc (.cells #[.int .i64 l1, .int .i64 l2] 27) = V9 at *
      refine wpAnyT_chain (fuel := 3) rfl (by kernel_rfl) ?_
      simp only [List.drop_succ_cons, List.drop_zero]
      go_wp2_with (at_builtin; refine wp_appR rfl (.tmp 17) (.tmp 28) rfl _ _ _ _ rfl own _ _ _ _ rfl bN (by omega) (Below.refl _ _) (by have := FF.size; omega) ?_; intro a2 c2 w3 own3 bel3 gr3; have BL3 := Blk.grown BL own (by decide) gr3; have FF3 := FF.grown own gr3 (Nat.le_refl _); have o1 := BL3.cell 1; have of := BL3.frozen 1; have ol := BL3.lt; simp at o1)
      go_roundw
      case rel => exact ⟨k + 1, _, iv + 2, by omega, by have := HIV.out; omega, rfl, BL3.set (j := 1) (.slice a2 (k + 1) c2), by rw [HST.out, pairCells_snoc]; exact owns_set own3 BL3 (by decide) 1 _, FF3.set 1 _⟩
      case measure => simp [intOf] <;> omega
    · obtain rfl : k = ps.length := by omega
      have d1 : decide (iv + 1 < ((ps.length * 2 : Nat) : Int)) = false := by simp; omega
      have d1' : decide (iv + 1 < (ps.length : Int) * 2) = false := by simp; omega
      have hRL : R ≠ LL := by have := HL.out; omega
      have cL0 := HBL.out.cell 0
      simp at cL0
      have cR0 := (HB1.out.fr' HF.out hRL).cell 0
      have cR1 := (HB1.out.fr' HF.out hRL).cell 1
      have fR0 := (HB1.out.fr' HF.out hRL).frozen 0
      have fR1 := (HB1.out.fr' HF.out hRL).frozen 1
      simp at cR0 cR1
      have hRz := (HB1.out.fr' HF.out hRL).lt
      rw [List.take_length] at HOWN
      clear hF hiv
      go_wp2
      have hbR := HB1.out.fr' HF.out hRL
      have hfin : Blk ((wr.setCell ⟨R, 0, none⟩ (.int .i64 load)).setCell ⟨R, 1, none⟩ (.slice ra ps.length rc)) R (.cells #[.int .i64 load, .slice ra ps.length rc] 24) := (hbR.set (.int .i64 load)).set (.slice ra ps.length rc)
      (try simp only [Exit.inBlock, Exit.then])
      refine bodyPost_ret (results_cell_row rfl _ _ R _ _ _ _ rfl hfin Try.underlying24 rfl infoYd) rfl ?_
      have hfr : FrL wr R ((wr.setCell ⟨R, 0, none⟩ (.int .i64 load)).setCell ⟨R, 1, none⟩ (.slice ra ps.length rc)) := ((FrL.of_below (Below.refl _ _)).set 0 _).set 1 _
      have hL1 := HL.out
      have hown2 := owns_set (owns_set HOWN.out hbR (by decide) 0 (.int .i64 load)) (hbR.set (j := 0) (.int .i64 load)) (by decide) 1 (.slice ra ps.length rc)
      have hrow := Row.of_owns hown2
      have hpp : PairsAt _ _ ps := Row.pairsN hrow rfl
      exact ⟨_, rfl, hpp, fun g o k c e => by have := owns_base hown2 e; have := HZ0.out; omega, HBW.out.trans (hfr.under HBW.out.size (by omega))⟩
end Go.Proofs.Ytjbeoakikdkdaaa

namespace Go.Proofs.Ytjbeoakikdkdaaa
open Go.RowKit Go.Vat Go.Sort Go.Shelf
attribute [local go_sem] Oper.semAt_some

/-! ## The law's own functions: the yards A and B, valid yards -/
set_option maxRecDepth 100000 in
set_option maxHeartbeats 8000000 in
theorem five_any (w : World) : Calls Try.prog 50 #[] w fun e w' => ∃ v, e = .returned v ∧ YardAt w' v fiveY ∧ Below w.heap.size w w' := by
  go_enter Try.func50, Try.ntmps50
  go_wp2_with fail
  have HB := Lib.hid (below2 w (.cells #[.int .i64 0, .slice none 0 0] 24) (.cells #[.int .i64 2, .int .i64 5, .int .i64 3, .int .i64 4, .int .i64 4, .int .i64 8, .int .i64 6, .int .i64 9, .int .i64 7, .int .i64 7] 2))
  have b1 := (Blk.new w (.cells #[.int .i64 0, .slice none 0 0] 24)).alloc (.cells #[.int .i64 2, .int .i64 5, .int .i64 3, .int .i64 4, .int .i64 4, .int .i64 8, .int .i64 6, .int .i64 9, .int .i64 7, .int .i64 7] 2)
  have b2 := Blk.new (w.alloc (.cells #[.int .i64 0, .slice none 0 0] 24)) (.cells #[.int .i64 2, .int .i64 5, .int .i64 3, .int .i64 4, .int .i64 4, .int .i64 8, .int .i64 6, .int .i64 9, .int .i64 7, .int .i64 7] 2)
  have hz0 : ((w.alloc (.cells #[.int .i64 0, .slice none 0 0] 24)).alloc (.cells #[.int .i64 2, .int .i64 5, .int .i64 3, .int .i64 4, .int .i64 4, .int .i64 8, .int .i64 6, .int .i64 9, .int .i64 7, .int .i64 7] 2)).heap.size = w.heap.size + 2 := by simp
  rw [World.size_alloc] at b2
  have HA := Lib.hid (PairsAt.of_blk (cap := 5) (l := fiveY.logs) b2)
  generalize (w.alloc (.cells #[.int .i64 0, .slice none 0 0] 24)).alloc (.cells #[.int .i64 2, .int .i64 5, .int .i64 3, .int .i64 4, .int .i64 4, .int .i64 8, .int .i64 6, .int .i64 9, .int .i64 7, .int .i64 7] 2) = W0 at *
  refine (Yard_any 2 _ 5 fiveY.logs _ HA.out (by decide) 10).mono ?_
  rintro e w1 ⟨sv, rfl, hp, hne, hb1⟩
  obtain ⟨sa, sc, rfl⟩ := hp.slice
  have HV := Lib.hid hp
  have HNE := Lib.hid hne
  replace b1 := b1.below hb1
  have HB1 := Lib.hid (bC HB.out hb1)
  have y0 := b1.cell 0
  have y1 := b1.cell 1
  have f0 := b1.frozen 0
  have f1 := b1.frozen 1
  have hbl := b1.lt
  simp at y0 y1
  clear hp hb1 hne
  go_wp2_with fail
  have hfin : Blk ((w1.setCell ⟨w.heap.size, 0, none⟩ (.int .i64 2)).setCell ⟨w.heap.size, 1, none⟩ (.slice sa 5 sc)) w.heap.size (.cells #[.int .i64 2, .slice sa 5 sc] 24) := (b1.set (.int .i64 2)).set (.slice sa 5 sc)
  (try simp only [Exit.inBlock, Exit.then])
  refine bodyPost_ret (results_cell_row rfl _ _ w.heap.size _ _ _ _ rfl hfin Try.underlying24 rfl infoYd) rfl ?_
  have hfr : FrL w1 w.heap.size ((w1.setCell ⟨w.heap.size, 0, none⟩ (.int .i64 2)).setCell ⟨w.heap.size, 1, none⟩ (.slice sa 5 sc)) := ((FrL.of_below (Below.refl _ _)).set 0 _).set 1 _
  exact ⟨_, rfl, ⟨_, rfl, HV.out.fr hfr fun b off k c e => by have := HNE.out b off k c e; omega⟩, HB1.out.trans (hfr.under (B := w.heap.size) HB1.out.size (Nat.le_refl _))⟩
set_option maxRecDepth 100000 in
set_option maxHeartbeats 8000000 in
theorem none_any (w : World) : Calls Try.prog 51 #[] w fun e w' => ∃ v, e = .returned v ∧ YardAt w' v noneY ∧ Below w.heap.size w w' := by
  go_enter Try.func51, Try.ntmps51
  go_wp2_with fail
  have HB := Lib.hid (below1 w (.cells #[.int .i64 0, .slice none 0 0] 24))
  have b1 := Blk.new w (.cells #[.int .i64 0, .slice none 0 0] 24)
  have hz0 : (w.alloc (.cells #[.int .i64 0, .slice none 0 0] 24)).heap.size = w.heap.size + 1 := by simp
  generalize w.alloc (.cells #[.int .i64 0, .slice none 0 0] 24) = W0 at *
  refine (Yard_any 1 none 0 [] _ ⟨_, _, rfl, fun h => absurd rfl h⟩ (by decide) 0).mono ?_
  rintro e w1 ⟨sv, rfl, hp, hne, hb1⟩
  obtain ⟨sa, sc, rfl⟩ := hp.slice
  have HV := Lib.hid hp
  have HNE := Lib.hid hne
  replace b1 := b1.below hb1
  have HB1 := Lib.hid (bC HB.out hb1)
  have y0 := b1.cell 0
  have y1 := b1.cell 1
  have f0 := b1.frozen 0
  have f1 := b1.frozen 1
  have hbl := b1.lt
  simp at y0 y1
  clear hp hb1 hne
  go_wp2_with fail
  have hfin : Blk ((w1.setCell ⟨w.heap.size, 0, none⟩ (.int .i64 1)).setCell ⟨w.heap.size, 1, none⟩ (.slice sa 0 sc)) w.heap.size (.cells #[.int .i64 1, .slice sa 0 sc] 24) := (b1.set (.int .i64 1)).set (.slice sa 0 sc)
  (try simp only [Exit.inBlock, Exit.then])
  refine bodyPost_ret (results_cell_row rfl _ _ w.heap.size _ _ _ _ rfl hfin Try.underlying24 rfl infoYd) rfl ?_
  have hfr : FrL w1 w.heap.size ((w1.setCell ⟨w.heap.size, 0, none⟩ (.int .i64 1)).setCell ⟨w.heap.size, 1, none⟩ (.slice sa 0 sc)) := ((FrL.of_below (Below.refl _ _)).set 0 _).set 1 _
  exact ⟨_, rfl, ⟨_, rfl, HV.out.fr hfr fun b off k c e => by have := HNE.out b off k c e; omega⟩, HB1.out.trans (hfr.under (B := w.heap.size) HB1.out.size (Nat.le_refl _))⟩
set_option maxRecDepth 100000 in
set_option maxHeartbeats 8000000 in
theorem great_any (v : Value) (y : YardD) (w : World) (hv : YardAt w v y) :
    Calls Try.prog 17 #[v] w fun e w' => e = .returned (.bool (decide (16 < y.logs.length))) ∧ Below w.heap.size w w' := by
  obtain ⟨sv, rfl, hp⟩ := hv
  obtain ⟨sa, cap, rfl⟩ := hp.slice
  have hB0 := below1 w (.cells #[.int .i64 y.load, .slice sa y.logs.length cap] 24)
  obtain ⟨B, hB⟩ : ∃ B, decide (16 < y.logs.length) = B := ⟨_, rfl⟩
  have d1 : decide ((y.logs.length : Int) > 16) = B := by rw [← hB]; exact decide_eq_decide.2 (by omega)
  have d2 : decide ((16 : Int) < (y.logs.length : Int)) = B := by rw [← hB]; exact decide_eq_decide.2 (by omega)
  have HB := Lib.hid hB
  clear hp hB
  go_enter Try.func17, Try.ntmps17
  go_wp2
  go_ret
  exact ⟨ret_bool HB.out.symm, hB0⟩
set_option maxRecDepth 100000 in
set_option maxHeartbeats 8000000 in
theorem fine_yes (v : Value) (y : YardD) (w : World) (hv : YardAt w v y) (hy : y.Ok) :
    Calls Try.prog 39 #[v] w fun e w' => e = .returned (.bool true) ∧ Below w.heap.size w w' := by
  obtain ⟨sv, rfl, hp⟩ := hv
  obtain ⟨sa, cap, rfl⟩ := hp.slice
  have hB0 := below1 w (.cells #[.int .i64 y.load, .slice sa y.logs.length cap] 24)
  have B0 := Lib.hid (Blk.new w (.cells #[.int .i64 y.load, .slice sa y.logs.length cap] 24))
  have HB := Lib.hid hB0
  have HV := Lib.hid (show YardAt _ (.agg #[.int .i64 y.load, .slice sa y.logs.length cap]) y from ⟨_, rfl, hp.below hB0⟩)
  clear hp hB0
  have hl10 := hy.count
  have HG := Lib.hid (show decide (16 < y.logs.length) = false by rw [decide_eq_false]; omega)
  have HE := Lib.hid (yardErr_of hy)
  clear hy
  go_enter Try.func39, Try.ntmps39
  go_wp2_with fail
  generalize w.alloc (.cells #[.int .i64 y.load, .slice sa y.logs.length cap] 24) = W0 at *
  refine (great_any (.agg #[.int .i64 y.load, .slice sa y.logs.length cap]) y _ HV.out).mono ?_
  rintro e v1 ⟨rfl, hb⟩
  replace HV := Lib.hid (HV.out.below hb)
  replace B0 := Lib.hid (B0.out.below hb)
  replace HB := Lib.hid (bC HB.out hb)
  clear hb
  rw [HG.out]
  have B0c0 := B0.out.cell 0
  have B0c1 := B0.out.cell 1
  simp at B0c0 B0c1
  go_wp2_with fail
  clear B0c0 B0c1
  refine (rCheckYard_any (.agg #[.int .i64 y.load, .slice sa y.logs.length cap]) y _ HV.out (by omega)).mono ?_
  rintro e v2 ⟨rfl, hb⟩
  replace HV := Lib.hid (HV.out.below hb)
  replace B0 := Lib.hid (B0.out.below hb)
  replace HB := Lib.hid (bC HB.out hb)
  clear hb
  rw [HE.out]
  have B0c0 := B0.out.cell 0
  have B0c1 := B0.out.cell 1
  simp at B0c0 B0c1
  go_wp2
  go_ret
  exact ⟨rfl, HB.out⟩
set_option maxRecDepth 100000 in
set_option maxHeartbeats 8000000 in
theorem fine_no (v : Value) (y : YardD) (w : World) (hv : YardAt w v y) (hy : ¬ y.Ok) :
    Calls Try.prog 39 #[v] w fun e w' => e = .returned (.bool false) ∧ Below w.heap.size w w' := by
  obtain ⟨sv, rfl, hp⟩ := hv
  obtain ⟨sa, cap, rfl⟩ := hp.slice
  have hB0 := below1 w (.cells #[.int .i64 y.load, .slice sa y.logs.length cap] 24)
  have B0 := Lib.hid (Blk.new w (.cells #[.int .i64 y.load, .slice sa y.logs.length cap] 24))
  have HB := Lib.hid hB0
  have HV := Lib.hid (show YardAt _ (.agg #[.int .i64 y.load, .slice sa y.logs.length cap]) y from ⟨_, rfl, hp.below hB0⟩)
  clear hp hB0
  by_cases hl : 16 < y.logs.length
  · have HG := Lib.hid (show decide (16 < y.logs.length) = true by rw [decide_eq_true hl])
    clear hy
    go_enter Try.func39, Try.ntmps39
    go_wp2_with fail
    generalize w.alloc (.cells #[.int .i64 y.load, .slice sa y.logs.length cap] 24) = W0 at *
    refine (great_any (.agg #[.int .i64 y.load, .slice sa y.logs.length cap]) y _ HV.out).mono ?_
    rintro e v1 ⟨rfl, hb⟩
    replace HV := Lib.hid (HV.out.below hb)
    replace B0 := Lib.hid (B0.out.below hb)
    replace HB := Lib.hid (bC HB.out hb)
    clear hb
    rw [HG.out]
    have B0c0 := B0.out.cell 0
    have B0c1 := B0.out.cell 1
    simp at B0c0 B0c1
    go_wp2
    go_ret
    exact ⟨rfl, HB.out⟩
  · have HG := Lib.hid (show decide (16 < y.logs.length) = false by rw [decide_eq_false hl])
    have hne : yardErr y ≠ 0 := fun h => hy (yardErr_zero h)
    obtain ⟨E, hE⟩ : ∃ E, yardErr y = E := ⟨_, rfl⟩
    have d1 : (E == 0) = false := by rw [← hE]; simpa using hne
    have HE := Lib.hid hE
    clear hy hne hE
    go_enter Try.func39, Try.ntmps39
    go_wp2_with fail
    generalize w.alloc (.cells #[.int .i64 y.load, .slice sa y.logs.length cap] 24) = W0 at *
    refine (great_any (.agg #[.int .i64 y.load, .slice sa y.logs.length cap]) y _ HV.out).mono ?_
    rintro e v1 ⟨rfl, hb⟩
    replace HV := Lib.hid (HV.out.below hb)
    replace B0 := Lib.hid (B0.out.below hb)
    replace HB := Lib.hid (bC HB.out hb)
    clear hb
    rw [HG.out]
    have B0c0 := B0.out.cell 0
    have B0c1 := B0.out.cell 1
    simp at B0c0 B0c1
    go_wp2_with fail
    clear B0c0 B0c1
    refine (rCheckYard_any (.agg #[.int .i64 y.load, .slice sa y.logs.length cap]) y _ HV.out (by omega)).mono ?_
    rintro e v2 ⟨rfl, hb⟩
    replace HV := Lib.hid (HV.out.below hb)
    replace B0 := Lib.hid (B0.out.below hb)
    replace HB := Lib.hid (bC HB.out hb)
    clear hb
    rw [HE.out]
    have B0c0 := B0.out.cell 0
    have B0c1 := B0.out.cell 1
    simp at B0c0 B0c1
    go_wp2
    go_ret
    exact ⟨rfl, HB.out⟩
end Go.Proofs.Ytjbeoakikdkdaaa
