import Derived.Test.YtjbeoakikdkdaaaTa
import Derived.Test.YtjbeoakikdkdaaaSa
namespace Go.Proofs.Ytjbeoakikdkdaaa
open Go.RowKit Go.Vat Go.Sort Go.Shelf
attribute [local go_sem] Oper.semAt_some

/-! ## Loads in order that are enough -/
theorem makeI (n : Nat) (w : World) (hn : n ≤ 1000) : (Instr.makeSlice 44 (.int .i64 (n : Int)) (.int .i64 (n : Int))).run Try.prog w =
    .ok (.slice (some ⟨w.heap.size, 0, none⟩) n n) (w.alloc (.cells (madeCells #[.int .i64 0] n) 3)) := by
  obtain ⟨i0, hi, hz0', hz1, hz2⟩ := info_parts infoI
  have hmk := run_make (P := Try.prog) w 44 3 i0 (.int .i64 0) Try.underlying44 hi hz0' .i64 .i64 n n (by omega) (by omega) (by rw [hz2]; omega) (by omega)
  rw [hz1, Int.toNat_natCast, Nat.mul_one] at hmk
  exact hmk
theorem getD_of {ls : List (Int × Int)} {i : Nat} (hi : i < ls.length) : ls.getD i (0, 0) = ls[i] := by rw [List.getD_eq_getElem?_getD, List.getElem?_eq_getElem hi]; rfl
/-- What one round of the search knows: at each log either it is passed over or taken. -/
theorem pick_no {D : Nat → Int} {ls : List (Int × Int)} {t b : Int} {i : Nat} (hi : i < ls.length) (h : Pick D ls t i b) (hn : ¬ (D i = 0 ∧ ls[i].1 ≤ t ∧ t ≤ ls[i].2)) : Pick D ls t (i + 1) b := by
  refine h.skip fun ha => absurd ha ?_
  unfold avail
  rw [getD_of hi]
  exact hn
theorem pick_worse {D : Nat → Int} {ls : List (Int × Int)} {t : Int} {i p : Nat} (hi : i < ls.length) (hp : p < ls.length) (h : Pick D ls t i (p : Int)) (hn : ¬ ls[i].2 < ls[p].2) : Pick D ls t (i + 1) (p : Int) := by
  refine h.skip fun _ => ⟨p, rfl, ?_⟩
  rw [getD_of hi, getD_of hp]
  omega
theorem pick_yes0 {D : Nat → Int} {ls : List (Int × Int)} {t : Int} {i : Nat} (hi : i < ls.length) (h : Pick D ls t i (-1)) (ha : D i = 0 ∧ ls[i].1 ≤ t ∧ t ≤ ls[i].2) : Pick D ls t (i + 1) (i : Int) :=
  h.take (by unfold avail; rw [getD_of hi]; exact ha) (Or.inl rfl)
theorem pick_yes {D : Nat → Int} {ls : List (Int × Int)} {t : Int} {i p : Nat} (hi : i < ls.length) (hp : p < ls.length) (h : Pick D ls t i (p : Int)) (ha : D i = 0 ∧ ls[i].1 ≤ t ∧ t ≤ ls[i].2) (hl : ls[i].2 < ls[p].2) : Pick D ls t (i + 1) (i : Int) :=
  h.take (by unfold avail; rw [getD_of hi]; exact ha) (Or.inr ⟨p, rfl, by rw [getD_of hi, getD_of hp]; omega⟩)
theorem pick_lt {D : Nat → Int} {ls : List (Int × Int)} {t b : Int} {i : Nat} (h : Pick D ls t i b) : b = -1 ∨ ∃ p : Nat, b = (p : Int) ∧ p < i := by
  rcases h with ⟨h, _⟩ | ⟨p, hp, h, _⟩
  · exact Or.inl h
  · exact Or.inr ⟨p, h, hp⟩
set_option maxRecDepth 100000 in
set_option maxHeartbeats 16000000 in
theorem enough_law (v lv : Value) (L : List Int) (y : YardD) (w : World) (hv : YardAt w v y) (hl : IntsAt w lv L) (hy : y.Ok) (hs : ∀ i j (hij : i ≤ j) (h : j < L.length), L[i]'(Nat.lt_of_le_of_lt hij h) ≤ L[j]'h) (hb : ∀ k (h : k < L.length), 0 ≤ L[k] ∧ L[k] ≤ 100) (hn : L.length ≤ 1000) (hH : Hall (fL y.load L) y.logs) :
    Calls Try.prog 43 #[v, lv] w fun e w' => e = .returned (.bool true) ∧ Below w.heap.size w w' := by
  obtain ⟨m, ls⟩ := y
  obtain ⟨sv, rfl, hp⟩ := hv
  replace hp : PairsAt w sv ls := hp
  replace hH : Hall (fL m L) ls := hH
  show Calls Try.prog 43 #[.agg #[.int .i64 m, sv], lv] w _
  have hl10 : ls.length ≤ 10 := hy.count
  have hy1 : 1 ≤ m := hy.l1
  have hy2 : m ≤ 10 := hy.l2
  have HOK := Lib.hid (show ∀ l ∈ ls, 0 ≤ l.1 ∧ l.1 ≤ l.2 from fun l h => ⟨(hy.log l h).1, (hy.log l h).2.1⟩)
  obtain ⟨sa, cap, rfl⟩ := hp.slice
  obtain ⟨la, lc, rfl⟩ := hl.slice
  have HPW := Lib.hid (fun k (hk : k < ls.length) => PairsAt.get0 hp hk)
  have HLW := Lib.hid (fun k (hk : k < L.length) => IntsAt.get hl k hk)
  have HS := Lib.hid hs
  have HLB := Lib.hid hb
  have HH0 := Lib.hid hH
  have hB0 := below1 w (.cells #[.int .i64 m, .slice sa ls.length cap] 24)
  have B0 := Lib.hid (Blk.new w (.cells #[.int .i64 m, .slice sa ls.length cap] 24))
  have hz0 : (w.alloc (.cells #[.int .i64 m, .slice sa ls.length cap] 24)).heap.size = w.heap.size + 1 := by simp
  have HB0 := Lib.hid hB0
  clear hp hl hy hs hb hH hB0
  have hmk : ∀ w, _ := fun w => makeI ls.length w (by omega)
  go_enter Try.func43, Try.ntmps43
  go_wp2_with fail
  clear hmk
  generalize w.alloc (.cells #[.int .i64 m, .slice sa ls.length cap] 24) = W0 at *
  have HG := Lib.hid (ArrAt.zeros W0 ls.length 3)
  have hb1 := below1 W0 (.cells (madeCells #[.int .i64 0] ls.length) 3)
  have B1 := Lib.hid (B0.out.below hb1)
  have HB1 := Lib.hid (bC HB0.out hb1)
  rw [hz0] at HG
  obtain ⟨g, hg⟩ : ∃ g, w.heap.size + 1 = g := ⟨_, rfl⟩
  rw [hg] at HG ⊢
  have hgw : w.heap.size < g := by omega
  have HGW := Lib.hid hgw
  clear hb1 hg hz0 B0 HB0 hgw
  generalize W0.alloc (.cells (madeCells #[.int .i64 0] ls.length) 3) = W1 at *
  have hgl := HG.out.lt
  have HGL := Lib.hid hgl
  clear hgl
  go_loopw [6, 7, 8, 9, 10] (fun mv kv _ _ _ wr => ∃ (k : Nat) (D : Nat → Int) (mn : Nat), k ≤ L.length ∧ kv = .int .i64 (k : Int) ∧ mv = .int .i64 (mn : Int) ∧ mn + (leftL D ls).length = ls.length ∧ Hall (fL m (L.drop k)) (leftL D ls) ∧ ArrAt wr g ls.length 3 D ∧ FrL W1 g wr) (fun _ kv _ _ _ _ => L.length - (intOf kv).toNat)
  case atStart => exact ⟨0, fun _ => 0, 0, Nat.zero_le _, rfl, rfl, by rw [leftL_zero]; omega, by rw [leftL_zero]; exact HH0.out, HG.out, FrL.of_below (Below.refl _ _)⟩
  case round =>
    clear HG HH0
    obtain ⟨k, D, mn, hk, rfl, rfl, hmn, hH, hA, hF⟩ := hrel
    have HMN := Lib.hid hmn
    have HH := Lib.hid hH
    have HA := Lib.hid hA
    have HF := Lib.hid hF
    clear hmn hH hA hF
    by_cases hkl : k < L.length
    · obtain ⟨lb, loff, lc', e, ht⟩ := HLW.out k hkl
      cases e
      have hlbw := lt_of_cell ht
      replace ht := cellB ht HB1.out
      obtain ⟨h0, h1⟩ := HLB.out k hkl
      obtain ⟨t, htt⟩ : ∃ t : Nat, L[k] = (t : Int) := ⟨L[k].toNat, by omega⟩
      have HTT := Lib.hid htt
      obtain ⟨tv, htv⟩ : ∃ tv, L[k] = tv := ⟨_, rfl⟩
      rw [htv] at ht
      have HTV := Lib.hid (show tv = (t : Int) from by rw [← htv, htt])
      have HT := Lib.hid ht
      have HLG := Lib.hid (show lb ≠ g by have := HGW.out; omega)
      have hkk : (k : Int) < (L.length : Int) := by omega
      clear htv htt h0 h1 hlbw ht
      go_wp2_with fail
      go_loopw [6, 8, 9, 10] (fun mv nv _ _ w2 => ∃ (n : Nat) (D : Nat → Int) (mn : Nat), (n : Int) ≤ m ∧ nv = .int .i64 (n : Int) ∧ mv = .int .i64 (mn : Int) ∧ mn + (leftL D ls).length = ls.length ∧ Hall (roomAt m L k t (n : Int)) (leftL D ls) ∧ ArrAt w2 g ls.length 3 D ∧ FrL W1 g w2) (fun _ nv _ _ _ => 1000 - (intOf nv).toNat)
      case atStart => exact ⟨0, D, mn, by omega, rfl, rfl, HMN.out, by have := roomAt_zero m L k t; rw [show ((0 : Nat) : Int) = 0 from rfl, this]; exact HH.out, HA.out, HF.out⟩
      case round =>
        clear HMN HH HA HF
        generalize wr = w2 at *
        obtain ⟨n, D, mn, hnm, rfl, rfl, hmn, hH, hA, hF⟩ := hrel
        have HMN := Lib.hid hmn
        have HH := Lib.hid hH
        have HA := Lib.hid hA
        have HF := Lib.hid hF
        clear hmn hH hA hF
        by_cases hnl : (n : Int) < m
        · have d1 : decide ((n : Int) < m) = true := decide_eq_true hnl
          have yb1 := (B1.out.fr' HF.out (show w.heap.size ≠ g by have := HGW.out; omega)).cell 0
          simp at yb1
          go_wp2_with fail
          clear yb1 d1
          go_loopw [9, 10] (fun bv iv w3 => ∃ (i : Nat) (b : Int), i ≤ ls.length ∧ iv = .int .i64 (i : Int) ∧ bv = .int .i64 b ∧ Pick D ls tv i b ∧ ArrAt w3 g ls.length 3 D ∧ FrL W1 g w3) (fun _ iv _ => ls.length - (intOf iv).toNat)
          case atStart => exact ⟨0, -1, Nat.zero_le _, rfl, rfl, Pick.zero _ _ _, HA.out, HF.out⟩
          case round =>
            clear HA HF
            generalize wr = w3 at *
            obtain ⟨i, b, hi, rfl, rfl, hp, hA, hF⟩ := hrel
            have HP := Lib.hid hp
            have HA := Lib.hid hA
            have HF := Lib.hid hF
            have yb1 := (B1.out.fr' hF (show w.heap.size ≠ g by have := HGW.out; omega)).cell 1
            simp at yb1
            clear hp hA hF
            by_cases hil : i < ls.length
            · have xt := cellF HT.out HF.out HLG.out
              obtain ⟨pb, off, rfl, hpw, hc, hd⟩ := HPW.out i hil
              have hpg : pb ≠ g := by have := HGW.out; omega
              replace hc := cellF (cellB hc HB1.out) HF.out hpg
              replace hd := cellF (cellB hd HB1.out) HF.out hpg
              have xd := HA.out.cell hil
              have HNO := Lib.hid (fun (hn : ¬ (D i = 0 ∧ ls[i].1 ≤ tv ∧ tv ≤ ls[i].2)) => pick_no hil HP.out hn)
              have HY0 := Lib.hid (fun (hb : b = -1) (ha : D i = 0 ∧ ls[i].1 ≤ tv ∧ tv ≤ ls[i].2) => pick_yes0 hil (by rw [← hb]; exact HP.out) ha)
              have HYP := Lib.hid (fun (p : Nat) (hb : b = (p : Int)) (hp : p < ls.length) (ha : D i = 0 ∧ ls[i].1 ≤ tv ∧ tv ≤ ls[i].2) hl => pick_yes hil hp (by rw [← hb]; exact HP.out) ha hl)
              have HWP := Lib.hid (fun (p : Nat) (hb : b = (p : Int)) (hp : p < ls.length) hl => pick_worse hil hp (by rw [← hb]; exact HP.out) hl)
              obtain ⟨l1, hl1⟩ : ∃ x, ls[i].1 = x := ⟨_, rfl⟩
              obtain ⟨l2, hl2⟩ : ∃ x, ls[i].2 = x := ⟨_, rfl⟩
              obtain ⟨dv, hdv⟩ : ∃ x, D i = x := ⟨_, rfl⟩
              rw [hl1] at hc HNO HY0 HYP
              rw [hl2] at hd HNO HY0 HYP HWP
              rw [hdv] at xd HNO HY0 HYP
              have hii : (i : Int) < (ls.length : Int) := by omega
              clear hl1 hl2 hdv hpw
              by_cases q1 : dv = 0
              case neg =>
                have f1 : (dv == 0) = false := by simpa using q1
                have f2 : decide (dv = 0) = false := by simpa using q1
                have HPN := Lib.hid (HNO.out (by omega))
                clear q1
                as_aux_lemma =>
                  go_wp2_with fail
                  have gxd := fun d os => cell_regrown xd d os
                  clear xd
                  refine wp_region_quiet_below (by kernel_rfl) (by kernel_rfl) ?_
                  have hun : undef = Value.tuple #[] := rfl
                  repeat (with_reducible refine wpQuiet_step (fun K hK => ?_); go_simp; with_reducible refine hK _ ?_; clear hK K)
                  refine wpQuiet_nil ?_
                  intro _ hw'
                  obtain ⟨⟨dq, osq⟩, hw''⟩ := hw'
                  subst hw''
                  have hb8 := below_regrown w3 dq osq
                  have HA8 := Lib.hid (HA.out.below hb8)
                  have HF8 := Lib.hid (HF.out.below hb8)
                  rw [← hun]
                  clear hun hb8
                  clear gxd
                  generalize grow (redrawn w3 dq) osq = w9 at *
                  go_wp2
                  go_roundw
                  case rel => exact ⟨i + 1, b, by omega, by go_num, by first | rfl | go_num, HPN.out, HA8.out, HF8.out⟩
                  case measure => simp [intOf] <;> omega
              have f1 : (dv == 0) = true := by simpa using q1
              have f2 : decide (dv = 0) = true := by simpa using q1
              by_cases q2 : l1 ≤ tv
              case neg =>
                have f3 : decide (l1 ≤ tv) = false := by simpa using q2
                have HPN := Lib.hid (HNO.out (by omega))
                clear q1 q2
                as_aux_lemma =>
                  go_wp2_with fail
                  have gxd := fun d os => cell_regrown xd d os
                  have gyb1 := fun d os => cell_regrown yb1 d os
                  have ghc := fun d os => cell_regrown hc d os
                  have gxt := fun d os => cell_regrown xt d os
                  clear xd yb1 hc xt
                  refine wp_region_quiet_below (by kernel_rfl) (by kernel_rfl) ?_
                  have hun : undef = Value.tuple #[] := rfl
                  repeat (with_reducible refine wpQuiet_step (fun K hK => ?_); go_simp; with_reducible refine hK _ ?_; clear hK K)
                  refine wpQuiet_nil ?_
                  intro _ hw'
                  obtain ⟨⟨dq, osq⟩, hw''⟩ := hw'
                  subst hw''
                  have hb8 := below_regrown w3 dq osq
                  have HA8 := Lib.hid (HA.out.below hb8)
                  have HF8 := Lib.hid (HF.out.below hb8)
                  rw [← hun]
                  clear hun hb8
                  clear gxd gyb1 ghc gxt
                  generalize grow (redrawn w3 dq) osq = w9 at *
                  go_wp2
                  go_roundw
                  case rel => exact ⟨i + 1, b, by omega, by go_num, by first | rfl | go_num, HPN.out, HA8.out, HF8.out⟩
                  case measure => simp [intOf] <;> omega
              have f3 : decide (l1 ≤ tv) = true := by simpa using q2
              by_cases q3 : tv ≤ l2
              case neg =>
                have f4 : decide (tv ≤ l2) = false := by simpa using q3
                have f5 : decide (l2 ≥ tv) = false := by simpa using q3
                have HPN := Lib.hid (HNO.out (by omega))
                clear q1 q2 q3
                as_aux_lemma =>
                  go_wp2_with fail
                  have gxd := fun d os => cell_regrown xd d os
                  have gyb1 := fun d os => cell_regrown yb1 d os
                  have ghc := fun d os => cell_regrown hc d os
                  have ghd := fun d os => cell_regrown hd d os
                  have gxt := fun d os => cell_regrown xt d os
                  clear xd yb1 hc hd xt
                  refine wp_region_quiet_below (by kernel_rfl) (by kernel_rfl) ?_
                  have hun : undef = Value.tuple #[] := rfl
                  repeat (with_reducible refine wpQuiet_step (fun K hK => ?_); go_simp; with_reducible refine hK _ ?_; clear hK K)
                  refine wpQuiet_nil ?_
                  intro _ hw'
                  obtain ⟨⟨dq, osq⟩, hw''⟩ := hw'
                  subst hw''
                  have hb8 := below_regrown w3 dq osq
                  have HA8 := Lib.hid (HA.out.below hb8)
                  have HF8 := Lib.hid (HF.out.below hb8)
                  rw [← hun]
                  clear hun hb8
                  clear gxd gyb1 ghc ghd gxt
                  generalize grow (redrawn w3 dq) osq = w9 at *
                  go_wp2
                  go_roundw
                  case rel => exact ⟨i + 1, b, by omega, by go_num, by first | rfl | go_num, HPN.out, HA8.out, HF8.out⟩
                  case measure => simp [intOf] <;> omega
              have f4 : decide (tv ≤ l2) = true := by simpa using q3
              have f5 : decide (l2 ≥ tv) = true := by simpa using q3
              have HAV := Lib.hid (show dv = 0 ∧ l1 ≤ tv ∧ tv ≤ l2 from ⟨q1, q2, q3⟩)
              clear q1 q2 q3
              rcases pick_lt HP.out with hb | ⟨p, hb, hpi⟩
              · have HPN := Lib.hid (HY0.out hb HAV.out)
                subst hb
                clear HP
                as_aux_lemma =>
                  go_wp2_with fail
                  have gxd := fun d os => cell_regrown xd d os
                  have gyb1 := fun d os => cell_regrown yb1 d os
                  have ghc := fun d os => cell_regrown hc d os
                  have ghd := fun d os => cell_regrown hd d os
                  have gxt := fun d os => cell_regrown xt d os
                  clear xd yb1 hc hd xt
                  refine wp_region_quiet_below (by kernel_rfl) (by kernel_rfl) ?_
                  have hun : undef = Value.tuple #[] := rfl
                  repeat (with_reducible refine wpQuiet_step (fun K hK => ?_); go_simp; with_reducible refine hK _ ?_; clear hK K)
                  refine wpQuiet_nil ?_
                  intro _ hw'
                  obtain ⟨⟨dq, osq⟩, hw''⟩ := hw'
                  subst hw''
                  have hb8 := below_regrown w3 dq osq
                  have HA8 := Lib.hid (HA.out.below hb8)
                  have HF8 := Lib.hid (HF.out.below hb8)
                  rw [← hun]
                  clear hun hb8
                  clear gxd gyb1 ghc ghd gxt
                  generalize grow (redrawn w3 dq) osq = w9 at *
                  go_wp2
                  go_roundw
                  case rel => exact ⟨i + 1, i, by omega, by go_num, by first | rfl | go_num, HPN.out, HA8.out, HF8.out⟩
                  case measure => simp [intOf] <;> omega
              · have hpl : p < ls.length := by omega
                obtain ⟨pb', off', e, _, _, hd2⟩ := HPW.out p hpl
                cases e
                replace hd2 := cellF (cellB hd2 HB1.out) HF.out hpg
                replace HYP := Lib.hid (HYP.out p hb hpl HAV.out)
                replace HWP := Lib.hid (HWP.out p hb hpl)
                obtain ⟨l4, hl4⟩ : ∃ x, ls[p].2 = x := ⟨_, rfl⟩
                rw [hl4] at hd2 HYP HWP
                have hpp : (p : Int) < (ls.length : Int) := by omega
                have f6 : decide ((p : Int) < 0) = false := decide_eq_false (by omega)
                subst hb
                clear hl4 HP
                by_cases q4 : l2 < l4
                · have f7 : decide (l2 < l4) = true := decide_eq_true q4
                  have HPN := Lib.hid (HYP.out q4)
                  clear q4
                  as_aux_lemma =>
                    go_wp2_with fail
                    have gxd := fun d os => cell_regrown xd d os
                    have gyb1 := fun d os => cell_regrown yb1 d os
                    have ghc := fun d os => cell_regrown hc d os
                    have ghd := fun d os => cell_regrown hd d os
                    have ghd2 := fun d os => cell_regrown hd2 d os
                    have gxt := fun d os => cell_regrown xt d os
                    clear xd yb1 hc hd hd2 xt
                    refine wp_region_quiet_below (by kernel_rfl) (by kernel_rfl) ?_
                    have hun : undef = Value.tuple #[] := rfl
                    repeat (with_reducible refine wpQuiet_step (fun K hK => ?_); go_simp; with_reducible refine hK _ ?_; clear hK K)
                    refine wpQuiet_nil ?_
                    intro _ hw'
                    obtain ⟨⟨dq, osq⟩, hw''⟩ := hw'
                    subst hw''
                    have hb8 := below_regrown w3 dq osq
                    have HA8 := Lib.hid (HA.out.below hb8)
                    have HF8 := Lib.hid (HF.out.below hb8)
                    rw [← hun]
                    clear hun hb8
                    clear gxd gyb1 ghc ghd ghd2 gxt
                    generalize grow (redrawn w3 dq) osq = w9 at *
                    go_wp2
                    go_roundw
                    case rel => exact ⟨i + 1, i, by omega, by go_num, by first | rfl | go_num, HPN.out, HA8.out, HF8.out⟩
                    case measure => simp [intOf] <;> omega
                · have f7 : decide (l2 < l4) = false := decide_eq_false q4
                  have HPN := Lib.hid (HWP.out q4)
                  clear q4
                  as_aux_lemma =>
                    go_wp2_with fail
                    have gxd := fun d os => cell_regrown xd d os
                    have gyb1 := fun d os => cell_regrown yb1 d os
                    have ghc := fun d os => cell_regrown hc d os
                    have ghd := fun d os => cell_regrown hd d os
                    have ghd2 := fun d os => cell_regrown hd2 d os
                    have gxt := fun d os => cell_regrown xt d os
                    clear xd yb1 hc hd hd2 xt
                    refine wp_region_quiet_below (by kernel_rfl) (by kernel_rfl) ?_
                    have hun : undef = Value.tuple #[] := rfl
                    repeat (with_reducible refine wpQuiet_step (fun K hK => ?_); go_simp; with_reducible refine hK _ ?_; clear hK K)
                    refine wpQuiet_nil ?_
                    intro _ hw'
                    obtain ⟨⟨dq, osq⟩, hw''⟩ := hw'
                    subst hw''
                    have hb8 := below_regrown w3 dq osq
                    have HA8 := Lib.hid (HA.out.below hb8)
                    have HF8 := Lib.hid (HF.out.below hb8)
                    rw [← hun]
                    clear hun hb8
                    clear gxd gyb1 ghc ghd ghd2 gxt
                    generalize grow (redrawn w3 dq) osq = w9 at *
                    go_wp2
                    go_roundw
                    case rel => exact ⟨i + 1, p, by omega, by go_num, by first | rfl | go_num, HPN.out, HA8.out, HF8.out⟩
                    case measure => simp [intOf] <;> omega
            · obtain rfl : i = ls.length := by omega
              have HPS := Lib.hid (pick_step HH.out HOK.out hkl HTT.out HS.out hy1 hnl (by rw [← HTV.out]; exact HP.out))
              have HNX := Lib.hid (show ((n : Int) + 1) = ((n + 1 : Nat) : Int) by omega)
              rcases HPS.out with ⟨hb, hh⟩ | ⟨p, hb, hpl, hh, hlen⟩
              · subst hb
                have HH2 := Lib.hid hh
                clear hh HPS HP
                go_wp2_with fail
                go_roundw
                case rel => exact ⟨n + 1, D, mn, by omega, by go_num, by rfl, HMN.out, by rw [← HNX.out]; exact HH2.out, HA.out, HF.out⟩
                case measure => simp [intOf] <;> omega
              · subst hb
                have HH2 := Lib.hid hh
                have HLE := Lib.hid hlen
                clear hh HPS HP hlen
                have f6 : decide ((p : Int) ≥ 0) = true := decide_eq_true (by omega)
                have f7 : decide ((0 : Int) ≤ (p : Int)) = true := decide_eq_true (by omega)
                have hpp : (p : Int) < (ls.length : Int) := by omega
                have hmb : mn ≤ 10 := by have := HMN.out; omega
                have xc := HA.out.cell hpl
                have xf := HA.out.frozen p
                have xl := HA.out.lt
                go_wp2_with fail
                clear xc xf xl
                go_roundw
                case rel => exact ⟨n + 1, fun j => if j = p then 1 else D j, mn + 1, by omega, by go_num, by go_num, by have := HMN.out; have := HLE.out; omega, by rw [← HNX.out]; exact HH2.out, HA.out.set p 1, HF.out.set p _⟩
                case measure => simp [intOf] <;> omega
        · have d1 : decide ((n : Int) < m) = false := decide_eq_false hnl
          have hnm2 : (n : Int) = m := by omega
          have HHE := Lib.hid (show Hall (fL m (L.drop (k + 1))) (leftL D ls) from by have := HH.out; rw [hnm2, roomAt_end hkl HTT.out] at this; exact this)
          have yb1 := (B1.out.fr' HF.out (show w.heap.size ≠ g by have := HGW.out; omega)).cell 0
          simp at yb1
          clear hnm2
          go_wp2_with fail
          clear yb1 d1
          go_roundw
          case rel => exact ⟨k + 1, D, mn, by omega, by go_num, by rfl, HMN.out, HHE.out, HA.out, HF.out⟩
          case measure => simp [intOf] <;> omega
    · obtain rfl : k = L.length := by omega
      have HE := Lib.hid (hall_done HH.out HOK.out)
      have hmn : mn = ls.length := by have := HMN.out; rw [HE.out] at this; simpa using this
      have yb1 := (B1.out.fr' HF.out (show w.heap.size ≠ g by have := HGW.out; omega)).cell 1
      simp at yb1
      have HBE := Lib.hid (HB1.out.trans (HF.out.under (B := w.heap.size) HB1.out.size (by have := HGW.out; omega)))
      subst hmn
      go_wp2
      go_ret
      exact ⟨by simp, HBE.out⟩
end Go.Proofs.Ytjbeoakikdkdaaa

namespace Go.Proofs.Ytjbeoakikdkdaaa
open Go.RowKit Go.Vat Go.Sort Go.Shelf
attribute [local go_sem] Oper.semAt_some

/-! ## Early and late loads are reached -/
theorem all_bd {L : List Int} (h : ∀ i (h : i < L.length), 0 ≤ L[i]'h ∧ L[i]'h ≤ 100) : ∀ k (h : k < L.length), 0 ≤ L[k] ∧ L[k] ≤ 100 := h
set_option maxRecDepth 100000 in
set_option maxHeartbeats 16000000 in
theorem SteamReached_any (v : Value) (y : YardD) (w : World) (hv : YardAt w v y) :
    Calls Try.prog 9 #[v] w fun e w' => e = .returned (.bool true) ∧ Below w.heap.size w w' := by
  obtain ⟨sv, rfl, hp⟩ := hv
  obtain ⟨sa, cap, rfl⟩ := hp.slice
  have hB0 := below1 w (.cells #[.int .i64 y.load, .slice sa y.logs.length cap] 24)
  have B0 := Lib.hid (Blk.new w (.cells #[.int .i64 y.load, .slice sa y.logs.length cap] 24))
  have HB := Lib.hid hB0
  have HV := Lib.hid (show YardAt _ (.agg #[.int .i64 y.load, .slice sa y.logs.length cap]) y from ⟨_, rfl, hp.below hB0⟩)
  clear hp hB0
  by_cases hyd : y.Ok
  case neg =>
    go_enter Try.func9, Try.ntmps9
    go_wp2_with fail
    generalize w.alloc (.cells #[.int .i64 y.load, .slice sa y.logs.length cap] 24) = W0 at *
    refine (fine_no (.agg #[.int .i64 y.load, .slice sa y.logs.length cap]) y _ HV.out hyd).mono ?_
    rintro e v1 ⟨rfl, hb⟩
    replace HV := Lib.hid (HV.out.below hb)
    replace B0 := Lib.hid (B0.out.below hb)
    replace HB := Lib.hid (bC HB.out hb)
    clear hb
    have B0c0 := B0.out.cell 0
    have B0c1 := B0.out.cell 1
    simp at B0c0 B0c1
    go_wp2_with fail
    clear B0c0 B0c1
    refine (Works_any _).mono ?_
    rintro e v2 ⟨rfl, hb⟩
    replace HV := Lib.hid (HV.out.below hb)
    replace B0 := Lib.hid (B0.out.below hb)
    replace HB := Lib.hid (bC HB.out hb)
    clear hb
    go_wp2
    go_ret
    exact ⟨rfl, HB.out⟩
  have HYD := Lib.hid hyd
  have hl10 := hyd.count
  clear hyd
  go_enter Try.func9, Try.ntmps9
  go_wp2_with fail
  generalize w.alloc (.cells #[.int .i64 y.load, .slice sa y.logs.length cap] 24) = W0 at *
  refine (fine_yes (.agg #[.int .i64 y.load, .slice sa y.logs.length cap]) y _ HV.out HYD.out).mono ?_
  rintro e v1 ⟨rfl, hb⟩
  replace HV := Lib.hid (HV.out.below hb)
  replace B0 := Lib.hid (B0.out.below hb)
  replace HB := Lib.hid (bC HB.out hb)
  clear hb
  have B0c0 := B0.out.cell 0
  have B0c1 := B0.out.cell 1
  simp at B0c0 B0c1
  go_wp2_with fail
  clear B0c0 B0c1
  refine (fewest_law (.agg #[.int .i64 y.load, .slice sa y.logs.length cap]) y _ HV.out HYD.out).mono ?_
  rintro e v2 ⟨vh, xs, rfl, hi, hf, hn, hb⟩
  replace HV := Lib.hid (HV.out.below hb)
  replace B0 := Lib.hid (B0.out.below hb)
  replace HB := Lib.hid (bC HB.out hb)
  clear hb
  clear hi hf hn
  have HEL := Lib.hid (earlyL_length HYD.out)
  have HLL := Lib.hid (lateL_length y)
  have HU10 := Lib.hid (U_len HYD.out 101)
  have HEN := Lib.hid (fun lv W (h1 : YardAt W (.agg #[.int .i64 y.load, .slice sa y.logs.length cap]) y) h2 h3 => enough_law (.agg #[.int .i64 y.load, .slice sa y.logs.length cap]) lv (earlyL y) y W h1 h2 HYD.out (fun _ _ hij h => earlyL_sorted hij h) (fun _ h => earlyL_bd h) h3 (hall_early HYD.out))
  have HLN := Lib.hid (fun lv W (h1 : YardAt W (.agg #[.int .i64 y.load, .slice sa y.logs.length cap]) y) h2 h3 => enough_law (.agg #[.int .i64 y.load, .slice sa y.logs.length cap]) lv (lateL y) y W h1 h2 HYD.out (fun _ _ hij h => lateL_sorted hij h) (fun _ h => lateL_bd h) h3 (hall_late HYD.out))
  obtain ⟨F, hF⟩ : ∃ F, U y 101 = F := ⟨_, rfl⟩
  obtain ⟨EL, hE⟩ : ∃ EL, earlyL y = EL := ⟨_, rfl⟩
  obtain ⟨LT, hL⟩ : ∃ LT, lateL y = LT := ⟨_, rfl⟩
  rw [hF] at HEL HLL HU10 ⊢
  rw [hE] at HEL HEN
  rw [hL] at HLL HLN
  have HEE := Lib.hid hE
  have HLE := Lib.hid hL
  clear hF hE hL
  have B0c0 := B0.out.cell 0
  have B0c1 := B0.out.cell 1
  simp at B0c0 B0c1
  go_wp2_with fail
  clear B0c0 B0c1
  refine (Early_ok (.agg #[.int .i64 y.load, .slice sa y.logs.length cap]) y _ HV.out HYD.out).mono ?_
  rintro e v3 ⟨vv, rfl, hi, hb⟩
  replace HV := Lib.hid (HV.out.below hb)
  replace B0 := Lib.hid (B0.out.below hb)
  replace HB := Lib.hid (bC HB.out hb)
  clear hb
  rw [HEE.out] at hi
  obtain ⟨ea, eac, rfl⟩ := hi.slice
  have HI0 := Lib.hid hi
  clear hi
  have B0c0 := B0.out.cell 0
  have B0c1 := B0.out.cell 1
  simp at B0c0 B0c1
  go_wp2_with fail
  clear B0c0 B0c1
  refine (Late_ok (.agg #[.int .i64 y.load, .slice sa y.logs.length cap]) y _ HV.out HYD.out).mono ?_
  rintro e v4 ⟨vv, rfl, hi, hb⟩
  replace HV := Lib.hid (HV.out.below hb)
  replace HI0 := Lib.hid (HI0.out.below hb)
  replace B0 := Lib.hid (B0.out.below hb)
  replace HB := Lib.hid (bC HB.out hb)
  clear hb
  rw [HLE.out] at hi
  obtain ⟨la, lac, rfl⟩ := hi.slice
  have HI1 := Lib.hid hi
  clear hi
  have hq1 := HEL.out
  have hq2 := HLL.out
  have hel10 : EL.length ≤ 10 := by have := HU10.out; omega
  have hll10 : LT.length ≤ 10 := by have := HU10.out; omega
  have d11 : ((EL.length : Int) != F) = false := by simp only [bne_eq_false_iff_eq]; omega
  have d12 : decide ((EL.length : Int) = F) = true := decide_eq_true (by omega)
  have d21 : ((LT.length : Int) != F) = false := by simp only [bne_eq_false_iff_eq]; omega
  have d22 : decide ((LT.length : Int) = F) = true := decide_eq_true (by omega)
  clear hq1 hq2
  have B0c0 := B0.out.cell 0
  have B0c1 := B0.out.cell 1
  simp at B0c0 B0c1
  go_wp2_with fail
  clear B0c0 B0c1
  refine (HEN.out _ _ HV.out HI0.out (by omega)).mono ?_
  rintro e v5 ⟨rfl, hb⟩
  replace HV := Lib.hid (HV.out.below hb)
  replace HI0 := Lib.hid (HI0.out.below hb)
  replace HI1 := Lib.hid (HI1.out.below hb)
  replace B0 := Lib.hid (B0.out.below hb)
  replace HB := Lib.hid (bC HB.out hb)
  clear hb
  have B0c0 := B0.out.cell 0
  have B0c1 := B0.out.cell 1
  simp at B0c0 B0c1
  go_wp2_with fail
  clear B0c0 B0c1
  refine (HLN.out _ _ HV.out HI1.out (by omega)).mono ?_
  rintro e v6 ⟨rfl, hb⟩
  replace HV := Lib.hid (HV.out.below hb)
  replace HI0 := Lib.hid (HI0.out.below hb)
  replace HI1 := Lib.hid (HI1.out.below hb)
  replace B0 := Lib.hid (B0.out.below hb)
  replace HB := Lib.hid (bC HB.out hb)
  clear hb
  have B0c0 := B0.out.cell 0
  have B0c1 := B0.out.cell 1
  simp at B0c0 B0c1
  go_wp2_with fail
  clear B0c0 B0c1
  refine (Works_any _).mono ?_
  rintro e v7 ⟨rfl, hb⟩
  replace HV := Lib.hid (HV.out.below hb)
  replace HI0 := Lib.hid (HI0.out.below hb)
  replace HI1 := Lib.hid (HI1.out.below hb)
  replace B0 := Lib.hid (B0.out.below hb)
  replace HB := Lib.hid (bC HB.out hb)
  clear hb
  go_wp2
  go_ret
  exact ⟨rfl, HB.out⟩
end Go.Proofs.Ytjbeoakikdkdaaa
