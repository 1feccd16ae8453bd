import Derived.Test.YtjbeoakikdkdaaaTa
namespace Go.Proofs.Ytjbeoakikdkdaaa
open Go.RowKit Go.Vat Go.Sort Go.Shelf
attribute [local go_sem] Oper.semAt_some

/-! ## The loads of right hours, in order -/
section
variable {w w0 : World} {o : Oper} {a : Act} {K : Act → World → Prop} {Q : Exit → Act → World → Prop}
/-- One number more at the end of a list of the call's own, as one operation. -/
theorem wpo_app64 (s x : Operand) (ho : o.op = .call { callee := .builtin .append, args := #[s, x], argTypes := #[25, 25] })
    (base : Nat) (v : Value) (n : Nat) (xs : List Value) (hs : a.eval s = v) (hown : w.ownsRow base 2 1 v n xs)
    (b : Nat) (y : Int) (T : TypeId) (hx : a.eval x = .slice (some ⟨b, 0, none⟩) 1 1) (hb : Blk w b (.cells #[.int .i64 y] T)) (hn : n ≤ 100000) (hB : Below base w0 w) (hbase : base ≤ w.heap.size)
    (h : ∀ a2 c2 w', w'.ownsRow base 2 1 (.slice a2 (n + 1) c2) (n + 1) (xs ++ [.int .i64 y]) → Below base w0 w' → w.grownBy w' v.ownBlock → K (a.put o.dst (.slice a2 (n + 1) c2)) w') : o.wp Try.prog a w K Q := by
  obtain ⟨i0, hif, hz0, hz1, hz2⟩ := info_parts infoA64
  refine wp_append_own _ s x 25 ho base 2 i0 (.int .i64 0) 1 8 undA64 hif hz0 hz1 hz2 rfl (by decide) v n xs hs hown ⟨b, 0, none⟩ 1 1 [.int .i64 y] hx rfl (blk_src hb) (one1 y) (by unfold maxLen; omega) (by omega) hbase ?_
  intro v' w' h1 h2 _
  obtain ⟨a2, c2, rfl⟩ := owns_slice h1
  exact h a2 c2 w' h1 (below_owns2 hown h2 hB (Nat.le_refl _) hbase) h2
end
/-- The loads of the hours below h, and some of hour h. -/
def ordP (m : Int) (xs : List Int) (h j : Nat) : List Int := LL (N m xs) h ++ List.replicate j (h : Int)
theorem ordP_zero (m : Int) (xs : List Int) (h : Nat) : ordP m xs h 0 = LL (N m xs) h := by simp [ordP]
theorem ordP_step (m : Int) (xs : List Int) (h j : Nat) : ordP m xs h (j + 1) = ordP m xs h j ++ [(h : Int)] := by
  unfold ordP
  rw [List.replicate_succ', List.append_assoc]
theorem ordP_end {m : Int} (hm : 1 ≤ m) (xs : List Int) (h j : Nat) (c : Int) (hc : Hc xs xs.length h = c) (h1 : (j : Int) ≤ up c m) (h2 : c ≤ j * m) : ordP m xs h j = LL (N m xs) (h + 1) := by
  have h3 := (up_le_iff hm).2 h2
  have h4 : N m xs (h + 1) - N m xs h = up c m := by
    rw [← hc]
    unfold Hc
    rw [List.take_length, N]
    omega
  rw [LL, h4]
  unfold ordP
  congr 2
  omega
theorem ordP_len {m : Int} (hm : 1 ≤ m) (xs : List Int) (h j : Nat) (c : Int) (hc : Hc xs xs.length h = c) (h1 : (j : Int) ≤ up c m) : (ordP m xs h j).length ≤ xs.length := by
  have h4 : N m xs (h + 1) - N m xs h = up c m := by
    rw [← hc]
    unfold Hc
    rw [List.take_length, N]
    omega
  have h5 := LL_length (F := N m xs) (N_mono1 hm xs) h
  have h6 := N_le_count hm xs (h + 1)
  have h7 : N m xs 0 = 0 := rfl
  unfold ordP
  rw [List.length_append, List.length_replicate]
  omega
theorem Hc_next {xs : List Int} {k h : Nat} (hk : k < xs.length) (x : Int) (hx : xs[k] = x) : Hc xs (k + 1) h = if x = (h : Int) then Hc xs k h + 1 else Hc xs k h := by
  unfold Hc
  rw [List.take_succ_eq_append_getElem hk, List.count_append, hx, List.count_singleton]
  by_cases e : x = (h : Int)
  · rw [if_pos e, if_pos (by simpa using e)]; omega
  · rw [if_neg e, if_neg (by simpa using e)]; omega
set_option maxRecDepth 100000 in
set_option maxHeartbeats 8000000 in
theorem order_any (v xv : Value) (xs : List Int) (y : YardD) (w : World) (hv : YardAt w v y) (hx : IntsAt w xv xs) (hy : y.Ok) (hl : xs.length ≤ 1000) :
    Calls Try.prog 42 #[v, xv] w fun e w' => ∃ vo, e = .returned vo ∧ IntsAt w' vo (orderL y xs) ∧ Below w.heap.size w w' := by
  obtain ⟨sv, rfl, hp⟩ := hv
  obtain ⟨sa, cap, rfl⟩ := hp.slice
  have hB0 := below1 w (.cells #[.int .i64 y.load, .slice sa y.logs.length cap] 24)
  have B0 := Lib.hid (Blk.new w (.cells #[.int .i64 y.load, .slice sa y.logs.length cap] 24))
  have HB := Lib.hid hB0
  have HV := Lib.hid (show YardAt _ (.agg #[.int .i64 y.load, .slice sa y.logs.length cap]) y from ⟨_, rfl, hp.below hB0⟩)
  have HX := Lib.hid (hx.below hB0)
  have hm1 := hy.l1
  have hm2 := hy.l2
  have hz0 : (w.alloc (.cells #[.int .i64 y.load, .slice sa y.logs.length cap] 24)).heap.size = w.heap.size + 1 := by simp
  obtain ⟨xa, xc, rfl⟩ := hx.slice
  have HLEN := Lib.hid (fun h j c (hc : Hc xs xs.length h = c) (h1 : ((j : Nat) : Int) ≤ up c y.load) => ordP_len hm1 xs h j c hc h1)
  have HEND := Lib.hid (fun h j c (hc : Hc xs xs.length h = c) (h1 : ((j : Nat) : Int) ≤ up c y.load) (h2 : c ≤ j * y.load) => ordP_end hm1 xs h j c hc h1 h2)
  clear hy hx
  clear hp hB0
  go_enter Try.func42, Try.ntmps42
  go_wp2_with fail
  generalize w.alloc (.cells #[.int .i64 y.load, .slice sa y.logs.length cap] 24) = W0 at *
  obtain ⟨m, hm⟩ : ∃ m, y.load = m := ⟨_, rfl⟩
  have HO := Lib.hid (show orderL y xs = LL (N m xs) 101 by rw [← hm]; rfl)
  have c0 := B0.out.cell 0
  simp at c0
  rw [hm] at HLEN HEND hm1 hm2 c0
  have C0 := Lib.hid c0
  clear c0 hm
  have HP0 := Lib.hid (fun h => ordP_zero m xs h)
  have HPS := Lib.hid (fun h j => ordP_step m xs h j)
  have HG0 := Lib.hid (show LL (N m xs) 0 = [] from rfl)
  obtain ⟨G, hG⟩ : ∃ G, LL (N m xs) = G := ⟨_, rfl⟩
  obtain ⟨P, hP⟩ : ∃ P, ordP m xs = P := ⟨_, rfl⟩
  rw [hG] at HP0 HG0 HEND HO
  rw [hP] at HP0 HPS HEND HLEN
  clear hG hP
  go_loopw [5, 6, 7, 8] (fun o s _ _ wr => ∃ h : Nat, h ≤ 101 ∧ s = .int .i64 h ∧ wr.ownsRow W0.heap.size 2 1 o (G h).length ((G h).map (Value.int .i64)) ∧ Below W0.heap.size W0 wr) (fun _ s _ _ _ => 101 - (intOf s).toNat)
  case atStart => exact ⟨0, by omega, rfl, by rw [HG0.out]; exact owns_nil _ _ _ _, Below.refl _ _⟩
  case round =>
    obtain ⟨h, hh, rfl, hown, hbw⟩ := hrel
    have HOWN := Lib.hid hown
    have HBW := Lib.hid hbw
    clear hown hbw
    by_cases hlt : h ≤ 100
    · have d1 : decide ((h : Int) ≤ 100) = true := decide_eq_true (by omega)
      obtain ⟨oa, oc, ho⟩ := owns_slice HOWN.out
      subst ho
      go_wp2_with fail
      clear d1
      go_loopw [7, 8] (fun n s w2 => ∃ i : Nat, i ≤ xs.length ∧ s = .int .i64 i ∧ n = .int .i64 (Hc xs i h) ∧ w2 = wr) (fun _ s _ => xs.length - (intOf s).toNat)
      case atStart => exact ⟨0, Nat.zero_le _, rfl, by rw [Hc_zero], rfl⟩
      case round =>
        obtain ⟨i, hi, rfl, rfl, hw⟩ := hrel
        by_cases hit : i < xs.length
        · obtain ⟨pb, off, cc, e, hc⟩ := (HX.out.below HBW.out).get i hit
          cases e
          have HN := Lib.hid (fun x hx => Hc_next (h := h) hit x hx)
          have hcb := Hc_bd xs i h
          obtain ⟨x, hx⟩ : ∃ x, xs[i] = x := ⟨_, rfl⟩
          rw [hx] at hc
          have HN2 := Lib.hid (HN.out x hx)
          obtain ⟨c, hcc⟩ : ∃ c, Hc xs i h = c := ⟨_, rfl⟩
          rw [hcc] at HN2 hcb ⊢
          have q1 : (i : Int) < (xs.length : Int) := by omega
          have q2 : IntKind.i64.wrap (c + 1) = c + 1 := IntWalk.i64_in _ (by omega)
          subst hw
          clear hx hcc HN
          by_cases q : x = (h : Int)
          · have d2 : (x == (h : Int)) = true := by simpa using q
            have d3 : decide (x = (h : Int)) = true := by simpa using q
            rw [if_pos q] at HN2
            clear q
            go_wp2_with fail
            go_roundw
            case rel => exact ⟨i + 1, by omega, by go_num, by rw [HN2.out], by trivial⟩
            case measure => simp [intOf] <;> omega
          · have d2 : (x == (h : Int)) = false := by simpa using q
            have d3 : decide (x = (h : Int)) = false := by simpa using q
            rw [if_neg q] at HN2
            clear q
            go_wp2_with fail
            go_roundw
            case rel => exact ⟨i + 1, by omega, by go_num, by rw [HN2.out], by trivial⟩
            case measure => simp [intOf] <;> omega
        · obtain rfl : i = xs.length := by omega
          subst hw
          go_wp2_with fail
          have hcb := Hc_bd xs xs.length h
          have HLN := Lib.hid (fun j => HLEN.out h j _ rfl)
          have HEN := Lib.hid (fun j => HEND.out h j _ rfl)
          obtain ⟨c, hcc⟩ : ∃ c, Hc xs xs.length h = c := ⟨_, rfl⟩
          rw [hcc] at hcb HLN HEN ⊢
          have HUP := Lib.hid (fun k : Int => up_le_iff (n := c) (k := k) hm1)
          have hup0 := up_nonneg hm1 hcb.1
          obtain ⟨u, hu⟩ : ∃ u, up c m = u := ⟨_, rfl⟩
          rw [hu] at HLN HEN HUP hup0
          clear hcc hu
          go_loopw [5, 7] (fun o n w2 => ∃ (j : Nat) (iv : Int), (j : Int) ≤ u ∧ iv = c - j * m ∧ iv ≤ 1000 ∧ -10 ≤ iv ∧ n = .int .i64 iv ∧ w2.ownsRow W0.heap.size 2 1 o (P h j).length ((P h j).map (Value.int .i64)) ∧ Below W0.heap.size W0 w2) (fun _ n _ => (intOf n).toNat)
          case atStart => exact ⟨0, c, by omega, by simp, by omega, by omega, rfl, by rw [HP0.out]; exact HOWN.out, HBW.out⟩
          case round =>
            clear HOWN HBW
            obtain ⟨j, iv, hj, hiv, hb1, hb2, rfl, hown, hbw⟩ := hrel
            have HOWN := Lib.hid hown
            have HBW := Lib.hid hbw
            have HST := Lib.hid (HPS.out h j)
            have HOL := Lib.hid (HLN.out j hj)
            clear hown hbw
            by_cases hpos : 0 < iv
            · have d2 : decide (iv > 0) = true := decide_eq_true (by omega)
              have d3 : decide (0 < iv) = true := decide_eq_true (by omega)
              have hj2 : ((j + 1 : Nat) : Int) ≤ u := by
                have h1 : ¬ u ≤ (j : Int) := fun hle => by
                  have := (HUP.out (j : Int)).1 hle
                  omega
                omega
              have hiv2 : iv - m = c - ((j + 1 : Nat) : Int) * m := by
                rw [hiv, show (((j + 1 : Nat) : Int)) = (j : Int) + 1 by omega, Int.add_mul]
                omega
              have HIV := Lib.hid (And.intro hj2 hiv2)
              have u1 : IntKind.i64.wrap (iv - m) = iv - m := IntWalk.i64_in _ (by omega)
              obtain ⟨OL, hOL⟩ : ∃ OL, P h j = OL := ⟨_, rfl⟩
              rw [hOL] at HOWN HST HOL
              have hol := HOL.out
              obtain ⟨oa, oc, ho⟩ := owns_slice HOWN.out
              subst ho
              have cc0 := cellB C0.out HBW.out
              clear hj2 hiv2 hiv hj hOL
              go_wp2_with fail
              have y0 : wr.drew.cell? ⟨w.heap.size, 0, none⟩ = some (.int .i64 m) := cc0
              have own : wr.drew.ownsRow W0.heap.size 2 1 (.slice oa OL.length oc) OL.length (OL.map (Value.int .i64)) := HOWN.out
              have bel : Below W0.heap.size W0 wr.drew := HBW.out.drew
              clear HOWN HBW cc0
              refine (wp_region_T 9 (fun W' => W'.cell? ⟨w.heap.size, 0, none⟩ = some (.int .i64 m)) (by kernel_rfl) (by kernel_rfl) y0 ?_)
              intro inv hS
              clear y0
              generalize wr.drew = V0 at *
              refine wpAnyT_take inv (by kernel_rfl) (by omega) (i := 0) (v := .slice oa OL.length oc) rfl (by kernel_rfl) (by kernel_rfl) (fun _ _ _ h => h) (Or.inl ⟨by kernel_rfl, ?_⟩) (by assumption) ?_
              · rintro W' q0
                go_simp
              intro inv2
              clear inv
              have inv := inv2
              clear inv2
              simp only [Act.put, List.setIfInBounds_toArray]
              refine wpAnyT_take inv (by kernel_rfl) (by omega) (i := 1) (v := .int .i64 (h : Int)) rfl (by kernel_rfl) (by kernel_rfl) (fun _ _ _ h => h) (Or.inl ⟨by kernel_rfl, ?_⟩) (by assumption) ?_
              · rintro W' q0
                go_simp
              intro inv2
              clear inv
              have inv := inv2
              clear inv2
              simp only [Act.put]
              refine wpAnyT_take inv (by kernel_rfl) (by omega) (i := 4) (v := .int .i64 iv) rfl (by kernel_rfl) (by kernel_rfl) (fun _ _ _ h => h) (Or.inl ⟨by kernel_rfl, ?_⟩) (by assumption) ?_
              · rintro W' q0
                go_simp
              intro inv2
              clear inv
              have inv := inv2
              clear inv2
              simp only [Act.put]
              refine wpAnyT_take inv (by kernel_rfl) (by omega) (i := 5) (v := .pointer (some ⟨w.heap.size, 0, none⟩)) rfl (by kernel_rfl) (by kernel_rfl) (fun _ _ _ h => h) (Or.inl ⟨by kernel_rfl, ?_⟩) (by assumption) ?_
              · rintro W' q0
                go_simp
              intro inv2
              clear inv
              have inv := inv2
              clear inv2
              simp only [Act.put]
              refine wpAnyT_take inv (by kernel_rfl) (by omega) (i := 6) (v := .int .i64 m) rfl (by kernel_rfl) (by kernel_rfl) (fun _ _ _ h => h) (Or.inl ⟨by kernel_rfl, ?_⟩) (by assumption) ?_
              · rintro W' q0
                go_simp
              intro inv2
              clear inv
              have inv := inv2
              clear inv2
              simp only [Act.put]
              refine wpAnyT_take inv (by kernel_rfl) (by omega) (i := 7) (v := .int .i64 (iv - m)) rfl (by kernel_rfl) (by kernel_rfl) (fun _ _ _ h => h) (Or.inl ⟨by kernel_rfl, ?_⟩) (by assumption) ?_
              · rintro W' q0
                go_simp
              intro inv2
              clear inv
              have inv := inv2
              clear inv2
              simp only [Act.put]
              refine wpAnyT_ready [2] (by kernel_rfl) (by simp) ?_
              refine AllReadyT.cons rfl (fun K hK => ?_) AllReadyT.nil
              go_simp
              have hA := below1 V0 (.cells #[.int .i64 (h : Int)] 2)
              refine hK.out _ _ (fun _ => cellB hS hA) (fun _ => ?_)
              replace inv := HeadM.step inv 2 (by kernel_rfl) (by omega)
              clear hK K
              replace hS := (cellB hS hA)
              try simp only [Act.put]
              have bN := Blk.new V0 (.cells #[.int .i64 (h : Int)] 2)
              replace own := owns_below own hA
              replace bel := bel.trans (hA.mono (by have := bel.size; omega))
              obtain ⟨bx, hbx⟩ : ∃ bx, V0.heap.size = bx := ⟨_, rfl⟩
              rw [hbx] at bN ⊢
              clear hA hbx
              generalize V0.alloc (.cells #[.int .i64 (h : Int)] 2) = V9 at *
              refine wpAnyT_ready [3] (by kernel_rfl) (by simp) ?_
              refine AllReadyT.cons rfl (fun K hK => ?_) AllReadyT.nil
              rw [if_pos (by kernel_rfl)]
              refine wpo_app64 (.tmp 29) (.tmp 31) rfl _ _ _ _ rfl own _ _ _ rfl bN (by omega) bel (by have := bel.size; omega) ?_
              intro a2 c2 w3 own3 bel3 gr3
              refine hK.out _ _ (fun _ => cellB C0.out bel3) (fun _ => ?_)
              replace inv := HeadM.step inv 3 (by kernel_rfl) (by omega)
              clear hK K hS own bel bN
              try simp only [Act.put]
              have hS := cellB C0.out bel3
              refine wpAnyT_take inv (by kernel_rfl) (by omega) (i := 8) (v := .slice a2 (OL.length + 1) c2) rfl (by kernel_rfl) (by kernel_rfl) (fun _ _ _ h => h) (Or.inl ⟨by kernel_rfl, ?_⟩) (by assumption) ?_
              · rintro W' q0
                go_simp
              intro inv2
              clear inv
              have inv := inv2
              clear inv2
              simp only [Act.put]
              clear inv hS
              refine wpAnyT_chain (fuel := 1) rfl (by kernel_rfl) ?_
              simp only [List.drop_succ_cons, List.drop_zero]
              go_wp2_with fail
              go_roundw
              case rel => exact ⟨j + 1, iv - m, HIV.out.1, HIV.out.2, by omega, by omega, rfl, by rw [HST.out, List.length_append, List.length_singleton, List.map_append]; exact own3, bel3⟩
              case measure => simp [intOf] <;> omega
            · have d2 : decide (iv > 0) = false := decide_eq_false (by omega)
              have d3 : decide (0 < iv) = false := decide_eq_false (by omega)
              have HE := Lib.hid (HEN.out j hj (by omega))
              clear hiv hj hb1 hb2 hpos
              go_wp2_with fail
              go_roundw
              case rel => exact ⟨h + 1, by omega, by go_num, by rw [← HE.out]; exact HOWN.out, HBW.out⟩
              case measure => simp [intOf] <;> omega
    · obtain rfl : h = 101 := by omega
      have d1 : decide (((101 : Nat) : Int) ≤ 100) = false := by decide
      obtain ⟨OL, hOL⟩ : ∃ OL, G 101 = OL := ⟨_, rfl⟩
      rw [hOL] at HOWN HO
      obtain ⟨oa, oc, ho⟩ := owns_slice HOWN.out
      subst ho
      go_wp2
      go_ret
      refine ⟨_, rfl, ?_, bC HB.out HBW.out⟩
      rw [HO.out]
      exact (Row.of_owns HOWN.out).ints
end Go.Proofs.Ytjbeoakikdkdaaa
