import Derived.Test.YtnkeikhkafbokaaRc
import Derived.Test.YtnkeikhkafbokaaQe
namespace Go.Proofs.Ytnkeikhkafbokaa
open Go.RowKit Go.Dag Go.Sort Go.Shelf
attribute [local go_sem] Oper.semAt_some

/-! ## Cuts by numbers -/
theorem U8At.slice {w : World} {v : Value} {l : List Int} (h : U8At w v l) : ∃ a cap, v = .slice a l.length cap := by
  obtain ⟨a, cap, e, _⟩ := h
  exact ⟨a, cap, e⟩
theorem U8At.below {w w' : World} {v : Value} {l : List Int} (h : U8At w v l) (hb : Below w.heap.size w w') : U8At w' v l := by
  obtain ⟨a, cap, e, hc⟩ := h
  refine ⟨a, cap, e, fun hne => ?_⟩
  obtain ⟨b, off, ea, hc⟩ := hc hne
  exact ⟨b, off, ea, fun i hi => (hb.cell (p := ⟨b, _, none⟩) (lt_of_cell (hc i hi))).trans (hc i hi)⟩
theorem U8At.get {w : World} {a : Option Addr} {n c : Nat} {l : List Int} (h : U8At w (.slice a n c) l) (i : Nat) (hi : i < l.length) : ∃ b off, a = some ⟨b, off, none⟩ ∧ w.cell? ⟨b, off + i, none⟩ = some (.int .u8 l[i]) := by
  obtain ⟨a', c', e, hc⟩ := h
  cases e
  obtain ⟨b, off, ea, hx⟩ := hc (by intro h0; rw [h0] at hi; exact absurd hi (Nat.not_lt_zero _))
  exact ⟨b, off, ea, hx i hi⟩
def intPs (g : List (Nat × Nat)) : List (Int × Int) := g.map intP
set_option maxRecDepth 100000 in
set_option maxHeartbeats 8000000 in
theorem Given_any (v kv bv : Value) (r : RibD) (ks : List KindD) (l : List Int) (w : World) (hv : RibAt w v r) (hk : KindsAt w kv ks) (hbv : U8At w bv l) (hl8 : ∀ x ∈ l, 0 ≤ x ∧ x ≤ 255) (hl : l.length ≤ 60) (hr : RibOk r) (hks : KindsOk ks) :
    Calls Try.prog 40 #[v, kv, bv] w fun e w' => ∃ vg, e = .returned vg ∧ PairsAt w' vg (intPs (givenF (tabOf r ks) l 0)) ∧ Below w.heap.size w w' := by
  obtain ⟨sv, rfl, hi⟩ := hv
  obtain ⟨sa, cap, rfl⟩ := hi.slice
  obtain ⟨ka, kcap, rfl⟩ := hk.slice
  obtain ⟨ba, bcap, rfl⟩ := hbv.slice
  have hB0 := below1 w (.cells #[.int .i64 r.len, .slice sa r.fs.length cap] 24)
  have HB := Lib.hid hB0
  have b0 := Blk.new w (.cells #[.int .i64 r.len, .slice sa r.fs.length cap] 24)
  have HI := Lib.hid (hi.below hB0)
  have HK := Lib.hid (hk.below hB0)
  have HBV := Lib.hid (hbv.below hB0)
  have HL8 := Lib.hid hl8
  have HRK := Lib.hid (And.intro hr hks)
  have hfc := hr.count
  have hk6 := hks.1.2
  have hk1 := hks.1.1
  have hr1 := hr.l1
  have hr2 := hr.l2
  obtain ⟨ti, hif, hz0, hz1, hz2⟩ := info_parts infoS
  have HIF := Lib.hid hif
  have HZ0 := Lib.hid hz0
  have HZ1 := Lib.hid hz1
  have HZ2 := Lib.hid hz2
  clear hr hks hi hk hbv hB0 hif hz0 hz1 hz2 hl8
  go_enter Try.func40, Try.ntmps40
  go_wp2
  generalize w.alloc (.cells #[.int .i64 r.len, .slice sa r.fs.length cap] 24) = W0 at *
  go_loopw [7, 8, 9] (fun o fr s wr => ∃ (k n : Nat) (g : List (Nat × Nat)), k ≤ l.length ∧ s = .int .i64 k ∧ fr = .int .i64 n ∧ n ≤ 24 ∧ givenF (tabOf r ks) l 0 = g ++ givenF (tabOf r ks) (l.drop k) n ∧ g.length ≤ k ∧ wr.ownsRow W0.heap.size 56 2 o g.length (pairCells (intPs g)) ∧ Below W0.heap.size W0 wr) (fun _ _ s _ => l.length - (intOf s).toNat)
  case atStart => exact ⟨0, 0, [], Nat.zero_le _, rfl, rfl, Nat.zero_le _, rfl, Nat.le_refl _, ⟨rfl, .inl ⟨rfl, rfl⟩⟩, Below.refl _ _⟩
  case round =>
    obtain ⟨k, n, g, hk, rfl, rfl, hn, hg, hgl, how, hB⟩ := hrel
    obtain ⟨a3, n3, c3, rfl⟩ := (Row.of_owns how).slice
    have OUT := Lib.hid how
    have HBW := Lib.hid hB
    have HG := Lib.hid hg
    clear how hB hg
    by_cases hlt : k < l.length
    · obtain ⟨bb, boff, rfl, xb⟩ := HBV.out.get k hlt
      have xb := cellB xb HBW.out
      obtain ⟨hb0, hb1⟩ := HL8.out _ (List.getElem_mem hlt)
      have HD := Lib.hid (List.drop_eq_getElem_cons hlt)
      obtain ⟨x, hx⟩ : ∃ x, l[k] = x := ⟨_, rfl⟩
      rw [hx] at xb hb0 hb1
      have HX := Lib.hid hx
      clear hx
      obtain ⟨bn, rfl⟩ : ∃ bn : Nat, x = (bn : Int) := ⟨x.toNat, by omega⟩
      obtain ⟨n1, hn1⟩ : ∃ n1, n + bn / 8 % 3 = n1 := ⟨_, rfl⟩
      obtain ⟨kn, hkn⟩ : ∃ kn, bn % ks.length = kn := ⟨_, rfl⟩
      have e1 : (n : Int) + (bn : Int) / 8 % 3 = (n1 : Int) := by omega
      have e2 : (bn : Int) % (ks.length : Int) = (kn : Int) := by rw [← hkn]; simp
      have hkl : kn < ks.length := by rw [← hkn]; exact Nat.mod_lt _ (by omega)
      have HST := Lib.hid (show givenF (tabOf r ks) (l.drop k) n = if r.len.toNat ≤ n1 then [] else if (tabOf r ks).can n1 kn = true then (n1, kn) :: givenF (tabOf r ks) (l.drop (k + 1)) (n1 + (tabOf r ks).W kn) else givenF (tabOf r ks) (l.drop (k + 1)) n1 by
        rw [HD.out, HX.out, givenF]
        simp only [Int.toNat_natCast]
        rw [hn1, show bn % (tabOf r ks).K = kn from hkn]
        rfl)
      have hn1b : n1 ≤ 26 := by omega
      clear hn1 hkn
      have hbb := b0.below HBW.out
      have c0 := hbb.cell 0
      have c1 := hbb.cell 1
      simp at c0 c1
      clear hbb
      by_cases q : r.len ≤ (n1 : Int)
      · have d1 : decide (r.len ≤ (n1 : Int)) = true := by simpa using q
        have d2 : decide ((n1 : Int) ≥ r.len) = true := by simpa using q
        have HR := Lib.hid (show givenF (tabOf r ks) l 0 = g by rw [HG.out, HST.out, if_pos (by omega), List.append_nil])
        have HP := Lib.hid (Row.pairs (l := intPs g) (by rw [show (intPs g).length = g.length by simp [intPs]]; exact Row.of_owns OUT.out))
        go_wp2
        go_ret
        exact ⟨_, rfl, by rw [HR.out]; exact HP.out, bC HB.out HBW.out⟩
      have d1 : decide (r.len ≤ (n1 : Int)) = false := by simpa using q
      have d2 : decide ((n1 : Int) ≥ r.len) = false := by simp; omega
      have hn1c : n1 ≤ 23 := by omega
      have hkd := kd_get hkl
      have hko := kd_ok HRK.out.2 hkl
      rw [hkd] at hko
      obtain ⟨Wn, hWn⟩ : ∃ Wn : Nat, ks[kn].w = (Wn : Int) := ⟨ks[kn].w.toNat, by have := hko.w1; omega⟩
      have hW1 : 1 ≤ Wn := by have := hko.w1; omega
      have hW24 : Wn ≤ 24 := by have := hko.w2; omega
      obtain ⟨kb, koff, hka, cw, cp, cm⟩ := HK.out.get kn hkl
      rw [hWn] at cw
      subst hka
      have kw := cellB cw HBW.out
      have kp := cellB cp HBW.out
      have km := cellB cm HBW.out
      have HWt := Lib.hid (show (tabOf r ks).W kn = Wn by simp only [tabOf]; rw [hkd, hWn]; rfl)
      have HCt := Lib.hid (show (tabOf r ks).can n1 kn = canB r ks[kn] n1 by simp only [tabOf]; rw [hkd])
      have HWN := Lib.hid hWn
      have HLQ := Lib.hid (show ¬ r.len.toNat ≤ n1 by omega)
      clear hWn hkd hko
      by_cases hc : canB r ks[kn] n1 = true
      · have hfit : (n1 : Int) + (Wn : Int) ≤ r.len := by
          have h1 := (canB_iff.1 hc).1
          have h2 := HWN.out
          omega
        have HGN := Lib.hid (show givenF (tabOf r ks) l 0 = (g ++ [(n1, kn)]) ++ givenF (tabOf r ks) (l.drop (k + 1)) (n1 + Wn) by
          rw [HG.out, HST.out, if_neg HLQ.out, if_pos (HCt.out.trans hc), HWt.out, List.append_assoc]
          rfl)
        have g_0 := fun d os => cell_regrown c0 d os
        have g_1 := fun d os => cell_regrown c1 d os
        have g_2 := fun d os => cell_regrown kw d os
        have g_3 := fun d os => cell_regrown kp d os
        have g_4 := fun d os => cell_regrown km d os
        have hcG : ∀ (d : Nat) (os : Array Obj), _ := fun d os => Calls.regrown_of (rCan_any (.agg #[.int .i64 r.len, .slice sa r.fs.length cap]) r ks[kn] n1 (grow (redrawn wr d) os) ⟨_, rfl, (HI.out.below HBW.out).below (below_regrown wr d os)⟩ (by omega) (by omega) (by omega) (by have := HWN.out; omega) (by have := HWN.out; omega))
        unfold kV at hcG
        rw [HWN.out, hc] at hcG
        have hcw := cw
        clear cw cp cm
        clear q
        go_wp2_with fail
        try rw [e2]
        clear e1 e2 hb0 hb1 xb d1 d2
        refine wp_region_quiet_below (by kernel_rfl) (by kernel_rfl) ?_
        repeat (quiet_step ((go_at_call 60; exact hcG _ _)))
        refine wpQuiet_nil ?_
        intro _ hw'
        obtain ⟨⟨dq, osq⟩, hw''⟩ := hw'
        subst hw''
        have HB2 := Lib.hid (bC HBW.out (below_regrown wr dq osq))
        have OUT2 := Lib.hid (owns_below OUT.out (below_regrown wr dq osq))
        clear g_0 g_1 g_2 g_3 g_4 hcG c0 c1 kw kp km
        generalize grow (redrawn wr dq) osq = w3 at *
        have hzz := HB2.out.size
        have ww1 : IntKind.i64.wrap ((n1 : Int) + (Wn : Int)) = (n1 : Int) + (Wn : Int) := IntWalk.i64_in _ (by omega)
        go_wp2_with (at_builtin; refine wpList_append_own _ rfl (.tmp 46) (.tmp 50) 26 rfl W0.heap.size 56 ti (.agg #[.int .i64 0, .int .i64 0]) 2 16 undS HIF.out HZ0.out HZ1.out HZ2.out rfl (by decide) _ _ _ rfl (owns_below OUT2.out (below1 _ _)) ⟨w3.heap.size, 0, none⟩ 1 1 [.int .i64 n1, .int .i64 kn] rfl rfl (new_cells _ _ _) (one2 _ _) (by unfold maxLen; omega) (by omega) (by simp; omega) ?_; intro v2 w4 own3 gr3 _; have hb3 := below_owns (owns_below OUT2.out (below1 _ _)) gr3 (HB2.out.alloc hzz (.cells #[.int .i64 n1, .int .i64 kn] 56)) (by simp; omega); have kw := cellB hcw hb3)
        have HNX : Hid (w4.ownsRow W0.heap.size 56 2 v2 (g ++ [(n1, kn)]).length (pairCells (intPs (g ++ [(n1, kn)]))) ∧ Below W0.heap.size W0 w4) := Lib.hid ⟨by
          rw [List.length_append]
          unfold intPs
          rw [List.map_append, List.map_singleton]
          unfold intP
          rw [pairs_snoc]
          exact own3, hb3⟩
        clear own3 gr3 hb3 kw
        rename_i wr8
        go_roundw
        case rel => exact ⟨k + 1, n1 + Wn, _, by omega, by go_num, by go_num, by omega, HGN.out, by simp; omega, HNX.out.1, HNX.out.2⟩
        case measure => simp [intOf]; omega
      · rw [Bool.not_eq_true] at hc
        have HGN := Lib.hid (show givenF (tabOf r ks) l 0 = g ++ givenF (tabOf r ks) (l.drop (k + 1)) n1 by
          rw [HG.out, HST.out, if_neg HLQ.out, if_neg (by rw [HCt.out, hc]; decide)])
        have g_0 := fun d os => cell_regrown c0 d os
        have g_1 := fun d os => cell_regrown c1 d os
        have g_2 := fun d os => cell_regrown kw d os
        have g_3 := fun d os => cell_regrown kp d os
        have g_4 := fun d os => cell_regrown km d os
        have hcG : ∀ (d : Nat) (os : Array Obj), _ := fun d os => Calls.regrown_of (rCan_any (.agg #[.int .i64 r.len, .slice sa r.fs.length cap]) r ks[kn] n1 (grow (redrawn wr d) os) ⟨_, rfl, (HI.out.below HBW.out).below (below_regrown wr d os)⟩ (by omega) (by omega) (by omega) (by have := HWN.out; omega) (by have := HWN.out; omega))
        unfold kV at hcG
        rw [HWN.out, hc] at hcG
        have hcw := cw
        clear cw cp cm
        clear q
        go_wp2_with fail
        try rw [e2]
        clear e1 e2 hb0 hb1 xb d1 d2
        refine wp_region_quiet_below (by kernel_rfl) (by kernel_rfl) ?_
        repeat (quiet_step ((go_at_call 60; exact hcG _ _)))
        refine wpQuiet_nil ?_
        intro _ hw'
        obtain ⟨⟨dq, osq⟩, hw''⟩ := hw'
        subst hw''
        have HB2 := Lib.hid (bC HBW.out (below_regrown wr dq osq))
        have OUT2 := Lib.hid (owns_below OUT.out (below_regrown wr dq osq))
        clear g_0 g_1 g_2 g_3 g_4 hcG c0 c1 kw kp km
        generalize grow (redrawn wr dq) osq = w3 at *
        go_wp2
        rename_i wr8
        go_roundw
        case rel => exact ⟨k + 1, n1, g, by omega, by go_num, rfl, by omega, HGN.out, by omega, OUT2.out, HB2.out⟩
        case measure => simp [intOf]; omega
    · obtain rfl : k = l.length := by omega
      have HR := Lib.hid (show givenF (tabOf r ks) l 0 = g by rw [HG.out, List.drop_length, givenF, List.append_nil])
      have HP := Lib.hid (Row.pairs (l := intPs g) (by rw [show (intPs g).length = g.length by simp [intPs]]; exact Row.of_owns OUT.out))
      go_wp2
      go_ret
      exact ⟨_, rfl, by rw [HR.out]; exact HP.out, bC HB.out HBW.out⟩
end Go.Proofs.Ytnkeikhkafbokaa
