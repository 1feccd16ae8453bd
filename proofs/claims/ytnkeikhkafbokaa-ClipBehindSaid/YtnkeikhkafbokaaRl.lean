import Derived.Test.YtnkeikhkafbokaaRf
import Derived.Test.YtnkeikhkafbokaaRk
namespace Go.Proofs.Ytnkeikhkafbokaa
open Go.RowKit Go.Dag Go.Sort Go.Shelf
attribute [local go_sem] Oper.semAt_some

/-! ## A ribbon that is seen from its other end -/
/-- A ribbon whose faults are appended one by one. -/
def TurnSt (v : World) (len : Int) (fl : List Int) (wr : World) : Prop :=
  (∃ ov, Blk wr v.heap.size (.cells #[.int .i64 len, ov] 24) ∧ wr.ownsRow (v.heap.size + 1) 3 1 ov fl.length (fl.map (Value.int .i64))) ∧ Below v.heap.size v wr ∧ v.heap.size + 1 ≤ wr.heap.size
theorem TurnSt.start (v : World) (len : Int) : TurnSt v len [] (v.alloc (.cells #[.int .i64 len, .slice none 0 0] 24)) :=
  ⟨⟨_, Blk.new _ _, rfl, .inl ⟨rfl, rfl⟩⟩, below1 _ _, by simp⟩
theorem TurnSt.after {v : World} {len : Int} {fl : List Int} {wr w' : World} (h : TurnSt v len fl wr) (hb : Below wr.heap.size wr w') : TurnSt v len fl w' := by
  obtain ⟨⟨ov, h1, h2⟩, h3, h4⟩ := h
  have := hb.size
  exact ⟨⟨ov, h1.below hb, owns_below h2 hb⟩, h3.trans (hb.mono h3.size), by omega⟩
theorem rem_nat (wn q i : Nat) (h : wn ≤ 255) (hi : wn % q = i) : (wrap64 (wn : Int)).tmod (q : Int) = (i : Int) := by
  rw [IntWalk.wrap64_in _ (by omega), Int.tmod_eq_emod_of_nonneg (by omega), ← hi]
  simp
theorem cuts_fit {t : Tab} (h : t.Ok) : ∀ {g : List (Nat × Nat)} {n : Nat}, IsCuts t n g → ∀ s ∈ g, s.2 < t.K ∧ s.1 + t.W s.2 ≤ t.L
  | [], _, _, s, hs => by cases hs
  | (a, i) :: g, n, hc, s, hs => by
    obtain ⟨_, h2, h3, h4⟩ := hc
    rcases List.mem_cons.1 hs with rfl | hs
    · exact ⟨h2, h.fit a i h2 h3⟩
    · exact cuts_fit h h4 s hs
theorem rv_drop {t : Tab} {C : List (Nat × Nat)} {j : Nat} (h : j < C.length) : rv t (C.drop j) = rv t (C.drop (j + 1)) ++ [(t.L - C[j].1 - t.W C[j].2, C[j].2)] := by
  rw [List.drop_eq_getElem_cons h, rv_cons]
def tfl (r : RibD) (j : Nat) : List Int := ((r.fs.drop j).map fun f => r.len - 1 - f).reverse
theorem tfl_succ {r : RibD} {j : Nat} (h : j < r.fs.length) : tfl r j = tfl r (j + 1) ++ [r.len - 1 - r.fs[j]] := by
  unfold tfl
  rw [List.drop_eq_getElem_cons h, List.map_cons, List.reverse_cons]
set_option maxRecDepth 100000 in
set_option maxHeartbeats 16000000 in
theorem ClipBehind_any (v kv : Value) (wn : Int) (r : RibD) (ks : List KindD) (w : World) (hv : RibAt w v r) (hk : KindsAt w kv ks) (hwn : 0 ≤ wn ∧ wn ≤ 255) :
    Calls Try.prog 12 #[v, kv, .int .u8 wn] w fun e w' => e = .returned (.bool true) ∧ Below w.heap.size w w' := by
  obtain ⟨wn, rfl⟩ : ∃ n : Nat, wn = (n : Int) := ⟨wn.toNat, by omega⟩
  obtain ⟨sv, rfl, hi⟩ := hv
  obtain ⟨sa, cap, rfl⟩ := hi.slice
  obtain ⟨ka, kcap, rfl⟩ := hk.slice
  have hB0 := below1 w (.cells #[.int .i64 r.len, .slice sa r.fs.length cap] 24)
  have HB := Lib.hid hB0
  have B0 := Lib.hid (Blk.new w (.cells #[.int .i64 r.len, .slice sa r.fs.length cap] 24))
  have HV := Lib.hid (show RibAt _ (.agg #[.int .i64 r.len, .slice sa r.fs.length cap]) r from ⟨_, rfl, hi.below hB0⟩)
  have HK := Lib.hid (hk.below hB0)
  clear hi hk hB0
  have HFI := Lib.hid (show IntsAt _ (.slice sa r.fs.length cap) r.fs from by obtain ⟨_, e, h⟩ := HV.out; cases e; exact h)
  by_cases hok : RibOk r ∧ KindsOk ks
  case neg =>
    have HN := Lib.hid hok
    clear hok hwn
    go_enter Try.func12, Try.ntmps12
    go_wp2_with fail
    generalize w.alloc (.cells #[.int .i64 r.len, .slice sa r.fs.length cap] 24) = W0 at *
    refine (fine_no (.agg #[.int .i64 r.len, .slice sa r.fs.length cap]) (.slice ka ks.length kcap) r ks _ HV.out HK.out HN.out).mono ?_
    rintro e v1 ⟨rfl, hb⟩
    replace HV := Lib.hid (HV.out.below hb)
    replace HK := Lib.hid (HK.out.below hb)
    replace B0 := Lib.hid (B0.out.below hb)
    replace HB := Lib.hid (bC HB.out hb)
    clear hb
    have B0c0 := B0.out.cell 0
    have B0c1 := B0.out.cell 1
    simp at B0c0 B0c1
    go_wp2_with fail
    clear B0c0 B0c1
    refine (Works_any _).mono ?_
    rintro e v2 ⟨rfl, hb⟩
    replace HV := Lib.hid (HV.out.below hb)
    replace HK := Lib.hid (HK.out.below hb)
    replace B0 := Lib.hid (B0.out.below hb)
    replace HB := Lib.hid (bC HB.out hb)
    clear hb
    go_wp2
    go_ret
    exact ⟨rfl, HB.out⟩
  have HR := Lib.hid hok
  obtain ⟨i0, hif, hz0, hz1, hz2⟩ := info_parts infoI
  have HIF := Lib.hid hif
  have HZ0 := Lib.hid hz0
  have HZ1 := Lib.hid hz1
  have HZ2 := Lib.hid hz2
  have hfc := hok.1.count
  have hk6 := hok.2.1.2
  have hL24 := hok.1.l2
  have hL1 := hok.1.l1
  have HFB := Lib.hid (fun (j : Nat) (hj : j < r.fs.length) => fsOk_bound hok.1.fs _ (List.getElem_mem hj))
  have HWN := Lib.hid (show wn ≤ 255 by omega)
  have ww0 : IntKind.i64.wrap ((r.fs.length : Int) - 1) = (r.fs.length : Int) - 1 := IntWalk.i64_in _ (by omega)
  clear hok hwn hif hz0 hz1 hz2
  go_enter Try.func12, Try.ntmps12
  go_wp2_with fail
  generalize w.alloc (.cells #[.int .i64 r.len, .slice sa r.fs.length cap] 24) = W0 at *
  refine (fine_yes (.agg #[.int .i64 r.len, .slice sa r.fs.length cap]) (.slice ka ks.length kcap) r ks _ HV.out HK.out HR.out.1 HR.out.2).mono ?_
  rintro e v1 ⟨rfl, hb⟩
  replace HV := Lib.hid (HV.out.below hb)
  replace HK := Lib.hid (HK.out.below hb)
  replace HFI := Lib.hid (HFI.out.below hb)
  replace B0 := Lib.hid (B0.out.below hb)
  replace HB := Lib.hid (bC HB.out hb)
  clear hb
  have bz := B0.out.below (below1 v1 (.cells #[.int .i64 r.len, .slice none 0 0] 24))
  have z0 := bz.cell 0
  have z1 := bz.cell 1
  simp at z0 z1
  clear bz
  have B0c0 := B0.out.cell 0
  have B0c1 := B0.out.cell 1
  simp at B0c0 B0c1
  go_wp2_with fail
  clear B0c0 B0c1
  clear z0 z1
  have HM0 := Lib.hid (TurnSt.start v1 r.len)
  generalize v1.alloc (.cells #[.int .i64 r.len, .slice none 0 0] 24) = W1 at *
  go_loopw [8] (fun s wr => ∃ j : Nat, j ≤ r.fs.length ∧ s = .int .i64 ((j : Int) - 1) ∧ TurnSt v1 r.len (tfl r j) wr) (fun s _ => (intOf s + 1).toNat)
  case atStart => exact ⟨r.fs.length, Nat.le_refl _, by first | rfl | go_num, by unfold tfl; rw [List.drop_length]; exact HM0.out⟩
  case round =>
    clear HM0
    obtain ⟨j, hj, rfl, hst⟩ := hrel
    have HST := Lib.hid hst
    obtain ⟨⟨ov, hO, hown⟩, hbw, hsz⟩ := hst
    obtain ⟨oa, on, oc, rfl⟩ := (Row.of_owns hown).slice
    have HO := Lib.hid hO
    have HOWN := Lib.hid hown
    have HBW := Lib.hid hbw
    have B0w := B0.out.below hbw
    clear hO hown hbw
    by_cases hlt : 0 < j
    · obtain ⟨m, rfl⟩ : ∃ m, j = m + 1 := ⟨j - 1, by omega⟩
      have hm : m < r.fs.length := by omega
      obtain ⟨cb, coff, hsa, x1⟩ := HFI.out.at.2 m hm
      subst hsa
      have HFL := Lib.hid (tfl_succ hm)
      have hfb := HFB.out m hm
      obtain ⟨fv, hfv⟩ : ∃ x, r.fs[m] = x := ⟨_, rfl⟩
      rw [hfv] at x1 hfb
      have HFV := Lib.hid hfv
      clear hfv
      have x1 := cellB x1 HBW.out
      have em : ((m + 1 : Nat) : Int) - 1 = (m : Int) := by omega
      rw [em]
      have d3 : decide ((m : Int) ≥ 0) = true := by simp
      have d4 : decide ((0 : Int) ≤ (m : Int)) = true := by simp
      have wl : IntKind.i64.wrap (r.len - 1) = r.len - 1 := IntWalk.i64_in _ (by omega)
      have wf : IntKind.i64.wrap (r.len - 1 - fv) = r.len - 1 - fv := IntWalk.i64_in _ (by omega)
      have hol : (tfl r (m + 1)).length ≤ 100 := by unfold tfl; rw [List.length_reverse, List.length_map, List.length_drop]; omega
      have BO : Blk wr.drew v1.heap.size (.cells #[.int .i64 r.len, .slice oa on oc] 24) := HO.out
      have bB : Blk wr.drew w.heap.size (.cells #[.int .i64 r.len, .slice (some ⟨cb, coff, none⟩) r.fs.length cap] 24) := B0w
      have bel : Below v1.heap.size v1 wr.drew := HBW.out.drew
      have own : wr.drew.ownsRow (v1.heap.size + 1) 3 1 (.slice oa on oc) (tfl r (m + 1)).length ((tfl r (m + 1)).map (Value.int .i64)) := HOWN.out
      have hsz1 : v1.heap.size + 1 ≤ wr.drew.heap.size := hsz
      have o1 : wr.drew.cell? ⟨v1.heap.size, 1, none⟩ = some (.slice oa on oc) := by have := BO.cell 1; simpa using this
      have b1 : wr.drew.cell? ⟨w.heap.size, 0, none⟩ = some (.int .i64 r.len) := by have := bB.cell 0; simpa using this
      have b2 : wr.drew.cell? ⟨w.heap.size, 1, none⟩ = some (.slice (some ⟨cb, coff, none⟩) r.fs.length cap) := by have := bB.cell 1; simpa using this
      have y1 : wr.drew.cell? ⟨cb, coff + m, none⟩ = some (.int .i64 fv) := x1
      clear x1 HST
      go_wp2_with fail
      refine wp_region_T 12 (fun W' => W'.cell? ⟨v1.heap.size, 1, none⟩ = some (.slice oa on oc) ∧ W'.cell? ⟨w.heap.size, 0, none⟩ = some (.int .i64 r.len) ∧ W'.cell? ⟨w.heap.size, 1, none⟩ = some (.slice (some ⟨cb, coff, none⟩) r.fs.length cap) ∧ W'.cell? ⟨cb, coff + m, none⟩ = some (.int .i64 fv)) (by kernel_rfl) (by kernel_rfl) ⟨o1, b1, b2, y1⟩ ?_
      intro inv hS
      generalize wr.drew = V0 at *
      clear HOWN HO HBW hsz B0w
      refine wpAnyT_take inv (by kernel_rfl) (by omega) (i := 0) (v := .pointer (some ⟨v1.heap.size, 1, none⟩)) rfl (by kernel_rfl) (by kernel_rfl) (fun _ _ _ h => h) (Or.inl ⟨by kernel_rfl, ?_⟩) (by assumption) ?_
      · rintro W' ⟨q0, q1, q2, q3⟩
        go_simp
      intro inv2
      clear inv
      have inv := inv2
      clear inv2
      simp only [Act.put, List.setIfInBounds_toArray]
      refine wpAnyT_take inv (by kernel_rfl) (by omega) (i := 1) (v := .slice oa on oc) rfl (by kernel_rfl) (by kernel_rfl) (fun _ _ _ h => h) (Or.inl ⟨by kernel_rfl, ?_⟩) (by assumption) ?_
      · rintro W' ⟨q0, q1, q2, q3⟩
        go_simp
      intro inv2
      clear inv
      have inv := inv2
      clear inv2
      simp only [Act.put]
      refine wpAnyT_take inv (by kernel_rfl) (by omega) (i := 2) (v := .pointer (some ⟨w.heap.size, 0, none⟩)) rfl (by kernel_rfl) (by kernel_rfl) (fun _ _ _ h => h) (Or.inl ⟨by kernel_rfl, ?_⟩) (by assumption) ?_
      · rintro W' ⟨q0, q1, q2, q3⟩
        go_simp
      intro inv2
      clear inv
      have inv := inv2
      clear inv2
      simp only [Act.put]
      refine wpAnyT_take inv (by kernel_rfl) (by omega) (i := 3) (v := .int .i64 r.len) rfl (by kernel_rfl) (by kernel_rfl) (fun _ _ _ h => h) (Or.inl ⟨by kernel_rfl, ?_⟩) (by assumption) ?_
      · rintro W' ⟨q0, q1, q2, q3⟩
        go_simp
      intro inv2
      clear inv
      have inv := inv2
      clear inv2
      simp only [Act.put]
      refine wpAnyT_take inv (by kernel_rfl) (by omega) (i := 4) (v := .int .i64 (r.len - 1)) rfl (by kernel_rfl) (by kernel_rfl) (fun _ _ _ h => h) (Or.inl ⟨by kernel_rfl, ?_⟩) (by assumption) ?_
      · rintro W' ⟨q0, q1, q2, q3⟩
        go_simp
      intro inv2
      clear inv
      have inv := inv2
      clear inv2
      simp only [Act.put]
      refine wpAnyT_take inv (by kernel_rfl) (by omega) (i := 5) (v := .pointer (some ⟨w.heap.size, 1, none⟩)) rfl (by kernel_rfl) (by kernel_rfl) (fun _ _ _ h => h) (Or.inl ⟨by kernel_rfl, ?_⟩) (by assumption) ?_
      · rintro W' ⟨q0, q1, q2, q3⟩
        go_simp
      intro inv2
      clear inv
      have inv := inv2
      clear inv2
      simp only [Act.put]
      refine wpAnyT_take inv (by kernel_rfl) (by omega) (i := 6) (v := .slice (some ⟨cb, coff, none⟩) r.fs.length cap) rfl (by kernel_rfl) (by kernel_rfl) (fun _ _ _ h => h) (Or.inl ⟨by kernel_rfl, ?_⟩) (by assumption) ?_
      · rintro W' ⟨q0, q1, q2, q3⟩
        go_simp
      intro inv2
      clear inv
      have inv := inv2
      clear inv2
      simp only [Act.put]
      refine wpAnyT_take inv (by kernel_rfl) (by omega) (i := 7) (v := .int .i64 (m : Int)) rfl (by kernel_rfl) (by kernel_rfl) (fun _ _ _ h => h) (Or.inl ⟨by kernel_rfl, ?_⟩) (by assumption) ?_
      · rintro W' ⟨q0, q1, q2, q3⟩
        go_simp
      intro inv2
      clear inv
      have inv := inv2
      clear inv2
      simp only [Act.put]
      refine wpAnyT_take inv (by kernel_rfl) (by omega) (i := 8) (v := .pointer (some ⟨cb, coff + m, none⟩)) rfl (by kernel_rfl) (by kernel_rfl) (fun _ _ _ h => h) (Or.inl ⟨by kernel_rfl, ?_⟩) (by assumption) ?_
      · rintro W' ⟨q0, q1, q2, q3⟩
        go_simp
      intro inv2
      clear inv
      have inv := inv2
      clear inv2
      simp only [Act.put]
      refine wpAnyT_take inv (by kernel_rfl) (by omega) (i := 9) (v := .int .i64 fv) rfl (by kernel_rfl) (by kernel_rfl) (fun _ _ _ h => h) (Or.inl ⟨by kernel_rfl, ?_⟩) (by assumption) ?_
      · rintro W' ⟨q0, q1, q2, q3⟩
        go_simp
      intro inv2
      clear inv
      have inv := inv2
      clear inv2
      simp only [Act.put]
      refine wpAnyT_take inv (by kernel_rfl) (by omega) (i := 10) (v := .int .i64 (r.len - 1 - fv)) rfl (by kernel_rfl) (by kernel_rfl) (fun _ _ _ h => h) (Or.inl ⟨by kernel_rfl, ?_⟩) (by assumption) ?_
      · rintro W' ⟨q0, q1, q2, q3⟩
        go_simp
      intro inv2
      clear inv
      have inv := inv2
      clear inv2
      simp only [Act.put]
      refine wpAnyT_ready [11] (by kernel_rfl) (by simp) ?_
      refine AllReadyT.cons rfl (fun K hK => ?_) AllReadyT.nil
      go_simp
      have hA := below1 V0 (.cells #[.int .i64 (r.len - 1 - fv)] 3)
      refine hK.out _ _ (fun _ => ⟨cellB o1 hA, cellB b1 hA, cellB b2 hA, cellB y1 hA⟩) (fun _ => ?_)
      clear hK K hS inv
      try simp only [Act.put]
      refine wpAnyT_chain (fuel := 3) rfl (by kernel_rfl) ?_
      simp only [List.drop_succ_cons, List.drop_zero]
      have HNEW := Lib.hid (new_cells V0 [.int .i64 (r.len - 1 - fv)] 3)
      have ownA := Lib.hid (owns_below own hA)
      have BO1 := Lib.hid (BO.below hA)
      have belA := Lib.hid (bel.trans (hA.mono bel.size))
      have hszA : v1.heap.size + 1 ≤ (V0.alloc (.cells #[.int .i64 (r.len - 1 - fv)] 3)).heap.size := by simp; omega
      clear hA BO bB own bel o1 b1 b2 y1 wl wf
      generalize hVV : V0.alloc (.cells #[.int .i64 (r.len - 1 - fv)] 3) = V2 at *
      clear hVV
      go_wp2_with (at_builtin; refine wpList_append_own _ rfl (.tmp 45) (.tmp 55) 22 rfl (v1.heap.size + 1) 3 i0 (.int .i64 0) 1 8 undI HIF.out HZ0.out HZ1.out HZ2.out rfl (by decide) _ _ _ rfl ownA.out ⟨V0.heap.size, 0, none⟩ 1 1 [.int .i64 (r.len - 1 - fv)] rfl rfl HNEW.out (one1 _) (by unfold maxLen; omega) (by omega) (by omega) ?_; intro v2 w3 own3 gr3 _; obtain ⟨a2, n2, c2, rfl⟩ := (Row.of_owns own3).slice; have BO3 := BO1.out.grown ownA.out (by decide) gr3; have o1 := BO3.cell 1; have of := BO3.frozen 1; have ol := BO3.lt; simp at o1)
      have bel3 := below_owns2 ownA.out gr3 belA.out (by omega) (by omega)
      rename_i wr8
      go_roundw
      case rel =>
        refine ⟨m, by omega, by go_num, ⟨_, BO3.set (j := 1) (.slice a2 n2 c2), ?_⟩, bel3.setCell (by simp) _, by simp [World.setCell]; omega⟩
        have h2 := owns_set own3 BO3 (by decide) 1 (.slice a2 n2 c2)
        rw [HFL.out, HFV.out, List.length_append, ints_snoc]
        exact h2
      case measure => simp [intOf] <;> omega
    · obtain rfl : j = 0 := by omega
      obtain ⟨oa', oc', ho'⟩ := (show IntsAt wr (.slice oa on oc) (turnR r).fs from (Row.of_owns HOWN.out).ints).slice
      cases ho'
      have BM := HO
      have HMR := Lib.hid (show RibAt wr (.agg #[.int .i64 r.len, .slice oa (turnR r).fs.length oc]) (turnR r) from ⟨_, rfl, (Row.of_owns HOWN.out).ints⟩)
      replace HV := Lib.hid (HV.out.below HBW.out)
      replace HK := Lib.hid (HK.out.below HBW.out)
      replace B0 := Lib.hid B0w
      replace HB := Lib.hid (bC HB.out HBW.out)
      clear HO HOWN HST hsz HBW B0w HFI
      obtain ⟨q, hq⟩ : ∃ q : Nat, r.len + 1 = (q : Int) := ⟨(r.len + 1).toNat, by omega⟩
      obtain ⟨p, hp⟩ : ∃ p, wn % q = p := ⟨_, rfl⟩
      have hpq : p < q := by rw [← hp]; exact Nat.mod_lt _ (by omega)
      have wq : IntKind.i64.wrap (r.len + 1) = (q : Int) := by rw [IntWalk.i64_in _ (by omega)]; exact hq
      have E2 := Lib.hid (rem_nat wn q p HWN.out hp)
      have hpl : (p : Int) ≤ r.len := by omega
      have hq1 : 1 ≤ q := by omega
      have wp : IntKind.i64.wrap (r.len - (p : Int)) = r.len - (p : Int) := IntWalk.i64_in _ (by omega)
      obtain ⟨F1, F2, F3, F4, F5, F6⟩ := behind_facts HR.out.1 HR.out.2 hpl
      obtain ⟨D, hD⟩ : ∃ D, dn (tabOf r ks) 0 = D := ⟨_, rfl⟩
      obtain ⟨M, hM⟩ : ∃ D, many (tabOf r ks) 0 = D := ⟨_, rfl⟩
      obtain ⟨cl, hcl⟩ : ∃ cl, firstL (tabOf r ks) = cl := ⟨_, rfl⟩
      obtain ⟨pv, hpv⟩ : ∃ x, partedV r ks p = x := ⟨_, rfl⟩
      rw [hD] at F2
      rw [hM] at F3
      rw [hpv] at F6
      have HTO := Lib.hid F1
      have HD := Lib.hid hD
      have HM := Lib.hid hM
      have HD2 := Lib.hid F2
      have HM2 := Lib.hid F3
      have HP1 := Lib.hid (And.intro F4 hpv)
      have HP2 := Lib.hid (And.intro F5 F6)
      have HCL := Lib.hid hcl
      have hTok := tabOf_ok (r := r) (ks := ks) (by omega) HR.out.2
      have hfb := first_best hTok (tabOf r ks).L 0 (by omega)
      have hbc := behind_cuts HR.out.1 HR.out.2 hfb.1
      have hft := cuts_fit hTok hfb.1
      have hwD := hfb.2
      have hl24 := firstL_len HR.out.1 HR.out.2
      obtain ⟨C, hC⟩ : ∃ C, firstF (tabOf r ks) (tabOf r ks).L 0 = C := ⟨_, rfl⟩
      have hcC : cl = C.map intP := by rw [← hcl, ← hC]; rfl
      rw [hC] at hbc hft hwD
      rw [hwD, hD] at hbc
      rw [hcl] at hl24
      obtain ⟨bl, hbl⟩ : ∃ bl, (rv (tabOf r ks) C).map intP = bl := ⟨_, rfl⟩
      have hbln : bl.length = C.length := by rw [← hbl, List.length_map]; simp only [rv, List.length_reverse, List.length_map]
      rw [hbl] at hbc
      have HBL := Lib.hid hbl
      have HCC := Lib.hid hcC
      have HLC := Lib.hid (show cl.length = C.length by rw [hcC, List.length_map])
      have HBC := Lib.hid hbc
      have HFT := Lib.hid hft
      have HRL := Lib.hid (show bl.length ≤ 1000 by have := HLC.out; omega)
      clear hbl hbln
      have wc : IntKind.i64.wrap ((cl.length : Int) - 1) = (cl.length : Int) - 1 := IntWalk.i64_in _ (by omega)
      obtain ⟨tj, hjf, hy0, hy1, hy2⟩ := info_parts infoS
      have HJF := Lib.hid hjf
      have HY0 := Lib.hid hy0
      have HY1 := Lib.hid hy1
      have HY2 := Lib.hid hy2
      clear F1 F2 F3 F4 F5 F6 hD hM hpv hcl hp hq hTok hfb hbc hft hwD hC hcC hjf hy0 hy1 hy2
      have B0c0 := B0.out.cell 0
      have B0c1 := B0.out.cell 1
      have BMc0 := BM.out.cell 0
      have BMc1 := BM.out.cell 1
      simp at B0c0 B0c1 BMc0 BMc1
      go_wp2_with fail
      clear B0c0 B0c1 BMc0 BMc1
      rw [E2.out]
      refine (best_any (.agg #[.int .i64 r.len, .slice sa r.fs.length cap]) (.slice ka ks.length kcap) r ks _ HV.out HK.out HR.out.1 HR.out.2).mono ?_
      rintro e v21 ⟨vb, rfl, hp, hb⟩
      replace HV := Lib.hid (HV.out.below hb)
      replace HK := Lib.hid (HK.out.below hb)
      replace HMR := Lib.hid (HMR.out.below hb)
      replace B0 := Lib.hid (B0.out.below hb)
      replace BM := Lib.hid (BM.out.below hb)
      replace HB := Lib.hid (bC HB.out hb)
      clear hb
      rw [HCL.out] at hp
      obtain ⟨ya, yc, rfl⟩ := hp.slice
      have HY := Lib.hid hp
      clear hp
      rw [HD.out]
      have B0c0 := B0.out.cell 0
      have B0c1 := B0.out.cell 1
      have BMc0 := BM.out.cell 0
      have BMc1 := BM.out.cell 1
      simp at B0c0 B0c1 BMc0 BMc1
      go_wp2_with fail
      clear B0c0 B0c1 BMc0 BMc1
      refine (best_any (.agg #[.int .i64 r.len, .slice oa (turnR r).fs.length oc]) (.slice ka ks.length kcap) (turnR r) ks _ HMR.out HK.out HTO.out HR.out.2).mono ?_
      rintro e v22 ⟨vb2, rfl, -, hb⟩
      replace HV := Lib.hid (HV.out.below hb)
      replace HK := Lib.hid (HK.out.below hb)
      replace HMR := Lib.hid (HMR.out.below hb)
      replace HY := Lib.hid (HY.out.below hb)
      replace B0 := Lib.hid (B0.out.below hb)
      replace BM := Lib.hid (BM.out.below hb)
      replace HB := Lib.hid (bC HB.out hb)
      clear hb
      rw [HD2.out]
      have B0c0 := B0.out.cell 0
      have B0c1 := B0.out.cell 1
      have BMc0 := BM.out.cell 0
      have BMc1 := BM.out.cell 1
      simp at B0c0 B0c1 BMc0 BMc1
      go_wp2_with fail
      clear B0c0 B0c1 BMc0 BMc1
      refine (count_any (.agg #[.int .i64 r.len, .slice sa r.fs.length cap]) (.slice ka ks.length kcap) r ks _ HV.out HK.out HR.out.1 HR.out.2).mono ?_
      rintro e v23 ⟨rfl, hb⟩
      replace HV := Lib.hid (HV.out.below hb)
      replace HK := Lib.hid (HK.out.below hb)
      replace HMR := Lib.hid (HMR.out.below hb)
      replace HY := Lib.hid (HY.out.below hb)
      replace B0 := Lib.hid (B0.out.below hb)
      replace BM := Lib.hid (BM.out.below hb)
      replace HB := Lib.hid (bC HB.out hb)
      clear hb
      rw [HM.out]
      have B0c0 := B0.out.cell 0
      have B0c1 := B0.out.cell 1
      have BMc0 := BM.out.cell 0
      have BMc1 := BM.out.cell 1
      simp at B0c0 B0c1 BMc0 BMc1
      go_wp2_with fail
      clear B0c0 B0c1 BMc0 BMc1
      refine (count_any (.agg #[.int .i64 r.len, .slice oa (turnR r).fs.length oc]) (.slice ka ks.length kcap) (turnR r) ks _ HMR.out HK.out HTO.out HR.out.2).mono ?_
      rintro e v24 ⟨rfl, hb⟩
      replace HV := Lib.hid (HV.out.below hb)
      replace HK := Lib.hid (HK.out.below hb)
      replace HMR := Lib.hid (HMR.out.below hb)
      replace HY := Lib.hid (HY.out.below hb)
      replace B0 := Lib.hid (B0.out.below hb)
      replace BM := Lib.hid (BM.out.below hb)
      replace HB := Lib.hid (bC HB.out hb)
      clear hb
      rw [HM2.out]
      have B0c0 := B0.out.cell 0
      have B0c1 := B0.out.cell 1
      have BMc0 := BM.out.cell 0
      have BMc1 := BM.out.cell 1
      simp at B0c0 B0c1 BMc0 BMc1
      go_wp2_with fail
      clear B0c0 B0c1 BMc0 BMc1
      refine (Parted_ok (.agg #[.int .i64 r.len, .slice sa r.fs.length cap]) (.slice ka ks.length kcap) r ks (p : Int) _ HV.out HK.out HR.out.1 HR.out.2).mono ?_
      rintro e v25 ⟨rfl, hb⟩
      replace HV := Lib.hid (HV.out.below hb)
      replace HK := Lib.hid (HK.out.below hb)
      replace HMR := Lib.hid (HMR.out.below hb)
      replace HY := Lib.hid (HY.out.below hb)
      replace B0 := Lib.hid (B0.out.below hb)
      replace BM := Lib.hid (BM.out.below hb)
      replace HB := Lib.hid (bC HB.out hb)
      clear hb
      rw [HP1.out.1, HP1.out.2]
      have B0c0 := B0.out.cell 0
      have B0c1 := B0.out.cell 1
      have BMc0 := BM.out.cell 0
      have BMc1 := BM.out.cell 1
      simp at B0c0 B0c1 BMc0 BMc1
      go_wp2_with fail
      clear B0c0 B0c1 BMc0 BMc1
      refine (Parted_ok (.agg #[.int .i64 r.len, .slice oa (turnR r).fs.length oc]) (.slice ka ks.length kcap) (turnR r) ks (r.len - (p : Int)) _ HMR.out HK.out HTO.out HR.out.2).mono ?_
      rintro e v26 ⟨rfl, hb⟩
      replace HV := Lib.hid (HV.out.below hb)
      replace HK := Lib.hid (HK.out.below hb)
      replace HMR := Lib.hid (HMR.out.below hb)
      replace HY := Lib.hid (HY.out.below hb)
      replace B0 := Lib.hid (B0.out.below hb)
      replace BM := Lib.hid (BM.out.below hb)
      replace HB := Lib.hid (bC HB.out hb)
      clear hb
      rw [HP2.out.1, HP2.out.2]
      have B0c0 := B0.out.cell 0
      have B0c1 := B0.out.cell 1
      have BMc0 := BM.out.cell 0
      have BMc1 := BM.out.cell 1
      simp at B0c0 B0c1 BMc0 BMc1
      go_wp2_with fail
      clear B0c0 B0c1 BMc0 BMc1
      go_loopw [24, 25] (fun o s wr => ∃ j : Nat, j ≤ cl.length ∧ s = .int .i64 ((j : Int) - 1) ∧ wr.ownsRow v26.heap.size 56 2 o (rv (tabOf r ks) (C.drop j)).length (pairCells ((rv (tabOf r ks) (C.drop j)).map intP)) ∧ Below v26.heap.size v26 wr) (fun _ s _ => (intOf s + 1).toNat)
      case atStart => exact ⟨cl.length, Nat.le_refl _, rfl, by rw [List.drop_eq_nil_iff.2 (by have := HLC.out; omega)]; exact ⟨rfl, .inl ⟨rfl, rfl⟩⟩, Below.refl _ _⟩
      case round =>
        obtain ⟨j, hj, rfl, how, hB⟩ := hrel
        obtain ⟨a3, n3, c3, rfl⟩ := (Row.of_owns how).slice
        have OUT := Lib.hid how
        have HBW := Lib.hid hB
        have B0w := B0.out.below hB
        clear how hB
        by_cases hlt : 0 < j
        · obtain ⟨m, rfl⟩ : ∃ m, j = m + 1 := ⟨j - 1, by omega⟩
          have hmc : m < cl.length := by omega
          have hmC : m < C.length := by have := HLC.out; omega
          have ex : cl[m] = intP C[m] := by simp only [HCC.out, List.getElem_map]
          obtain ⟨pb, poff, rfl, x1, x2⟩ := HY.out.at.2 m hmc
          rw [ex] at x1 x2
          have HFL := Lib.hid (rv_drop (t := tabOf r ks) hmC)
          obtain ⟨hf1, hf2⟩ := HFT.out _ (List.getElem_mem hmC)
          obtain ⟨gp, hgp⟩ : ∃ s, C[m] = s := ⟨_, rfl⟩
          have HGP := Lib.hid hgp
          rw [hgp] at x1 x2 hf1 hf2
          obtain ⟨a, i⟩ := gp
          simp only [intP] at x1 x2
          have hik : i < ks.length := hf1
          have hkd := kd_get hik
          have hko := kd_ok HR.out.2 hik
          rw [hkd] at hko
          obtain ⟨Wn, hWn⟩ : ∃ Wn : Nat, ks[i].w = (Wn : Int) := ⟨ks[i].w.toNat, by have := hko.w1; omega⟩
          have hWt : (tabOf r ks).W i = Wn := by simp only [tabOf]; rw [hkd, hWn]; rfl
          have hLt : (tabOf r ks).L = r.len.toNat := rfl
          rw [hLt] at hf2
          simp only [hWt] at hf2
          obtain ⟨ee, hee⟩ : ∃ e, r.len.toNat - a - Wn = e := ⟨_, rfl⟩
          have HE := Lib.hid (show ((tabOf r ks).L - a - (tabOf r ks).W i, i) = (ee, i) by rw [hLt, hWt, hee])
          obtain ⟨kb, koff, hka, cw, cp, cm⟩ := HK.out.get i hik
          rw [hWn] at cw
          subst hka
          have x1 := cellB x1 HBW.out
          have x2 := cellB x2 HBW.out
          have cw := cellB cw HBW.out
          have em : ((m + 1 : Nat) : Int) - 1 = (m : Int) := by omega
          rw [em]
          have d3 : decide ((m : Int) ≥ 0) = true := by simp
          have d4 : decide ((0 : Int) ≤ (m : Int)) = true := by simp
          have w1 : IntKind.i64.wrap (r.len - (a : Int)) = r.len - (a : Int) := IntWalk.i64_in _ (by omega)
          have w2 : IntKind.i64.wrap (r.len - (a : Int) - (Wn : Int)) = (ee : Int) := by rw [IntWalk.i64_in _ (by omega)]; omega
          have hrl : (rv (tabOf r ks) (C.drop (m + 1))).length ≤ 1000 := by
            simp only [rv, List.length_reverse, List.length_map, List.length_drop]
            have := HLC.out
            omega
          have o1 : wr.drew.cell? ⟨w.heap.size, 0, none⟩ = some (.int .i64 r.len) := by have := B0w.cell 0; simp at this; exact this
          have y1 : wr.drew.cell? ⟨pb, poff + m * 2, none⟩ = some (.int .i64 (a : Int)) := x1
          have y2 : wr.drew.cell? ⟨pb, poff + m * 2 + 1, none⟩ = some (.int .i64 (i : Int)) := x2
          have y3 : wr.drew.cell? ⟨kb, koff + i * 3, none⟩ = some (.int .i64 (Wn : Int)) := cw
          have bel : Below v26.heap.size v26 wr.drew := HBW.out.drew
          have own : wr.drew.ownsRow v26.heap.size 56 2 (.slice a3 n3 c3) (rv (tabOf r ks) (C.drop (m + 1))).length (pairCells ((rv (tabOf r ks) (C.drop (m + 1))).map intP)) := OUT.out
          clear x1 x2 cw cp cm hgp ex hkd hko hWn hWt hLt hee hf1 B0w
          go_wp2_with fail
          refine wp_region_T 26 (fun W' => W'.cell? ⟨w.heap.size, 0, none⟩ = some (.int .i64 r.len) ∧ W'.cell? ⟨pb, poff + m * 2, none⟩ = some (.int .i64 (a : Int)) ∧ W'.cell? ⟨pb, poff + m * 2 + 1, none⟩ = some (.int .i64 (i : Int)) ∧ W'.cell? ⟨kb, koff + i * 3, none⟩ = some (.int .i64 (Wn : Int))) (by kernel_rfl) (by kernel_rfl) ⟨o1, y1, y2, y3⟩ ?_
          intro inv hS
          generalize wr.drew = V0 at *
          clear OUT HBW
          refine wpAnyT_take inv (by kernel_rfl) (by omega) (i := 0) (v := .slice a3 n3 c3) rfl (by kernel_rfl) (by kernel_rfl) (fun _ _ _ h => h) (Or.inl ⟨by kernel_rfl, ?_⟩) (by assumption) ?_
          · rintro W' ⟨q0, q1, q2, q3⟩
            go_simp
          intro inv2
          clear inv
          have inv := inv2
          clear inv2
          simp only [Act.put, List.setIfInBounds_toArray]
          refine wpAnyT_take inv (by kernel_rfl) (by omega) (i := 1) (v := .pointer (some ⟨w.heap.size, 0, none⟩)) rfl (by kernel_rfl) (by kernel_rfl) (fun _ _ _ h => h) (Or.inl ⟨by kernel_rfl, ?_⟩) (by assumption) ?_
          · rintro W' ⟨q0, q1, q2, q3⟩
            go_simp
          intro inv2
          clear inv
          have inv := inv2
          clear inv2
          simp only [Act.put]
          refine wpAnyT_take inv (by kernel_rfl) (by omega) (i := 2) (v := .int .i64 r.len) rfl (by kernel_rfl) (by kernel_rfl) (fun _ _ _ h => h) (Or.inl ⟨by kernel_rfl, ?_⟩) (by assumption) ?_
          · rintro W' ⟨q0, q1, q2, q3⟩
            go_simp
          intro inv2
          clear inv
          have inv := inv2
          clear inv2
          simp only [Act.put]
          refine wpAnyT_take inv (by kernel_rfl) (by omega) (i := 3) (v := .slice (some ⟨pb, poff, none⟩) cl.length yc) rfl (by kernel_rfl) (by kernel_rfl) (fun _ _ _ h => h) (Or.inl ⟨by kernel_rfl, ?_⟩) (by assumption) ?_
          · rintro W' ⟨q0, q1, q2, q3⟩
            go_simp
          intro inv2
          clear inv
          have inv := inv2
          clear inv2
          simp only [Act.put]
          refine wpAnyT_take inv (by kernel_rfl) (by omega) (i := 4) (v := .int .i64 (m : Int)) rfl (by kernel_rfl) (by kernel_rfl) (fun _ _ _ h => h) (Or.inl ⟨by kernel_rfl, ?_⟩) (by assumption) ?_
          · rintro W' ⟨q0, q1, q2, q3⟩
            go_simp
          intro inv2
          clear inv
          have inv := inv2
          clear inv2
          simp only [Act.put]
          refine wpAnyT_take inv (by kernel_rfl) (by omega) (i := 5) (v := .pointer (some ⟨pb, poff + m * 2, none⟩)) rfl (by kernel_rfl) (by kernel_rfl) (fun _ _ _ h => h) (Or.inl ⟨by kernel_rfl, ?_⟩) (by assumption) ?_
          · rintro W' ⟨q0, q1, q2, q3⟩
            go_simp
          intro inv2
          clear inv
          have inv := inv2
          clear inv2
          simp only [Act.put]
          refine wpAnyT_take inv (by kernel_rfl) (by omega) (i := 6) (v := .pointer (some ⟨pb, poff + m * 2, none⟩)) rfl (by kernel_rfl) (by kernel_rfl) (fun _ _ _ h => h) (Or.inl ⟨by kernel_rfl, ?_⟩) (by assumption) ?_
          · rintro W' ⟨q0, q1, q2, q3⟩
            go_simp
          intro inv2
          clear inv
          have inv := inv2
          clear inv2
          simp only [Act.put]
          refine wpAnyT_take inv (by kernel_rfl) (by omega) (i := 7) (v := .int .i64 (a : Int)) rfl (by kernel_rfl) (by kernel_rfl) (fun _ _ _ h => h) (Or.inl ⟨by kernel_rfl, ?_⟩) (by assumption) ?_
          · rintro W' ⟨q0, q1, q2, q3⟩
            go_simp
          intro inv2
          clear inv
          have inv := inv2
          clear inv2
          simp only [Act.put]
          refine wpAnyT_take inv (by kernel_rfl) (by omega) (i := 8) (v := .int .i64 (r.len - (a : Int))) rfl (by kernel_rfl) (by kernel_rfl) (fun _ _ _ h => h) (Or.inl ⟨by kernel_rfl, ?_⟩) (by assumption) ?_
          · rintro W' ⟨q0, q1, q2, q3⟩
            go_simp
          intro inv2
          clear inv
          have inv := inv2
          clear inv2
          simp only [Act.put]
          refine wpAnyT_take inv (by kernel_rfl) (by omega) (i := 9) (v := .slice (some ⟨kb, koff, none⟩) ks.length kcap) rfl (by kernel_rfl) (by kernel_rfl) (fun _ _ _ h => h) (Or.inl ⟨by kernel_rfl, ?_⟩) (by assumption) ?_
          · rintro W' ⟨q0, q1, q2, q3⟩
            go_simp
          intro inv2
          clear inv
          have inv := inv2
          clear inv2
          simp only [Act.put]
          refine wpAnyT_take inv (by kernel_rfl) (by omega) (i := 10) (v := .slice (some ⟨pb, poff, none⟩) cl.length yc) rfl (by kernel_rfl) (by kernel_rfl) (fun _ _ _ h => h) (Or.inl ⟨by kernel_rfl, ?_⟩) (by assumption) ?_
          · rintro W' ⟨q0, q1, q2, q3⟩
            go_simp
          intro inv2
          clear inv
          have inv := inv2
          clear inv2
          simp only [Act.put]
          refine wpAnyT_take inv (by kernel_rfl) (by omega) (i := 11) (v := .int .i64 (m : Int)) rfl (by kernel_rfl) (by kernel_rfl) (fun _ _ _ h => h) (Or.inl ⟨by kernel_rfl, ?_⟩) (by assumption) ?_
          · rintro W' ⟨q0, q1, q2, q3⟩
            go_simp
          intro inv2
          clear inv
          have inv := inv2
          clear inv2
          simp only [Act.put]
          refine wpAnyT_take inv (by kernel_rfl) (by omega) (i := 12) (v := .pointer (some ⟨pb, poff + m * 2, none⟩)) rfl (by kernel_rfl) (by kernel_rfl) (fun _ _ _ h => h) (Or.inl ⟨by kernel_rfl, ?_⟩) (by assumption) ?_
          · rintro W' ⟨q0, q1, q2, q3⟩
            go_simp
          intro inv2
          clear inv
          have inv := inv2
          clear inv2
          simp only [Act.put]
          refine wpAnyT_take inv (by kernel_rfl) (by omega) (i := 13) (v := .pointer (some ⟨pb, poff + m * 2 + 1, none⟩)) rfl (by kernel_rfl) (by kernel_rfl) (fun _ _ _ h => h) (Or.inl ⟨by kernel_rfl, ?_⟩) (by assumption) ?_
          · rintro W' ⟨q0, q1, q2, q3⟩
            go_simp
          intro inv2
          clear inv
          have inv := inv2
          clear inv2
          simp only [Act.put]
          refine wpAnyT_take inv (by kernel_rfl) (by omega) (i := 14) (v := .int .i64 (i : Int)) rfl (by kernel_rfl) (by kernel_rfl) (fun _ _ _ h => h) (Or.inl ⟨by kernel_rfl, ?_⟩) (by assumption) ?_
          · rintro W' ⟨q0, q1, q2, q3⟩
            go_simp
          intro inv2
          clear inv
          have inv := inv2
          clear inv2
          simp only [Act.put]
          refine wpAnyT_take inv (by kernel_rfl) (by omega) (i := 15) (v := .pointer (some ⟨kb, koff + i * 3, none⟩)) rfl (by kernel_rfl) (by kernel_rfl) (fun _ _ _ h => h) (Or.inl ⟨by kernel_rfl, ?_⟩) (by assumption) ?_
          · rintro W' ⟨q0, q1, q2, q3⟩
            go_simp
          intro inv2
          clear inv
          have inv := inv2
          clear inv2
          simp only [Act.put]
          refine wpAnyT_take inv (by kernel_rfl) (by omega) (i := 16) (v := .pointer (some ⟨kb, koff + i * 3, none⟩)) rfl (by kernel_rfl) (by kernel_rfl) (fun _ _ _ h => h) (Or.inl ⟨by kernel_rfl, ?_⟩) (by assumption) ?_
          · rintro W' ⟨q0, q1, q2, q3⟩
            go_simp
          intro inv2
          clear inv
          have inv := inv2
          clear inv2
          simp only [Act.put]
          refine wpAnyT_take inv (by kernel_rfl) (by omega) (i := 17) (v := .int .i64 (Wn : Int)) rfl (by kernel_rfl) (by kernel_rfl) (fun _ _ _ h => h) (Or.inl ⟨by kernel_rfl, ?_⟩) (by assumption) ?_
          · rintro W' ⟨q0, q1, q2, q3⟩
            go_simp
          intro inv2
          clear inv
          have inv := inv2
          clear inv2
          simp only [Act.put]
          refine wpAnyT_take inv (by kernel_rfl) (by omega) (i := 18) (v := .int .i64 (ee : Int)) rfl (by kernel_rfl) (by kernel_rfl) (fun _ _ _ h => h) (Or.inl ⟨by kernel_rfl, ?_⟩) (by assumption) ?_
          · rintro W' ⟨q0, q1, q2, q3⟩
            go_simp
          intro inv2
          clear inv
          have inv := inv2
          clear inv2
          simp only [Act.put]
          refine wpAnyT_take inv (by kernel_rfl) (by omega) (i := 19) (v := .slice (some ⟨pb, poff, none⟩) cl.length yc) rfl (by kernel_rfl) (by kernel_rfl) (fun _ _ _ h => h) (Or.inl ⟨by kernel_rfl, ?_⟩) (by assumption) ?_
          · rintro W' ⟨q0, q1, q2, q3⟩
            go_simp
          intro inv2
          clear inv
          have inv := inv2
          clear inv2
          simp only [Act.put]
          refine wpAnyT_take inv (by kernel_rfl) (by omega) (i := 20) (v := .int .i64 (m : Int)) rfl (by kernel_rfl) (by kernel_rfl) (fun _ _ _ h => h) (Or.inl ⟨by kernel_rfl, ?_⟩) (by assumption) ?_
          · rintro W' ⟨q0, q1, q2, q3⟩
            go_simp
          intro inv2
          clear inv
          have inv := inv2
          clear inv2
          simp only [Act.put]
          refine wpAnyT_take inv (by kernel_rfl) (by omega) (i := 21) (v := .pointer (some ⟨pb, poff + m * 2, none⟩)) rfl (by kernel_rfl) (by kernel_rfl) (fun _ _ _ h => h) (Or.inl ⟨by kernel_rfl, ?_⟩) (by assumption) ?_
          · rintro W' ⟨q0, q1, q2, q3⟩
            go_simp
          intro inv2
          clear inv
          have inv := inv2
          clear inv2
          simp only [Act.put]
          refine wpAnyT_take inv (by kernel_rfl) (by omega) (i := 22) (v := .pointer (some ⟨pb, poff + m * 2 + 1, none⟩)) rfl (by kernel_rfl) (by kernel_rfl) (fun _ _ _ h => h) (Or.inl ⟨by kernel_rfl, ?_⟩) (by assumption) ?_
          · rintro W' ⟨q0, q1, q2, q3⟩
            go_simp
          intro inv2
          clear inv
          have inv := inv2
          clear inv2
          simp only [Act.put]
          refine wpAnyT_take inv (by kernel_rfl) (by omega) (i := 23) (v := .int .i64 (i : Int)) rfl (by kernel_rfl) (by kernel_rfl) (fun _ _ _ h => h) (Or.inl ⟨by kernel_rfl, ?_⟩) (by assumption) ?_
          · rintro W' ⟨q0, q1, q2, q3⟩
            go_simp
          intro inv2
          clear inv
          have inv := inv2
          clear inv2
          simp only [Act.put]
          refine wpAnyT_take inv (by kernel_rfl) (by omega) (i := 24) (v := .agg #[.int .i64 (ee : Int), .int .i64 (i : Int)]) rfl (by kernel_rfl) (by kernel_rfl) (fun _ _ _ h => h) (Or.inl ⟨by kernel_rfl, ?_⟩) (by assumption) ?_
          · rintro W' ⟨q0, q1, q2, q3⟩
            go_simp
          intro inv2
          clear inv
          have inv := inv2
          clear inv2
          simp only [Act.put]
          refine wpAnyT_ready [25] (by kernel_rfl) (by simp) ?_
          refine AllReadyT.cons rfl (fun K hK => ?_) AllReadyT.nil
          go_simp
          have hA := below1 V0 (.cells #[.int .i64 (ee : Int), .int .i64 (i : Int)] 56)
          refine hK.out _ _ (fun _ => ⟨cellB o1 hA, cellB y1 hA, cellB y2 hA, cellB y3 hA⟩) (fun _ => ?_)
          clear hK K hS inv
          try simp only [Act.put]
          refine wpAnyT_chain (fuel := 2) rfl (by kernel_rfl) ?_
          simp only [List.drop_succ_cons, List.drop_zero]
          have HNEW := Lib.hid (new_cells V0 [.int .i64 (ee : Int), .int .i64 (i : Int)] 56)
          have ownA := Lib.hid (owns_below own hA)
          have belA := Lib.hid (bel.trans (hA.mono bel.size))
          have hszA : v26.heap.size ≤ (V0.alloc (.cells #[.int .i64 (ee : Int), .int .i64 (i : Int)] 56)).heap.size := by have := bel.size; simp; omega
          clear hA own bel o1 y1 y2 y3 w1 w2
          generalize hVV : V0.alloc (.cells #[.int .i64 (ee : Int), .int .i64 (i : Int)] 56) = V2 at *
          clear hVV
          go_wp2_with (at_builtin; refine wpList_append_own _ rfl (.tmp 151) (.tmp 176) 26 rfl v26.heap.size 56 tj (.agg #[.int .i64 0, .int .i64 0]) 2 16 undS HJF.out HY0.out HY1.out HY2.out rfl (by decide) _ _ _ rfl ownA.out ⟨V0.heap.size, 0, none⟩ 1 1 [.int .i64 (ee : Int), .int .i64 (i : Int)] rfl rfl HNEW.out (one2 _ _) (by unfold maxLen; omega) (by omega) (by omega) ?_; intro v2 w3 own3 gr3 _)
          have hb3 := below_owns ownA.out gr3 belA.out hszA
          rename_i wr8
          go_roundw
          case rel =>
            refine ⟨m, by omega, by go_num, ?_, hb3⟩
            rw [HFL.out, HGP.out, HE.out, List.length_append, List.map_append, List.map_singleton]
            unfold intP
            rw [pairs_snoc]
            exact own3
          case measure => simp [intOf] <;> omega
        · obtain rfl : j = 0 := by omega
          have ho := OUT.out
          rw [List.drop_zero] at ho
          have hlm : ((rv (tabOf r ks) C).map intP).length = (rv (tabOf r ks) C).length := List.length_map _
          have hrow := Row.of_owns ho
          rw [← hlm, HBL.out] at hrow
          have HPB := Lib.hid hrow.pairs
          clear ho hlm hrow
          have hrl := HRL.out
          clear HFT HJF HY0 HY1 HY2 HCC HLC HBL HCL
          obtain ⟨xa, xc, hx⟩ := HPB.out.slice
          cases hx
          replace HMR := Lib.hid (HMR.out.below HBW.out)
          replace HK := Lib.hid (HK.out.below HBW.out)
          replace BM := Lib.hid (BM.out.below HBW.out)
          replace HB := Lib.hid (bC HB.out HBW.out)
          clear OUT HBW B0w HY HV B0
          have BMc0 := BM.out.cell 0
          have BMc1 := BM.out.cell 1
          simp at BMc0 BMc1
          go_wp2_with fail
          clear BMc0 BMc1
          refine (CheckCuts_ok (.agg #[.int .i64 r.len, .slice oa (turnR r).fs.length oc]) (.slice ka ks.length kcap) (turnR r) ks _ bl _ HMR.out HK.out HPB.out HRL.out HTO.out HR.out.2).mono ?_
          rintro e v61 ⟨rfl, hb⟩
          replace HMR := Lib.hid (HMR.out.below hb)
          replace HK := Lib.hid (HK.out.below hb)
          replace BM := Lib.hid (BM.out.below hb)
          replace HB := Lib.hid (bC HB.out hb)
          clear hb
          rw [HBC.out.1, HBC.out.2]
          have BMc0 := BM.out.cell 0
          have BMc1 := BM.out.cell 1
          simp at BMc0 BMc1
          go_wp2_with fail
          clear BMc0 BMc1
          refine (Works_any _).mono ?_
          rintro e v62 ⟨rfl, hb⟩
          replace HMR := Lib.hid (HMR.out.below hb)
          replace HK := Lib.hid (HK.out.below hb)
          replace BM := Lib.hid (BM.out.below hb)
          replace HB := Lib.hid (bC HB.out hb)
          clear hb
          go_wp2
          go_ret
          exact ⟨rfl, HB.out⟩
end Go.Proofs.Ytnkeikhkafbokaa
