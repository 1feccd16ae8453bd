import Derived.Test.YtjbeoakikdkdaaaSz
import Derived.Test.YtjbeoakikdkdaaaSd
namespace Go.Proofs.Ytjbeoakikdkdaaa
open Go.RowKit Go.Vat Go.Sort Go.Shelf
attribute [local go_sem] Oper.semAt_some

/-! ## Right hours by numbers -/
theorem fit_snoc : ∀ {xs : List Int} {ls : List (Int × Int)} {x : Int} {l : Int × Int}, fit xs ls → l.1 ≤ x → x ≤ l.2 → fit (xs ++ [x]) (ls ++ [l]) := by
  intro xs ls x l hf h1 h2
  refine fit_of (by simp [fit_length hf]) fun i h h' => ?_
  have hl := fit_length hf
  by_cases q : i < xs.length
  · rw [List.getElem_append_left q, List.getElem_append_left (by omega)]
    exact fit_get hf i q (by omega)
  · have e1 : i = xs.length := by simp at h; omega
    subst e1
    rw [List.getElem_append_right (by omega), List.getElem_append_right (by omega)]
    simpa [hl] using And.intro h1 h2
theorem chosen_step {xs : List Int} {y : YardD} {i : Nat} (hi : i < y.logs.length) {n : Int} (hf : fit xs (y.logs.take i)) (h0 : 0 ≤ n) (hl : y.logs[i].1 ≤ y.logs[i].2) : fit (xs ++ [y.logs[i].1 + n.tmod (y.logs[i].2 - y.logs[i].1 + 1)]) (y.logs.take (i + 1)) := by
  rw [List.take_succ_eq_append_getElem hi]
  have := tmodN n (y.logs[i].2 - y.logs[i].1 + 1) h0 (by omega)
  exact fit_snoc hf (by omega) (by omega)
theorem rem_idx (i m : Nat) : (i : Int).tmod (m : Int) = ((i % m : Nat) : Int) := by
  rw [Int.tmod_eq_emod_of_nonneg (by omega)]
  rfl
set_option maxRecDepth 100000 in
set_option maxHeartbeats 8000000 in
theorem Chosen_any (v bv : Value) (by' : List Int) (y : YardD) (w : World) (hv : YardAt w v y) (hb : U8At w bv by') (hr : ∀ x ∈ by', 0 ≤ x ∧ x ≤ 255) (hy : y.Ok) :
    Calls Try.prog 41 #[v, bv] w fun e w' => ∃ vh xs, e = .returned vh ∧ IntsAt w' vh xs ∧ fit xs y.logs ∧ Below w.heap.size w w' := by
  obtain ⟨sv, rfl, hp⟩ := hv
  obtain ⟨sa, cap, rfl⟩ := hp.slice
  have hB0 := below1 w (.cells #[.int .i64 y.load, .slice sa y.logs.length cap] 24)
  have B0 := Lib.hid (Blk.new w (.cells #[.int .i64 y.load, .slice sa y.logs.length cap] 24))
  have HB := Lib.hid hB0
  have HV := Lib.hid (show YardAt _ (.agg #[.int .i64 y.load, .slice sa y.logs.length cap]) y from ⟨_, rfl, hp.below hB0⟩)
  have HBY := Lib.hid (hb.below hB0)
  have HP := Lib.hid (hp.below hB0)
  have HYD := Lib.hid hy
  have hl10 := hy.count
  have HR := Lib.hid hr
  have hz0 : (w.alloc (.cells #[.int .i64 y.load, .slice sa y.logs.length cap] 24)).heap.size = w.heap.size + 1 := by simp
  obtain ⟨ya, yc, rfl⟩ := hb.slice
  clear hy hr hb
  clear hp hB0
  go_enter Try.func41, Try.ntmps41
  go_wp2_with fail
  generalize w.alloc (.cells #[.int .i64 y.load, .slice sa y.logs.length cap] 24) = W0 at *
  go_loopw [5, 6, 7] (fun o s _ wr => ∃ (i : Nat) (xs : List Int), i ≤ y.logs.length ∧ s = .int .i64 i ∧ xs.length = i ∧ fit xs (y.logs.take i) ∧ wr.ownsRow W0.heap.size 2 1 o i (xs.map (Value.int .i64)) ∧ Below W0.heap.size W0 wr) (fun _ s _ _ => y.logs.length - (intOf s).toNat)
  case atStart => exact ⟨0, [], Nat.zero_le _, rfl, rfl, trivial, owns_nil _ _ _ _, Below.refl _ _⟩
  case round =>
    obtain ⟨i, xs, hi, rfl, hxs, hfit, hown, hbw⟩ := hrel
    have HXS := Lib.hid hxs
    have HFIT := Lib.hid hfit
    have HOWN := Lib.hid hown
    obtain ⟨oa, oc, rfl⟩ := owns_slice hown
    have HBW := Lib.hid hbw
    have c1 := (B0.out.below hbw).cell 1
    simp at c1
    clear hown hxs hfit
    by_cases hit : i < y.logs.length
    · obtain ⟨pb, off, rfl, hpw, hc, hd⟩ := PairsAt.get0 (HP.out.below hbw) hit
      have hlg := HYD.out.log _ (List.getElem_mem hit)
      have HST := Lib.hid (fun n (h0 : 0 ≤ n) => chosen_step hit (n := n) HFIT.out h0 (by omega))
      obtain ⟨l1, hl1⟩ : ∃ x, y.logs[i].1 = x := ⟨_, rfl⟩
      obtain ⟨l2, hl2⟩ : ∃ x, y.logs[i].2 = x := ⟨_, rfl⟩
      rw [hl1] at hc hlg HST
      rw [hl2] at hd hlg HST
      obtain ⟨h1, h2, h3⟩ := hlg
      have hii : (i : Int) < (y.logs.length : Int) := by omega
      clear hl1 hl2 HFIT
      by_cases hbl : 0 < by'.length
      · have hme : i % by'.length < by'.length := Nat.mod_lt _ hbl
        obtain ⟨ub, uo, rfl, hu⟩ := (HBY.out.below hbw).get (i % by'.length) hme
        have hrr := HR.out _ (List.getElem_mem hme)
        have HRI := Lib.hid (rem_idx i by'.length)
        obtain ⟨nv, hnv⟩ : ∃ nv, by'[i % by'.length] = nv := ⟨_, rfl⟩
        rw [hnv] at hu hrr
        obtain ⟨mi, hmi⟩ : ∃ mi, i % by'.length = mi := ⟨_, rfl⟩
        rw [hmi] at hu hme HRI
        obtain ⟨hn0, hn1⟩ := hrr
        have g1 : (by'.length : Int) > 0 := by omega
        have e1 : ((i : Int).tmod (by'.length : Int)) = (mi : Int) := HRI.out
        have i1 : (mi : Int) < (by'.length : Int) := by omega
        have g2 : ¬ (by'.length : Int) = 0 := by omega
        have d1 : decide ((by'.length : Int) > 0) = true := by simpa using g1
        have d3 : decide ((0 : Int) < by'.length) = true := by simpa using g1
        clear hnv hmi hbw HRI
        go_wp2_with fail
        generalize wr = w5 at *
        obtain ⟨T, hT⟩ : ∃ T, Int.tmod nv (l2 - l1 + 1) = T := ⟨_, rfl⟩
        have ht := tmodN nv (l2 - l1 + 1) hn0 (by omega)
        rw [hT] at ht
        have HT := Lib.hid hT
        have HS := Lib.hid (HST.out nv hn0)
        rw [hT] at HS
        have u1 : IntKind.i64.wrap (l2 - l1) = l2 - l1 := IntWalk.i64_in _ (by omega)
        have u2 : IntKind.i64.wrap (l2 - l1 + 1) = l2 - l1 + 1 := IntWalk.i64_in _ (by omega)
        have u3 : IntKind.i64.wrap T = T := IntWalk.i64_in _ (by omega)
        have u4 : IntKind.i64.wrap (l1 + T) = l1 + T := IntWalk.i64_in _ (by omega)
        have u5 : ¬ l2 - l1 + 1 = 0 := by omega
        clear HST hT ht
        have y0 : w5.drew.cell? ⟨w.heap.size, 1, none⟩ = some (.slice (some ⟨pb, off, none⟩) y.logs.length cap) := c1
        have y1 : w5.drew.cell? ⟨pb, off + i * 2, none⟩ = some (.int .i64 l1) := hc
        have y2 : w5.drew.cell? ⟨pb, off + i * 2 + 1, none⟩ = some (.int .i64 l2) := hd
        have own : w5.drew.ownsRow W0.heap.size 2 1 (.slice oa i oc) i (xs.map (Value.int .i64)) := HOWN.out
        have bel : Below W0.heap.size W0 w5.drew := HBW.out.drew
        clear HOWN HBW c1 hc hd
        refine (wp_region_T 25 (fun W' => W'.cell? ⟨w.heap.size, 1, none⟩ = some (.slice (some ⟨pb, off, none⟩) y.logs.length cap) ∧ W'.cell? ⟨pb, off + i * 2, none⟩ = some (.int .i64 l1) ∧ W'.cell? ⟨pb, off + i * 2 + 1, none⟩ = some (.int .i64 l2)) (by kernel_rfl) (by kernel_rfl) ⟨y0, y1, y2⟩ ?_)
        intro inv hS
        clear y0 y1 y2
        generalize w5.drew = V0 at *
        refine wpAnyT_take inv (by kernel_rfl) (by omega) (i := 0) (v := .slice oa i oc) rfl (by kernel_rfl) (by kernel_rfl) (fun _ _ _ h => h) (Or.inl ⟨by kernel_rfl, ?_⟩) (by assumption) ?_
        · rintro W' ⟨q0, q1, q2⟩
          go_simp
        intro inv2
        clear inv
        have inv := inv2
        clear inv2
        simp only [Act.put, List.setIfInBounds_toArray]
        refine wpAnyT_take inv (by kernel_rfl) (by omega) (i := 1) (v := .pointer (some ⟨w.heap.size, 1, none⟩)) rfl (by kernel_rfl) (by kernel_rfl) (fun _ _ _ h => h) (Or.inl ⟨by kernel_rfl, ?_⟩) (by assumption) ?_
        · rintro W' ⟨q0, q1, q2⟩
          go_simp
        intro inv2
        clear inv
        have inv := inv2
        clear inv2
        simp only [Act.put]
        refine wpAnyT_take inv (by kernel_rfl) (by omega) (i := 2) (v := .slice (some ⟨pb, off, none⟩) y.logs.length cap) rfl (by kernel_rfl) (by kernel_rfl) (fun _ _ _ h => h) (Or.inl ⟨by kernel_rfl, ?_⟩) (by assumption) ?_
        · rintro W' ⟨q0, q1, q2⟩
          go_simp
        intro inv2
        clear inv
        have inv := inv2
        clear inv2
        simp only [Act.put]
        refine wpAnyT_take inv (by kernel_rfl) (by omega) (i := 3) (v := .int .i64 (i : Int)) rfl (by kernel_rfl) (by kernel_rfl) (fun _ _ _ h => h) (Or.inl ⟨by kernel_rfl, ?_⟩) (by assumption) ?_
        · rintro W' ⟨q0, q1, q2⟩
          go_simp
        intro inv2
        clear inv
        have inv := inv2
        clear inv2
        simp only [Act.put]
        refine wpAnyT_take inv (by kernel_rfl) (by omega) (i := 4) (v := .pointer (some ⟨pb, off + i * 2, none⟩)) rfl (by kernel_rfl) (by kernel_rfl) (fun _ _ _ h => h) (Or.inl ⟨by kernel_rfl, ?_⟩) (by assumption) ?_
        · rintro W' ⟨q0, q1, q2⟩
          go_simp
        intro inv2
        clear inv
        have inv := inv2
        clear inv2
        simp only [Act.put]
        refine wpAnyT_take inv (by kernel_rfl) (by omega) (i := 5) (v := .pointer (some ⟨pb, off + i * 2, none⟩)) rfl (by kernel_rfl) (by kernel_rfl) (fun _ _ _ h => h) (Or.inl ⟨by kernel_rfl, ?_⟩) (by assumption) ?_
        · rintro W' ⟨q0, q1, q2⟩
          go_simp
        intro inv2
        clear inv
        have inv := inv2
        clear inv2
        simp only [Act.put]
        refine wpAnyT_take inv (by kernel_rfl) (by omega) (i := 6) (v := .int .i64 l1) rfl (by kernel_rfl) (by kernel_rfl) (fun _ _ _ h => h) (Or.inl ⟨by kernel_rfl, ?_⟩) (by assumption) ?_
        · rintro W' ⟨q0, q1, q2⟩
          go_simp
        intro inv2
        clear inv
        have inv := inv2
        clear inv2
        simp only [Act.put]
        refine wpAnyT_take inv (by kernel_rfl) (by omega) (i := 7) (v := .int .i64 nv) rfl (by kernel_rfl) (by kernel_rfl) (fun _ _ _ h => h) (Or.inl ⟨by kernel_rfl, ?_⟩) (by assumption) ?_
        · rintro W' ⟨q0, q1, q2⟩
          go_simp
        intro inv2
        clear inv
        have inv := inv2
        clear inv2
        simp only [Act.put]
        refine wpAnyT_take inv (by kernel_rfl) (by omega) (i := 8) (v := .pointer (some ⟨w.heap.size, 1, none⟩)) rfl (by kernel_rfl) (by kernel_rfl) (fun _ _ _ h => h) (Or.inl ⟨by kernel_rfl, ?_⟩) (by assumption) ?_
        · rintro W' ⟨q0, q1, q2⟩
          go_simp
        intro inv2
        clear inv
        have inv := inv2
        clear inv2
        simp only [Act.put]
        refine wpAnyT_take inv (by kernel_rfl) (by omega) (i := 9) (v := .slice (some ⟨pb, off, none⟩) y.logs.length cap) rfl (by kernel_rfl) (by kernel_rfl) (fun _ _ _ h => h) (Or.inl ⟨by kernel_rfl, ?_⟩) (by assumption) ?_
        · rintro W' ⟨q0, q1, q2⟩
          go_simp
        intro inv2
        clear inv
        have inv := inv2
        clear inv2
        simp only [Act.put]
        refine wpAnyT_take inv (by kernel_rfl) (by omega) (i := 10) (v := .int .i64 (i : Int)) rfl (by kernel_rfl) (by kernel_rfl) (fun _ _ _ h => h) (Or.inl ⟨by kernel_rfl, ?_⟩) (by assumption) ?_
        · rintro W' ⟨q0, q1, q2⟩
          go_simp
        intro inv2
        clear inv
        have inv := inv2
        clear inv2
        simp only [Act.put]
        refine wpAnyT_take inv (by kernel_rfl) (by omega) (i := 11) (v := .pointer (some ⟨pb, off + i * 2, none⟩)) rfl (by kernel_rfl) (by kernel_rfl) (fun _ _ _ h => h) (Or.inl ⟨by kernel_rfl, ?_⟩) (by assumption) ?_
        · rintro W' ⟨q0, q1, q2⟩
          go_simp
        intro inv2
        clear inv
        have inv := inv2
        clear inv2
        simp only [Act.put]
        refine wpAnyT_take inv (by kernel_rfl) (by omega) (i := 12) (v := .pointer (some ⟨pb, off + i * 2 + 1, none⟩)) rfl (by kernel_rfl) (by kernel_rfl) (fun _ _ _ h => h) (Or.inl ⟨by kernel_rfl, ?_⟩) (by assumption) ?_
        · rintro W' ⟨q0, q1, q2⟩
          go_simp
        intro inv2
        clear inv
        have inv := inv2
        clear inv2
        simp only [Act.put]
        refine wpAnyT_take inv (by kernel_rfl) (by omega) (i := 13) (v := .int .i64 l2) rfl (by kernel_rfl) (by kernel_rfl) (fun _ _ _ h => h) (Or.inl ⟨by kernel_rfl, ?_⟩) (by assumption) ?_
        · rintro W' ⟨q0, q1, q2⟩
          go_simp
        intro inv2
        clear inv
        have inv := inv2
        clear inv2
        simp only [Act.put]
        refine wpAnyT_take inv (by kernel_rfl) (by omega) (i := 14) (v := .pointer (some ⟨w.heap.size, 1, none⟩)) rfl (by kernel_rfl) (by kernel_rfl) (fun _ _ _ h => h) (Or.inl ⟨by kernel_rfl, ?_⟩) (by assumption) ?_
        · rintro W' ⟨q0, q1, q2⟩
          go_simp
        intro inv2
        clear inv
        have inv := inv2
        clear inv2
        simp only [Act.put]
        refine wpAnyT_take inv (by kernel_rfl) (by omega) (i := 15) (v := .slice (some ⟨pb, off, none⟩) y.logs.length cap) rfl (by kernel_rfl) (by kernel_rfl) (fun _ _ _ h => h) (Or.inl ⟨by kernel_rfl, ?_⟩) (by assumption) ?_
        · rintro W' ⟨q0, q1, q2⟩
          go_simp
        intro inv2
        clear inv
        have inv := inv2
        clear inv2
        simp only [Act.put]
        refine wpAnyT_take inv (by kernel_rfl) (by omega) (i := 16) (v := .int .i64 (i : Int)) rfl (by kernel_rfl) (by kernel_rfl) (fun _ _ _ h => h) (Or.inl ⟨by kernel_rfl, ?_⟩) (by assumption) ?_
        · rintro W' ⟨q0, q1, q2⟩
          go_simp
        intro inv2
        clear inv
        have inv := inv2
        clear inv2
        simp only [Act.put]
        refine wpAnyT_take inv (by kernel_rfl) (by omega) (i := 17) (v := .pointer (some ⟨pb, off + i * 2, none⟩)) rfl (by kernel_rfl) (by kernel_rfl) (fun _ _ _ h => h) (Or.inl ⟨by kernel_rfl, ?_⟩) (by assumption) ?_
        · rintro W' ⟨q0, q1, q2⟩
          go_simp
        intro inv2
        clear inv
        have inv := inv2
        clear inv2
        simp only [Act.put]
        refine wpAnyT_take inv (by kernel_rfl) (by omega) (i := 18) (v := .pointer (some ⟨pb, off + i * 2, none⟩)) rfl (by kernel_rfl) (by kernel_rfl) (fun _ _ _ h => h) (Or.inl ⟨by kernel_rfl, ?_⟩) (by assumption) ?_
        · rintro W' ⟨q0, q1, q2⟩
          go_simp
        intro inv2
        clear inv
        have inv := inv2
        clear inv2
        simp only [Act.put]
        refine wpAnyT_take inv (by kernel_rfl) (by omega) (i := 19) (v := .int .i64 l1) rfl (by kernel_rfl) (by kernel_rfl) (fun _ _ _ h => h) (Or.inl ⟨by kernel_rfl, ?_⟩) (by assumption) ?_
        · rintro W' ⟨q0, q1, q2⟩
          go_simp
        intro inv2
        clear inv
        have inv := inv2
        clear inv2
        simp only [Act.put]
        refine wpAnyT_take inv (by kernel_rfl) (by omega) (i := 20) (v := .int .i64 (l2 - l1)) rfl (by kernel_rfl) (by kernel_rfl) (fun _ _ _ h => h) (Or.inl ⟨by kernel_rfl, ?_⟩) (by assumption) ?_
        · rintro W' ⟨q0, q1, q2⟩
          go_simp
        intro inv2
        clear inv
        have inv := inv2
        clear inv2
        simp only [Act.put]
        refine wpAnyT_take inv (by kernel_rfl) (by omega) (i := 21) (v := .int .i64 (l2 - l1 + 1)) rfl (by kernel_rfl) (by kernel_rfl) (fun _ _ _ h => h) (Or.inl ⟨by kernel_rfl, ?_⟩) (by assumption) ?_
        · rintro W' ⟨q0, q1, q2⟩
          go_simp
        intro inv2
        clear inv
        have inv := inv2
        clear inv2
        simp only [Act.put]
        refine wpAnyT_take inv (by kernel_rfl) (by omega) (i := 22) (v := .int .i64 T) rfl (by kernel_rfl) (by kernel_rfl) (fun _ _ _ h => h) (Or.inl ⟨by kernel_rfl, ?_⟩) (by assumption) ?_
        · rintro W' ⟨q0, q1, q2⟩
          go_simp
          exact HT.out
        intro inv2
        clear inv
        have inv := inv2
        clear inv2
        simp only [Act.put]
        refine wpAnyT_take inv (by kernel_rfl) (by omega) (i := 23) (v := .int .i64 (l1 + T)) rfl (by kernel_rfl) (by kernel_rfl) (fun _ _ _ h => h) (Or.inl ⟨by kernel_rfl, ?_⟩) (by assumption) ?_
        · rintro W' ⟨q0, q1, q2⟩
          go_simp
        intro inv2
        clear inv
        have inv := inv2
        clear inv2
        simp only [Act.put]
        refine wpAnyT_ready [24] (by kernel_rfl) (by simp) ?_
        refine AllReadyT.cons rfl (fun K hK => ?_) AllReadyT.nil
        go_simp
        have hA := below1 V0 (.cells #[.int .i64 (l1 + T)] 2)
        refine hK.out _ _ (fun _ => ⟨cellB hS.1 hA, cellB hS.2.1 hA, cellB hS.2.2 hA⟩) (fun _ => ?_)
        clear hK K hS inv
        try simp only [Act.put]
        have bN := Blk.new V0 (.cells #[.int .i64 (l1 + T)] 2)
        replace own := owns_below own hA
        replace bel := bel.trans (hA.mono (by have := bel.size; omega))
        obtain ⟨bx, hbx⟩ : ∃ bx, V0.heap.size = bx := ⟨_, rfl⟩
        rw [hbx] at bN ⊢
        clear hA hbx
        generalize V0.alloc (.cells #[.int .i64 (l1 + T)] 2) = V9 at *
        refine wpAnyT_chain (fuel := 2) rfl (by kernel_rfl) ?_
        simp only [List.drop_succ_cons, List.drop_zero]
        go_wp2_with (at_builtin; refine wp_app64 rfl (.tmp 26) (.tmp 50) rfl _ _ _ _ rfl own _ _ _ rfl bN (by omega) bel (by have := bel.size; omega) ?_; intro a2 c2 w3 own3 bel3 gr3)
        go_roundw
        case rel => exact ⟨i + 1, xs ++ [l1 + T], by omega, by go_num, by simp [HXS.out], HS.out, by rw [List.map_append]; exact own3, bel3⟩
        case measure => simp [intOf] <;> omega
      · have d1 : decide ((by'.length : Int) > 0) = false := decide_eq_false (by omega)
        have d3 : decide ((0 : Int) < by'.length) = false := decide_eq_false (by omega)
        obtain ⟨nv, hnv⟩ : ∃ nv : Int, (0 : Int) = nv := ⟨_, rfl⟩
        have hn0 : 0 ≤ nv := by omega
        have hn1 : nv ≤ 255 := by omega
        have HNV := Lib.hid hnv
        clear hbw hnv
        go_wp2_with fail
        generalize wr = w5 at *
        obtain ⟨T, hT⟩ : ∃ T, Int.tmod nv (l2 - l1 + 1) = T := ⟨_, rfl⟩
        have ht := tmodN nv (l2 - l1 + 1) hn0 (by omega)
        rw [hT] at ht
        have HT := Lib.hid hT
        have HS := Lib.hid (HST.out nv hn0)
        rw [hT] at HS
        have u1 : IntKind.i64.wrap (l2 - l1) = l2 - l1 := IntWalk.i64_in _ (by omega)
        have u2 : IntKind.i64.wrap (l2 - l1 + 1) = l2 - l1 + 1 := IntWalk.i64_in _ (by omega)
        have u3 : IntKind.i64.wrap T = T := IntWalk.i64_in _ (by omega)
        have u4 : IntKind.i64.wrap (l1 + T) = l1 + T := IntWalk.i64_in _ (by omega)
        have u5 : ¬ l2 - l1 + 1 = 0 := by omega
        clear HST hT ht
        have y0 : w5.drew.cell? ⟨w.heap.size, 1, none⟩ = some (.slice (some ⟨pb, off, none⟩) y.logs.length cap) := c1
        have y1 : w5.drew.cell? ⟨pb, off + i * 2, none⟩ = some (.int .i64 l1) := hc
        have y2 : w5.drew.cell? ⟨pb, off + i * 2 + 1, none⟩ = some (.int .i64 l2) := hd
        have own : w5.drew.ownsRow W0.heap.size 2 1 (.slice oa i oc) i (xs.map (Value.int .i64)) := HOWN.out
        have bel : Below W0.heap.size W0 w5.drew := HBW.out.drew
        clear HOWN HBW c1 hc hd
        refine (wp_region_T 25 (fun W' => W'.cell? ⟨w.heap.size, 1, none⟩ = some (.slice (some ⟨pb, off, none⟩) y.logs.length cap) ∧ W'.cell? ⟨pb, off + i * 2, none⟩ = some (.int .i64 l1) ∧ W'.cell? ⟨pb, off + i * 2 + 1, none⟩ = some (.int .i64 l2)) (by kernel_rfl) (by kernel_rfl) ⟨y0, y1, y2⟩ ?_)
        intro inv hS
        clear y0 y1 y2
        generalize w5.drew = V0 at *
        refine wpAnyT_take inv (by kernel_rfl) (by omega) (i := 0) (v := .slice oa i oc) rfl (by kernel_rfl) (by kernel_rfl) (fun _ _ _ h => h) (Or.inl ⟨by kernel_rfl, ?_⟩) (by assumption) ?_
        · rintro W' ⟨q0, q1, q2⟩
          go_simp
        intro inv2
        clear inv
        have inv := inv2
        clear inv2
        simp only [Act.put, List.setIfInBounds_toArray]
        refine wpAnyT_take inv (by kernel_rfl) (by omega) (i := 1) (v := .pointer (some ⟨w.heap.size, 1, none⟩)) rfl (by kernel_rfl) (by kernel_rfl) (fun _ _ _ h => h) (Or.inl ⟨by kernel_rfl, ?_⟩) (by assumption) ?_
        · rintro W' ⟨q0, q1, q2⟩
          go_simp
        intro inv2
        clear inv
        have inv := inv2
        clear inv2
        simp only [Act.put]
        refine wpAnyT_take inv (by kernel_rfl) (by omega) (i := 2) (v := .slice (some ⟨pb, off, none⟩) y.logs.length cap) rfl (by kernel_rfl) (by kernel_rfl) (fun _ _ _ h => h) (Or.inl ⟨by kernel_rfl, ?_⟩) (by assumption) ?_
        · rintro W' ⟨q0, q1, q2⟩
          go_simp
        intro inv2
        clear inv
        have inv := inv2
        clear inv2
        simp only [Act.put]
        refine wpAnyT_take inv (by kernel_rfl) (by omega) (i := 3) (v := .int .i64 (i : Int)) rfl (by kernel_rfl) (by kernel_rfl) (fun _ _ _ h => h) (Or.inl ⟨by kernel_rfl, ?_⟩) (by assumption) ?_
        · rintro W' ⟨q0, q1, q2⟩
          go_simp
        intro inv2
        clear inv
        have inv := inv2
        clear inv2
        simp only [Act.put]
        refine wpAnyT_take inv (by kernel_rfl) (by omega) (i := 4) (v := .pointer (some ⟨pb, off + i * 2, none⟩)) rfl (by kernel_rfl) (by kernel_rfl) (fun _ _ _ h => h) (Or.inl ⟨by kernel_rfl, ?_⟩) (by assumption) ?_
        · rintro W' ⟨q0, q1, q2⟩
          go_simp
        intro inv2
        clear inv
        have inv := inv2
        clear inv2
        simp only [Act.put]
        refine wpAnyT_take inv (by kernel_rfl) (by omega) (i := 5) (v := .pointer (some ⟨pb, off + i * 2, none⟩)) rfl (by kernel_rfl) (by kernel_rfl) (fun _ _ _ h => h) (Or.inl ⟨by kernel_rfl, ?_⟩) (by assumption) ?_
        · rintro W' ⟨q0, q1, q2⟩
          go_simp
        intro inv2
        clear inv
        have inv := inv2
        clear inv2
        simp only [Act.put]
        refine wpAnyT_take inv (by kernel_rfl) (by omega) (i := 6) (v := .int .i64 l1) rfl (by kernel_rfl) (by kernel_rfl) (fun _ _ _ h => h) (Or.inl ⟨by kernel_rfl, ?_⟩) (by assumption) ?_
        · rintro W' ⟨q0, q1, q2⟩
          go_simp
        intro inv2
        clear inv
        have inv := inv2
        clear inv2
        simp only [Act.put]
        refine wpAnyT_take inv (by kernel_rfl) (by omega) (i := 7) (v := .int .i64 0) rfl (by kernel_rfl) (by kernel_rfl) (fun _ _ _ h => h) (Or.inl ⟨by kernel_rfl, ?_⟩) (by assumption) ?_
        · rintro W' ⟨q0, q1, q2⟩
          go_simp
        intro inv2
        clear inv
        have inv := inv2
        clear inv2
        simp only [Act.put]
        refine wpAnyT_take inv (by kernel_rfl) (by omega) (i := 8) (v := .pointer (some ⟨w.heap.size, 1, none⟩)) rfl (by kernel_rfl) (by kernel_rfl) (fun _ _ _ h => h) (Or.inl ⟨by kernel_rfl, ?_⟩) (by assumption) ?_
        · rintro W' ⟨q0, q1, q2⟩
          go_simp
        intro inv2
        clear inv
        have inv := inv2
        clear inv2
        simp only [Act.put]
        refine wpAnyT_take inv (by kernel_rfl) (by omega) (i := 9) (v := .slice (some ⟨pb, off, none⟩) y.logs.length cap) rfl (by kernel_rfl) (by kernel_rfl) (fun _ _ _ h => h) (Or.inl ⟨by kernel_rfl, ?_⟩) (by assumption) ?_
        · rintro W' ⟨q0, q1, q2⟩
          go_simp
        intro inv2
        clear inv
        have inv := inv2
        clear inv2
        simp only [Act.put]
        refine wpAnyT_take inv (by kernel_rfl) (by omega) (i := 10) (v := .int .i64 (i : Int)) rfl (by kernel_rfl) (by kernel_rfl) (fun _ _ _ h => h) (Or.inl ⟨by kernel_rfl, ?_⟩) (by assumption) ?_
        · rintro W' ⟨q0, q1, q2⟩
          go_simp
        intro inv2
        clear inv
        have inv := inv2
        clear inv2
        simp only [Act.put]
        refine wpAnyT_take inv (by kernel_rfl) (by omega) (i := 11) (v := .pointer (some ⟨pb, off + i * 2, none⟩)) rfl (by kernel_rfl) (by kernel_rfl) (fun _ _ _ h => h) (Or.inl ⟨by kernel_rfl, ?_⟩) (by assumption) ?_
        · rintro W' ⟨q0, q1, q2⟩
          go_simp
        intro inv2
        clear inv
        have inv := inv2
        clear inv2
        simp only [Act.put]
        refine wpAnyT_take inv (by kernel_rfl) (by omega) (i := 12) (v := .pointer (some ⟨pb, off + i * 2 + 1, none⟩)) rfl (by kernel_rfl) (by kernel_rfl) (fun _ _ _ h => h) (Or.inl ⟨by kernel_rfl, ?_⟩) (by assumption) ?_
        · rintro W' ⟨q0, q1, q2⟩
          go_simp
        intro inv2
        clear inv
        have inv := inv2
        clear inv2
        simp only [Act.put]
        refine wpAnyT_take inv (by kernel_rfl) (by omega) (i := 13) (v := .int .i64 l2) rfl (by kernel_rfl) (by kernel_rfl) (fun _ _ _ h => h) (Or.inl ⟨by kernel_rfl, ?_⟩) (by assumption) ?_
        · rintro W' ⟨q0, q1, q2⟩
          go_simp
        intro inv2
        clear inv
        have inv := inv2
        clear inv2
        simp only [Act.put]
        refine wpAnyT_take inv (by kernel_rfl) (by omega) (i := 14) (v := .pointer (some ⟨w.heap.size, 1, none⟩)) rfl (by kernel_rfl) (by kernel_rfl) (fun _ _ _ h => h) (Or.inl ⟨by kernel_rfl, ?_⟩) (by assumption) ?_
        · rintro W' ⟨q0, q1, q2⟩
          go_simp
        intro inv2
        clear inv
        have inv := inv2
        clear inv2
        simp only [Act.put]
        refine wpAnyT_take inv (by kernel_rfl) (by omega) (i := 15) (v := .slice (some ⟨pb, off, none⟩) y.logs.length cap) rfl (by kernel_rfl) (by kernel_rfl) (fun _ _ _ h => h) (Or.inl ⟨by kernel_rfl, ?_⟩) (by assumption) ?_
        · rintro W' ⟨q0, q1, q2⟩
          go_simp
        intro inv2
        clear inv
        have inv := inv2
        clear inv2
        simp only [Act.put]
        refine wpAnyT_take inv (by kernel_rfl) (by omega) (i := 16) (v := .int .i64 (i : Int)) rfl (by kernel_rfl) (by kernel_rfl) (fun _ _ _ h => h) (Or.inl ⟨by kernel_rfl, ?_⟩) (by assumption) ?_
        · rintro W' ⟨q0, q1, q2⟩
          go_simp
        intro inv2
        clear inv
        have inv := inv2
        clear inv2
        simp only [Act.put]
        refine wpAnyT_take inv (by kernel_rfl) (by omega) (i := 17) (v := .pointer (some ⟨pb, off + i * 2, none⟩)) rfl (by kernel_rfl) (by kernel_rfl) (fun _ _ _ h => h) (Or.inl ⟨by kernel_rfl, ?_⟩) (by assumption) ?_
        · rintro W' ⟨q0, q1, q2⟩
          go_simp
        intro inv2
        clear inv
        have inv := inv2
        clear inv2
        simp only [Act.put]
        refine wpAnyT_take inv (by kernel_rfl) (by omega) (i := 18) (v := .pointer (some ⟨pb, off + i * 2, none⟩)) rfl (by kernel_rfl) (by kernel_rfl) (fun _ _ _ h => h) (Or.inl ⟨by kernel_rfl, ?_⟩) (by assumption) ?_
        · rintro W' ⟨q0, q1, q2⟩
          go_simp
        intro inv2
        clear inv
        have inv := inv2
        clear inv2
        simp only [Act.put]
        refine wpAnyT_take inv (by kernel_rfl) (by omega) (i := 19) (v := .int .i64 l1) rfl (by kernel_rfl) (by kernel_rfl) (fun _ _ _ h => h) (Or.inl ⟨by kernel_rfl, ?_⟩) (by assumption) ?_
        · rintro W' ⟨q0, q1, q2⟩
          go_simp
        intro inv2
        clear inv
        have inv := inv2
        clear inv2
        simp only [Act.put]
        refine wpAnyT_take inv (by kernel_rfl) (by omega) (i := 20) (v := .int .i64 (l2 - l1)) rfl (by kernel_rfl) (by kernel_rfl) (fun _ _ _ h => h) (Or.inl ⟨by kernel_rfl, ?_⟩) (by assumption) ?_
        · rintro W' ⟨q0, q1, q2⟩
          go_simp
        intro inv2
        clear inv
        have inv := inv2
        clear inv2
        simp only [Act.put]
        refine wpAnyT_take inv (by kernel_rfl) (by omega) (i := 21) (v := .int .i64 (l2 - l1 + 1)) rfl (by kernel_rfl) (by kernel_rfl) (fun _ _ _ h => h) (Or.inl ⟨by kernel_rfl, ?_⟩) (by assumption) ?_
        · rintro W' ⟨q0, q1, q2⟩
          go_simp
        intro inv2
        clear inv
        have inv := inv2
        clear inv2
        simp only [Act.put]
        refine wpAnyT_take inv (by kernel_rfl) (by omega) (i := 22) (v := .int .i64 T) rfl (by kernel_rfl) (by kernel_rfl) (fun _ _ _ h => h) (Or.inl ⟨by kernel_rfl, ?_⟩) (by assumption) ?_
        · rintro W' ⟨q0, q1, q2⟩
          go_simp
          (have h := HT.out; rw [← HNV.out] at h; simpa using h)
        intro inv2
        clear inv
        have inv := inv2
        clear inv2
        simp only [Act.put]
        refine wpAnyT_take inv (by kernel_rfl) (by omega) (i := 23) (v := .int .i64 (l1 + T)) rfl (by kernel_rfl) (by kernel_rfl) (fun _ _ _ h => h) (Or.inl ⟨by kernel_rfl, ?_⟩) (by assumption) ?_
        · rintro W' ⟨q0, q1, q2⟩
          go_simp
        intro inv2
        clear inv
        have inv := inv2
        clear inv2
        simp only [Act.put]
        refine wpAnyT_ready [24] (by kernel_rfl) (by simp) ?_
        refine AllReadyT.cons rfl (fun K hK => ?_) AllReadyT.nil
        go_simp
        have hA := below1 V0 (.cells #[.int .i64 (l1 + T)] 2)
        refine hK.out _ _ (fun _ => ⟨cellB hS.1 hA, cellB hS.2.1 hA, cellB hS.2.2 hA⟩) (fun _ => ?_)
        clear hK K hS inv
        try simp only [Act.put]
        have bN := Blk.new V0 (.cells #[.int .i64 (l1 + T)] 2)
        replace own := owns_below own hA
        replace bel := bel.trans (hA.mono (by have := bel.size; omega))
        obtain ⟨bx, hbx⟩ : ∃ bx, V0.heap.size = bx := ⟨_, rfl⟩
        rw [hbx] at bN ⊢
        clear hA hbx
        generalize V0.alloc (.cells #[.int .i64 (l1 + T)] 2) = V9 at *
        refine wpAnyT_chain (fuel := 2) rfl (by kernel_rfl) ?_
        simp only [List.drop_succ_cons, List.drop_zero]
        go_wp2_with (at_builtin; refine wp_app64 rfl (.tmp 26) (.tmp 50) rfl _ _ _ _ rfl own _ _ _ rfl bN (by omega) bel (by have := bel.size; omega) ?_; intro a2 c2 w3 own3 bel3 gr3)
        go_roundw
        case rel => exact ⟨i + 1, xs ++ [l1 + T], by omega, by go_num, by simp [HXS.out], HS.out, by rw [List.map_append]; exact own3, bel3⟩
        case measure => simp [intOf] <;> omega
    · obtain rfl : i = y.logs.length := by omega
      go_wp2
      go_ret
      have hfit := HFIT.out
      rw [List.take_length] at hfit
      refine ⟨_, xs, rfl, ?_, hfit, bC HB.out HBW.out⟩
      have h := Row.of_owns HOWN.out
      rw [← HXS.out] at h ⊢
      exact h.ints
set_option maxRecDepth 100000 in
set_option maxHeartbeats 16000000 in
theorem SteamProved_any (v : Value) (uv wv : Value) (us : List Int) (ws : List (Int × Int)) (y : YardD) (w : World) (hv : YardAt w v y) (hu : U8At w uv us) (hr : ∀ x ∈ us, 0 ≤ x ∧ x ≤ 255) (hw : PairsAt w wv ws) :
    Calls Try.prog 7 #[v, uv, wv] w fun e w' => e = .returned (.bool true) ∧ Below w.heap.size w w' := by
  obtain ⟨sv, rfl, hp⟩ := hv
  obtain ⟨sa, cap, rfl⟩ := hp.slice
  obtain ⟨ua, uc, rfl⟩ := hu.slice
  obtain ⟨wa, wc, rfl⟩ := hw.slice
  have hB0 := below1 w (.cells #[.int .i64 y.load, .slice sa y.logs.length cap] 24)
  have B0 := Lib.hid (Blk.new w (.cells #[.int .i64 y.load, .slice sa y.logs.length cap] 24))
  have HB := Lib.hid hB0
  have HV := Lib.hid (show YardAt _ (.agg #[.int .i64 y.load, .slice sa y.logs.length cap]) y from ⟨_, rfl, hp.below hB0⟩)
  have HU := Lib.hid (hu.below hB0)
  have HW := Lib.hid (hw.below hB0)
  clear hp hB0 hu hw
  by_cases hyd : y.Ok
  case neg =>
    go_enter Try.func7, Try.ntmps7
    go_wp2_with fail
    generalize w.alloc (.cells #[.int .i64 y.load, .slice sa y.logs.length cap] 24) = W0 at *
    refine (fine_no (.agg #[.int .i64 y.load, .slice sa y.logs.length cap]) y _ HV.out hyd).mono ?_
    rintro e v1 ⟨rfl, hb⟩
    replace HV := Lib.hid (HV.out.below hb)
    replace HU := Lib.hid (HU.out.below hb)
    replace HW := Lib.hid (HW.out.below hb)
    replace B0 := Lib.hid (B0.out.below hb)
    replace HB := Lib.hid (bC HB.out hb)
    clear hb
    have B0c0 := B0.out.cell 0
    have B0c1 := B0.out.cell 1
    simp at B0c0 B0c1
    go_wp2_with fail
    clear B0c0 B0c1
    refine (Works_any _).mono ?_
    rintro e v2 ⟨rfl, hb⟩
    replace HV := Lib.hid (HV.out.below hb)
    replace HU := Lib.hid (HU.out.below hb)
    replace HW := Lib.hid (HW.out.below hb)
    replace B0 := Lib.hid (B0.out.below hb)
    replace HB := Lib.hid (bC HB.out hb)
    clear hb
    go_wp2
    go_ret
    exact ⟨rfl, HB.out⟩
  have HYD := Lib.hid hyd
  have hl10 := hyd.count
  clear hyd
  by_cases hls : 20 < us.length
  · have g01 : decide ((us.length : Int) > 20) = true := decide_eq_true (by omega)
    have g02 : decide ((20 : Int) < (us.length : Int)) = true := decide_eq_true (by omega)
    clear hls
    go_enter Try.func7, Try.ntmps7
    go_wp2_with fail
    generalize w.alloc (.cells #[.int .i64 y.load, .slice sa y.logs.length cap] 24) = W0 at *
    refine (fine_yes (.agg #[.int .i64 y.load, .slice sa y.logs.length cap]) y _ HV.out HYD.out).mono ?_
    rintro e v1 ⟨rfl, hb⟩
    replace HV := Lib.hid (HV.out.below hb)
    replace HU := Lib.hid (HU.out.below hb)
    replace HW := Lib.hid (HW.out.below hb)
    replace B0 := Lib.hid (B0.out.below hb)
    replace HB := Lib.hid (bC HB.out hb)
    clear hb
    have B0c0 := B0.out.cell 0
    have B0c1 := B0.out.cell 1
    simp at B0c0 B0c1
    go_wp2_with fail
    clear B0c0 B0c1
    refine (Works_any _).mono ?_
    rintro e v2 ⟨rfl, hb⟩
    replace HV := Lib.hid (HV.out.below hb)
    replace HU := Lib.hid (HU.out.below hb)
    replace HW := Lib.hid (HW.out.below hb)
    replace B0 := Lib.hid (B0.out.below hb)
    replace HB := Lib.hid (bC HB.out hb)
    clear hb
    go_wp2
    go_ret
    exact ⟨rfl, HB.out⟩
  have g01 : decide ((us.length : Int) > 20) = false := decide_eq_false (by omega)
  have g02 : decide ((20 : Int) < (us.length : Int)) = false := decide_eq_false (by omega)
  by_cases hls : 10 < ws.length
  · have g11 : decide ((ws.length : Int) > 10) = true := decide_eq_true (by omega)
    have g12 : decide ((10 : Int) < (ws.length : Int)) = true := decide_eq_true (by omega)
    clear hls
    go_enter Try.func7, Try.ntmps7
    go_wp2_with fail
    generalize w.alloc (.cells #[.int .i64 y.load, .slice sa y.logs.length cap] 24) = W0 at *
    refine (fine_yes (.agg #[.int .i64 y.load, .slice sa y.logs.length cap]) y _ HV.out HYD.out).mono ?_
    rintro e v1 ⟨rfl, hb⟩
    replace HV := Lib.hid (HV.out.below hb)
    replace HU := Lib.hid (HU.out.below hb)
    replace HW := Lib.hid (HW.out.below hb)
    replace B0 := Lib.hid (B0.out.below hb)
    replace HB := Lib.hid (bC HB.out hb)
    clear hb
    have B0c0 := B0.out.cell 0
    have B0c1 := B0.out.cell 1
    simp at B0c0 B0c1
    go_wp2_with fail
    clear B0c0 B0c1
    refine (Works_any _).mono ?_
    rintro e v2 ⟨rfl, hb⟩
    replace HV := Lib.hid (HV.out.below hb)
    replace HU := Lib.hid (HU.out.below hb)
    replace HW := Lib.hid (HW.out.below hb)
    replace B0 := Lib.hid (B0.out.below hb)
    replace HB := Lib.hid (bC HB.out hb)
    clear hb
    go_wp2
    go_ret
    exact ⟨rfl, HB.out⟩
  have g11 : decide ((ws.length : Int) > 10) = false := decide_eq_false (by omega)
  have g12 : decide ((10 : Int) < (ws.length : Int)) = false := decide_eq_false (by omega)
  go_enter Try.func7, Try.ntmps7
  go_wp2_with fail
  generalize w.alloc (.cells #[.int .i64 y.load, .slice sa y.logs.length cap] 24) = W0 at *
  refine (fine_yes (.agg #[.int .i64 y.load, .slice sa y.logs.length cap]) y _ HV.out HYD.out).mono ?_
  rintro e v1 ⟨rfl, hb⟩
  replace HV := Lib.hid (HV.out.below hb)
  replace HU := Lib.hid (HU.out.below hb)
  replace HW := Lib.hid (HW.out.below hb)
  replace B0 := Lib.hid (B0.out.below hb)
  replace HB := Lib.hid (bC HB.out hb)
  clear hb
  have B0c0 := B0.out.cell 0
  have B0c1 := B0.out.cell 1
  simp at B0c0 B0c1
  go_wp2_with fail
  clear B0c0 B0c1
  refine (fewest_law (.agg #[.int .i64 y.load, .slice sa y.logs.length cap]) y _ HV.out HYD.out).mono ?_
  rintro e v2 ⟨vh, xs0, rfl, hi0, hf0, hn0, hb⟩
  replace HV := Lib.hid (HV.out.below hb)
  replace HU := Lib.hid (HU.out.below hb)
  replace HW := Lib.hid (HW.out.below hb)
  replace B0 := Lib.hid (B0.out.below hb)
  replace HB := Lib.hid (bC HB.out hb)
  clear hb
  clear hi0 hf0 hn0
  have HLE := Lib.hid (fun xs (hf : fit xs y.logs) => U_le_N HYD.out hf 101)
  have HPL := Lib.hid (fun ws (h : proofErr y ws = 0) => proof_le h)
  obtain ⟨F, hF⟩ : ∃ F, U y 101 = F := ⟨_, rfl⟩
  rw [hF] at HLE HPL ⊢
  clear hF
  have B0c0 := B0.out.cell 0
  have B0c1 := B0.out.cell 1
  simp at B0c0 B0c1
  go_wp2_with fail
  clear B0c0 B0c1
  have B0c0 := B0.out.cell 0
  have B0c1 := B0.out.cell 1
  simp at B0c0 B0c1
  have y0 : v2.drew.cell? ⟨w.heap.size, 0, none⟩ = some (.int .i64 y.load) := B0c0
  have y1 : v2.drew.cell? ⟨w.heap.size, 1, none⟩ = some (.slice sa y.logs.length cap) := B0c1
  have hvw : YardAt v2.drew (.agg #[.int .i64 y.load, .slice sa y.logs.length cap]) y := HV.out.below ((Below.refl _ _).drew)
  have huw : U8At v2.drew (.slice ua us.length uc) us := HU.out.below ((Below.refl _ _).drew)
  have hww : PairsAt v2.drew (.slice wa ws.length wc) ws := HW.out.below ((Below.refl _ _).drew)
  have blw : Blk v2.drew w.heap.size (.cells #[.int .i64 y.load, .slice sa y.logs.length cap] 24) := B0.out.below ((Below.refl _ _).drew)
  have hbw : Below w.heap.size w v2.drew := HB.out.drew
  clear HV HU HW B0 HB B0c0 B0c1
  refine (wp_region_T 9 (fun W' => W'.cell? ⟨w.heap.size, 0, none⟩ = some (.int .i64 y.load) ∧ W'.cell? ⟨w.heap.size, 1, none⟩ = some (.slice sa y.logs.length cap)) (by kernel_rfl) (by kernel_rfl) ⟨y0, y1⟩ ?_)
  intro inv hS
  clear y0 y1
  generalize v2.drew = V0 at *
  refine wpAnyT_take inv (by kernel_rfl) (by omega) (i := 0) (v := .agg #[.int .i64 y.load, .slice sa y.logs.length cap]) rfl (by kernel_rfl) (by kernel_rfl) (fun _ _ _ h => h) (Or.inl ⟨by kernel_rfl, ?_⟩) (by assumption) ?_
  · rintro W' ⟨q0, q1⟩
    go_simp
  intro inv2
  clear inv
  have inv := inv2
  clear inv2
  simp only [Act.put, List.setIfInBounds_toArray]
  refine wpAnyT_take inv (by kernel_rfl) (by omega) (i := 1) (v := .agg #[.int .i64 y.load, .slice sa y.logs.length cap]) rfl (by kernel_rfl) (by kernel_rfl) (fun _ _ _ h => h) (Or.inl ⟨by kernel_rfl, ?_⟩) (by assumption) ?_
  · rintro W' ⟨q0, q1⟩
    go_simp
  intro inv2
  clear inv
  have inv := inv2
  clear inv2
  simp only [Act.put]
  refine wpAnyT_take inv (by kernel_rfl) (by omega) (i := 2) (v := .slice ua us.length uc) rfl (by kernel_rfl) (by kernel_rfl) (fun _ _ _ h => h) (Or.inl ⟨by kernel_rfl, ?_⟩) (by assumption) ?_
  · rintro W' ⟨q0, q1⟩
    go_simp
  intro inv2
  clear inv
  have inv := inv2
  clear inv2
  simp only [Act.put]
  refine wpAnyT_ready [3] (by kernel_rfl) (by simp) ?_
  refine AllReadyT.cons rfl (fun K hK => ?_) AllReadyT.nil
  go_simp
  refine (Chosen_any (.agg #[.int .i64 y.load, .slice sa y.logs.length cap]) (.slice ua us.length uc) us y _ hvw huw hr HYD.out).mono ?_
  rintro e z1 ⟨vz, zs, rfl, hi, hf, hb⟩
  obtain ⟨za, zc, rfl⟩ := hi.slice
  obtain ⟨e1, e2⟩ := hours_of HYD.out hf
  have hle := HLE.out zs hf
  obtain ⟨A, hA⟩ : ∃ A, N y.load zs 101 = A := ⟨_, rfl⟩
  rw [hA] at e2 hle
  have HE := Lib.hid (And.intro e1 e2)
  clear hf hA e1 e2
  refine hK.out _ _ (fun _ => ⟨cellB hS.1 hb, cellB hS.2 hb⟩) (fun _ => ?_)
  replace inv := HeadM.step inv 3 (by kernel_rfl) (by omega)
  clear hK K
  try simp only [Act.put]
  replace hS := And.intro (cellB hS.1 hb) (cellB hS.2 hb)
  replace hvw := hvw.below hb
  replace huw := huw.below hb
  replace hww := hww.below hb
  replace blw := blw.below hb
  replace hbw := hbw.trans (hb.mono (by have := hbw.size; omega))
  clear hb
  refine wpAnyT_ready [4] (by kernel_rfl) (by simp) ?_
  refine AllReadyT.cons rfl (fun K hK => ?_) AllReadyT.nil
  go_simp
  refine (CheckHours_ok (.agg #[.int .i64 y.load, .slice sa y.logs.length cap]) (.slice za zs.length zc) y zs _ hvw HYD.out hi).mono ?_
  rintro e z2 ⟨rfl, hb⟩
  rw [HE.out.1, HE.out.2]
  refine hK.out _ _ (fun _ => ⟨cellB hS.1 hb, cellB hS.2 hb⟩) (fun _ => ?_)
  replace inv := HeadM.step inv 4 (by kernel_rfl) (by omega)
  clear hK K
  try simp only [Act.put]
  replace hS := And.intro (cellB hS.1 hb) (cellB hS.2 hb)
  replace hvw := hvw.below hb
  replace huw := huw.below hb
  replace hww := hww.below hb
  replace blw := blw.below hb
  replace hbw := hbw.trans (hb.mono (by have := hbw.size; omega))
  replace hi := hi.below hb
  clear hb
  refine wpAnyT_take inv (by kernel_rfl) (by omega) (i := 5) (v := .tuple #[.int .i64 A, .int .i64 0]) rfl (by kernel_rfl) (by kernel_rfl) (fun _ _ _ h => h) (Or.inl ⟨by kernel_rfl, ?_⟩) (by assumption) ?_
  · rintro W' ⟨q0, q1⟩
    go_simp
  intro inv2
  clear inv
  have inv := inv2
  clear inv2
  simp only [Act.put]
  refine wpAnyT_take inv (by kernel_rfl) (by omega) (i := 6) (v := .int .i64 A) rfl (by kernel_rfl) (by kernel_rfl) (fun _ _ _ h => h) (Or.inl ⟨by kernel_rfl, ?_⟩) (by assumption) ?_
  · rintro W' ⟨q0, q1⟩
    go_simp
  intro inv2
  clear inv
  have inv := inv2
  clear inv2
  simp only [Act.put]
  refine wpAnyT_take inv (by kernel_rfl) (by omega) (i := 7) (v := .int .i64 0) rfl (by kernel_rfl) (by kernel_rfl) (fun _ _ _ h => h) (Or.inl ⟨by kernel_rfl, ?_⟩) (by assumption) ?_
  · rintro W' ⟨q0, q1⟩
    go_simp
  intro inv2
  clear inv
  have inv := inv2
  clear inv2
  simp only [Act.put]
  refine wpAnyT_take inv (by kernel_rfl) (by omega) (i := 8) (v := .int .i64 A) rfl (by kernel_rfl) (by kernel_rfl) (fun _ _ _ h => h) (Or.inl ⟨by kernel_rfl, ?_⟩) (by assumption) ?_
  · rintro W' ⟨q0, q1⟩
    go_simp
  intro inv2
  clear inv
  have inv := inv2
  clear inv2
  simp only [Act.put]
  clear inv hS
  refine wpAnyT_chain (fuel := 1) rfl (by kernel_rfl) ?_
  simp only [List.drop_succ_cons, List.drop_zero]
  clear hi
  have HV := Lib.hid hvw
  have HU := Lib.hid huw
  have HW := Lib.hid hww
  have B0 := Lib.hid blw
  have HB := Lib.hid hbw
  clear hvw huw hww blw hbw
  have B0c0 := B0.out.cell 0
  have B0c1 := B0.out.cell 1
  simp at B0c0 B0c1
  go_wp2_with fail
  clear B0c0 B0c1
  refine (CheckProof_ok (.agg #[.int .i64 y.load, .slice sa y.logs.length cap]) (.slice wa ws.length wc) y ws _ HV.out HYD.out HW.out (by omega)).mono ?_
  rintro e v3 ⟨rfl, hb⟩
  replace HV := Lib.hid (HV.out.below hb)
  replace HU := Lib.hid (HU.out.below hb)
  replace HW := Lib.hid (HW.out.below hb)
  replace B0 := Lib.hid (B0.out.below hb)
  replace HB := Lib.hid (bC HB.out hb)
  clear hb
  have d1 : decide (A < F) = false := decide_eq_false (by omega)
  have hq : proofErr y ws = 0 ∨ proofErr y ws = 3 ∨ proofErr y ws = 16 := by
    rw [proofErr_ok HYD.out]
    unfold proofErr0
    rw [if_neg (by omega)]
    split
    · split
      · exact Or.inl rfl
      · exact Or.inr (Or.inr rfl)
    · exact Or.inr (Or.inl rfl)
  have hp0 := HPL.out ws
  obtain ⟨P, hP⟩ : ∃ P, proofV y ws = P := ⟨_, rfl⟩
  obtain ⟨E, hE⟩ : ∃ E, proofErr y ws = E := ⟨_, rfl⟩
  rw [hP, hE] at hp0
  rw [hP, hE]
  rw [hE] at hq
  clear hP hE
  rcases hq with rfl | rfl | rfl
  · obtain ⟨hp1, hp2⟩ := hp0 rfl
    have d2 : decide (P ≥ 0) = true := decide_eq_true (by omega)
    have d3 : decide (0 ≤ P) = true := decide_eq_true (by omega)
    have d4 : decide (P ≤ F) = true := decide_eq_true (by omega)
    clear hp0
    have B0c0 := B0.out.cell 0
    have B0c1 := B0.out.cell 1
    simp at B0c0 B0c1
    go_wp2_with fail
    clear B0c0 B0c1
    refine (Works_any _).mono ?_
    rintro e v4 ⟨rfl, hb⟩
    replace HV := Lib.hid (HV.out.below hb)
    replace HU := Lib.hid (HU.out.below hb)
    replace HW := Lib.hid (HW.out.below hb)
    replace B0 := Lib.hid (B0.out.below hb)
    replace HB := Lib.hid (bC HB.out hb)
    clear hb
    go_wp2
    go_ret
    exact ⟨rfl, HB.out⟩
  · clear hp0
    have B0c0 := B0.out.cell 0
    have B0c1 := B0.out.cell 1
    simp at B0c0 B0c1
    go_wp2_with fail
    clear B0c0 B0c1
    refine (Works_any _).mono ?_
    rintro e v4 ⟨rfl, hb⟩
    replace HV := Lib.hid (HV.out.below hb)
    replace HU := Lib.hid (HU.out.below hb)
    replace HW := Lib.hid (HW.out.below hb)
    replace B0 := Lib.hid (B0.out.below hb)
    replace HB := Lib.hid (bC HB.out hb)
    clear hb
    go_wp2
    go_ret
    exact ⟨rfl, HB.out⟩
  · clear hp0
    have B0c0 := B0.out.cell 0
    have B0c1 := B0.out.cell 1
    simp at B0c0 B0c1
    go_wp2_with fail
    clear B0c0 B0c1
    refine (Works_any _).mono ?_
    rintro e v4 ⟨rfl, hb⟩
    replace HV := Lib.hid (HV.out.below hb)
    replace HU := Lib.hid (HU.out.below hb)
    replace HW := Lib.hid (HW.out.below hb)
    replace B0 := Lib.hid (B0.out.below hb)
    replace HB := Lib.hid (bC HB.out hb)
    clear hb
    go_wp2
    go_ret
    exact ⟨rfl, HB.out⟩
end Go.Proofs.Ytjbeoakikdkdaaa
