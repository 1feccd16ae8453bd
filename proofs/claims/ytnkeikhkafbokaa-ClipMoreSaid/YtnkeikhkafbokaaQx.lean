import Derived.Test.YtnkeikhkafbokaaQw
namespace Go.Proofs.Ytnkeikhkafbokaa
open Go.RowKit Go.Dag Go.Sort Go.Shelf
attribute [local go_sem] Oper.semAt_some

/-! ## The program: Parted, Cost -/
set_option maxRecDepth 100000 in
set_option maxHeartbeats 2000000 in
theorem grownI2_any (v : Value) (n : Nat) (xs : List Value) (x : Int) (w : World) (hrow : Row w v n 1 xs) (hn : n ≤ 1000000) :
    Calls Try.prog 74 #[v, .int .i64 x] w fun e w' => ∃ v', e = .returned v' ∧ Row w' v' (n + 1) 1 (xs ++ [.int .i64 x]) ∧ (∀ b off n c, v' = .slice (some ⟨b, off, none⟩) n c → w.heap.size ≤ b) ∧ Below w.heap.size w w' := by
  obtain ⟨a, cap, rfl, hcap, hnone, hcells, hlen⟩ := hrow.cells
  obtain ⟨i0, hi, hz0', hz1, hz2⟩ := info_parts infoI
  clear hrow
  have hn0 : ¬ (n : Int) < 0 := by omega
  have s1 := Lib.hid (show a = none → n = 0 ∧ n = 0 from fun h => ⟨(hnone h).1, (hnone h).1⟩)
  have hW : Below w.heap.size w (w.alloc (.cells #[.int .i64 x] 3)) := below1 _ _
  have s2 := Lib.hid (fun b (hb : a = some b) j u (hu : xs[j]? = some u) => addB (hcells b hb j u hu) hW)
  have hN : Blk (w.alloc (.cells #[.int .i64 x] 3)) w.heap.size (.cells #[.int .i64 x] 3) := Blk.new _ _
  have s3 := Lib.hid (show ∀ (j : Nat) (u : Value), [Value.int .i64 x][j]? = some u → (w.alloc (.cells #[.int .i64 x] 3)).cell? ((⟨w.heap.size, 0, none⟩ : Addr).add j) = some u from fun j u hu => by
    have e : (⟨w.heap.size, 0, none⟩ : Addr).add j = ⟨w.heap.size, j, none⟩ := by unfold Addr.add; split <;> simp_all
    rw [e, hN.cell]; simpa using hu)
  have s4 : n + 1 ≤ maxLen := by unfold maxLen; omega
  have s4' := Lib.hid s4
  have hHB := Lib.hid hW
  have HL := Lib.hid hlen
  clear hcells hlen hnone s4 hN hW
  go_enter Try.func74, Try.ntmps74
  go_wp2_with (at_builtin; refine wpList_append_grows _ rfl (.tmp 10) (.tmp 12) 22 rfl 3 i0 (.int .i64 0) 1 8 Try.underlying22 hi hz0' hz1 hz2 rfl (by decide) a n n xs (by simp [Act.eval]) s1.out HL.out s2.out ⟨w.heap.size, 0, none⟩ 1 1 [.int .i64 x] (by simp [Act.eval]) rfl s3.out (by simp [Value.oneCell']) (by omega) s4'.out (by omega) ?_; intro v' w' hown hgrow)
  go_ret
  refine ⟨v', rfl, Row.of_owns hown, fun b off n c e => ?_, hHB.out.trans ((below_of_grown hgrow).mono (by simp))⟩
  obtain ⟨_, ⟨h1, _⟩ | ⟨g, cap, cur, h1, h2, _⟩⟩ := hown
  · rw [h1] at e; cases e
  · rw [h1] at e; cases e; simp at h2; omega
theorem within_arg {lo hi x : Int} : (decide (lo ≤ x) && decide (x ≤ hi)) = true ↔ lo ≤ x ∧ x ≤ hi := by simp
set_option maxRecDepth 100000 in
set_option maxHeartbeats 4000000 in
theorem Parted_ok (v kv : Value) (r : RibD) (ks : List KindD) (p : Int) (w : World) (hv : RibAt w v r) (hk : KindsAt w kv ks) (hr : RibOk r) (hks : KindsOk ks) :
    Calls Try.prog 34 #[v, kv, .int .i64 p] w fun e w' => e = .returned (.tuple #[.int .i64 (partedV r ks p), .int .i64 (partedErr r p)]) ∧ Below w.heap.size w w' := by
  obtain ⟨sv, rfl, hi⟩ := hv
  obtain ⟨sa, cap, rfl⟩ := hi.slice
  obtain ⟨ka, kcap, rfl⟩ := hk.slice
  have hB0 := below1 w (.cells #[.int .i64 r.len, .slice sa r.fs.length cap] 24)
  have b0 := Blk.new w (.cells #[.int .i64 r.len, .slice sa r.fs.length cap] 24)
  have HI := Lib.hid (hi.below hB0)
  have HK := Lib.hid (hk.below hB0)
  clear hi hk
  go_enter Try.func34, Try.ntmps34
  go_wp2_with fail
  generalize w.alloc (.cells #[.int .i64 r.len, .slice sa r.fs.length cap] 24) = W0 at *
  have HRK := Lib.hid (And.intro hr hks)
  have hfc := hr.count
  have hl1 := hr.l1
  have hl2 := hr.l2
  have hk6 := hks.1
  have hokt := tabOf_ok (r := r) (ks := ks) (by omega) hks
  have HOK := Lib.hid hokt
  refine (lay_ok _ _ r ks _ ⟨_, rfl, HI.out⟩ HK.out hr hks).mono ?_
  rintro e w1 ⟨T, M, rfl, hla, hT, hM, hb1⟩
  have HB1 := Lib.hid (bC hB0 hb1)
  have HL1 := Lib.hid hla
  replace b0 := b0.below hb1
  clear hb1 hB0 hr hks hla HI HK hokt
  have t0 := HL1.out.1.len
  have hTl := HL1.out.1.lt.1
  by_cases q1 : p < 0 ∨ r.len < p
  · have HT := Lib.hid (And.intro (show partedErr r p = 2 by unfold partedErr; rw [if_pos q1]) (show partedV r ks p = 0 by unfold partedV; rw [if_pos q1]))
    have HQ := Lib.hid (in_no q1)
    clear q1
    go_wp2_with fail
    refine (withinI_one 0 r.len p false _ _ (IntsAt.mk1 (by go_simp)) HQ.out).mono ?_
    rintro e w2 ⟨rfl, rfl⟩
    have HB2 := Lib.hid (bC HB1.out (below1 w1 (.cells #[.int .i64 p] 3)))
    go_wp2
    go_ret2
    exact ⟨ret_pair HT.out.2.symm HT.out.1.symm, HB2.out⟩
  · obtain ⟨pn, rfl⟩ : ∃ pn : Nat, p = (pn : Int) := ⟨p.toNat, by omega⟩
    have HT := Lib.hid (And.intro (show partedErr r (pn : Int) = 0 by unfold partedErr; rw [if_neg q1]) (show partedV r ks (pn : Int) = partV (tabOf r ks) pn by unfold partedV; rw [if_neg q1, Int.toNat_natCast]))
    have HQ := Lib.hid (in_yes (lo := 0) (hi := r.len) (x := (pn : Int)) (by omega) (by omega))
    have hpl : (pn : Int) ≤ r.len := by omega
    clear q1
    go_wp2_with fail
    refine (withinI_one 0 r.len pn true _ _ (IntsAt.mk1 (by go_simp)) HQ.out).mono ?_
    rintro e w2 ⟨rfl, rfl⟩
    have hb2 := below1 w1 (.cells #[.int .i64 pn] 3)
    have HB2 := Lib.hid (bC HB1.out hb2)
    have HL2 := Lib.hid (HL1.out.below hb2)
    clear hb2 t0 HB1 HL1
    go_wp2_with fail
    refine (parted_any T M r ks pn _ HL2.out HRK.out.1 HRK.out.2 hpl).mono ?_
    rintro e w3 ⟨rfl, hb3⟩
    have HB3 := Lib.hid (bC HB2.out hb3)
    clear hb3
    go_wp2
    go_ret2
    exact ⟨ret_pair HT.out.2.symm HT.out.1.symm, HB3.out⟩

set_option maxRecDepth 100000 in
set_option maxHeartbeats 4000000 in
theorem Cost_ok (v kv : Value) (r : RibD) (ks : List KindD) (i : Int) (w : World) (hv : RibAt w v r) (hk : KindsAt w kv ks) (hr : RibOk r) (hks : KindsOk ks) :
    Calls Try.prog 36 #[v, kv, .int .i64 i] w fun e w' => e = .returned (.tuple #[.int .i64 (costV r ks i), .int .i64 (costErr r i)]) ∧ Below w.heap.size w w' := by
  obtain ⟨sv, rfl, hi⟩ := hv
  obtain ⟨sa, cap, rfl⟩ := hi.slice
  obtain ⟨ka, kcap, rfl⟩ := hk.slice
  have hB0 := below1 w (.cells #[.int .i64 r.len, .slice sa r.fs.length cap] 24)
  have b0 := Blk.new w (.cells #[.int .i64 r.len, .slice sa r.fs.length cap] 24)
  have HI := Lib.hid (hi.below hB0)
  have HK := Lib.hid (hk.below hB0)
  have HIC := Lib.hid (fun k (hk : k < r.fs.length) => (hi.below hB0).at.2 k hk)
  clear hi hk
  go_enter Try.func36, Try.ntmps36
  go_wp2_with fail
  generalize w.alloc (.cells #[.int .i64 r.len, .slice sa r.fs.length cap] 24) = W0 at *
  have HRK := Lib.hid (And.intro hr hks)
  have hfc := hr.count
  have hl1 := hr.l1
  have hl2 := hr.l2
  have hk6 := hks.1
  have hokt := tabOf_ok (r := r) (ks := ks) (by omega) hks
  have HOK := Lib.hid hokt
  refine (lay_ok _ _ r ks _ ⟨_, rfl, HI.out⟩ HK.out hr hks).mono ?_
  rintro e w1 ⟨T, M, rfl, hla, hT, hM, hb1⟩
  have HB1 := Lib.hid (bC hB0 hb1)
  have HL1 := Lib.hid hla
  have HBW := Lib.hid hb1
  have hw0 := hB0.size
  replace b0 := b0.below hb1
  clear hb1 hB0 hr hks hla HI HK hokt
  have HIC1 := Lib.hid (fun k (hk : k < r.fs.length) => (show ∃ b off, sa = some ⟨b, off, none⟩ ∧ w1.cell? ⟨b, off + k, none⟩ = some (.int .i64 r.fs[k]) from by
    obtain ⟨b, off, e, hc⟩ := HIC.out k hk
    exact ⟨b, off, e, cellB hc HBW.out⟩))
  clear HIC HBW
  have hTl := HL1.out.1.lt.1
  have hbl := b0.lt
  have hw1 := HB1.out.size
  have c0 := b0.cell 0
  have c1 := b0.cell 1
  simp at c0 c1
  have ww0 : IntKind.i64.wrap ((r.fs.length : Int) - 1) = (r.fs.length : Int) - 1 := IntWalk.i64_in _ (by omega)
  by_cases q1 : i < 0 ∨ (r.fs.length : Int) ≤ i
  · have HT := Lib.hid (And.intro (show costErr r i = 2 by unfold costErr; rw [if_pos q1]) (show costV r ks i = 0 by unfold costV; rw [if_pos q1]))
    have HQ := Lib.hid (in_no (lo := 0) (hi := (r.fs.length : Int) - 1) (x := i) (by omega))
    clear q1
    go_wp2_with fail
    refine (withinI_one 0 ((r.fs.length : Int) - 1) i false _ _ (IntsAt.mk1 (by go_simp)) HQ.out).mono ?_
    rintro e w2 ⟨rfl, rfl⟩
    have HB2 := Lib.hid (bC HB1.out (below1 w1 (.cells #[.int .i64 i] 3)))
    go_wp2
    go_ret2
    exact ⟨ret_pair HT.out.2.symm HT.out.1.symm, HB2.out⟩
  · obtain ⟨m, rfl⟩ : ∃ m : Nat, i = (m : Int) := ⟨i.toNat, by omega⟩
    have hm : m < r.fs.length := by omega
    have HT := Lib.hid (And.intro (show costErr r (m : Int) = 0 by unfold costErr; rw [if_neg q1]) (show costV r ks (m : Int) = dn (tabOf (without r m) ks) 0 - dn (tabOf r ks) 0 by unfold costV; rw [if_neg q1, Int.toNat_natCast]))
    have HQ := Lib.hid (in_yes (lo := 0) (hi := (r.fs.length : Int) - 1) (x := (m : Int)) (by omega) (by omega))
    clear q1
    go_wp2_with fail
    refine (withinI_one 0 ((r.fs.length : Int) - 1) m true _ _ (IntsAt.mk1 (by go_simp)) HQ.out).mono ?_
    rintro e w2 ⟨rfl, rfl⟩
    have hb2 := below1 w1 (.cells #[.int .i64 m] 3)
    have HB2 := Lib.hid (bC HB1.out hb2)
    have HL2 := Lib.hid (HL1.out.below hb2)
    have HIC2 := Lib.hid (fun k (hk : k < r.fs.length) => (show ∃ b off, sa = some ⟨b, off, none⟩ ∧ (w1.alloc (.cells #[.int .i64 m] 3)).cell? ⟨b, off + k, none⟩ = some (.int .i64 r.fs[k]) from by
      obtain ⟨b, off, e, hc⟩ := HIC1.out k hk
      exact ⟨b, off, e, cellB hc hb2⟩))
    replace b0 := b0.below hb2
    clear HB1 HL1 HIC1 c0 c1 ww0 hb2
    have hz2 : (w1.alloc (.cells #[.int .i64 m] 3)).heap.size = w1.heap.size + 1 := by simp
    go_wp2_with fail
    generalize w1.alloc (.cells #[.int .i64 m] 3) = w2 at *
    have HU := Lib.hid (show Ux (tabOf r ks) (r.len.toNat + 1) r.len.toNat = dn (tabOf r ks) 0 by
      unfold Ux
      rw [if_pos (by omega)]
      exact up_all HOK.out)
    refine (worth_any T M r ks _ _ HL2.out.1.tab HRK.out.1 HL2.out.1.up).mono ?_
    rintro e w3 ⟨rfl, hb3⟩
    rw [HU.out]
    have HB3 := Lib.hid (bC HB2.out hb3)
    have HL3 := Lib.hid (HL2.out.below hb3)
    have HIC3 := Lib.hid (fun k (hk : k < r.fs.length) => (show ∃ b off, sa = some ⟨b, off, none⟩ ∧ w3.cell? ⟨b, off + k, none⟩ = some (.int .i64 r.fs[k]) from by
      obtain ⟨b, off, e, hc⟩ := HIC2.out k hk
      exact ⟨b, off, e, cellB hc hb3⟩))
    replace b0 := b0.below hb3
    clear hb3 HB2 HL2 HIC2
    have c1 := b0.cell 1
    simp at c1
    go_wp2_with fail
    clear c1
    go_loopw [11, 36] (fun sv s wr => ∃ k : Nat, k ≤ r.fs.length ∧ s = .int .i64 k ∧ Row wr sv (woF m (r.fs.take k)).length 1 ((woF m (r.fs.take k)).map (Value.int .i64)) ∧ (∀ b off n c, sv = .slice (some ⟨b, off, none⟩) n c → w3.heap.size ≤ b) ∧ Below w3.heap.size w3 wr) (fun _ s _ => r.fs.length - (intOf s).toNat)
    case atStart => exact ⟨0, Nat.zero_le _, rfl, by simpa [woF] using Row.nil w3 1, (fun b off n c e => by cases e), Below.refl _ _⟩
    case round =>
      rename_i wr
      obtain ⟨k, hk, rfl, hrow, hnew, hB⟩ := hrel
      have HR := Lib.hid hrow
      have HN := Lib.hid hnew
      have HB := Lib.hid hB
      clear hrow hnew hB
      by_cases hlt : k < r.fs.length
      · obtain ⟨b, off, rfl, hc⟩ := HIC3.out k hlt
        have hc := cellB hc HB.out
        obtain ⟨f, hf⟩ : ∃ f, r.fs[k] = f := ⟨_, rfl⟩
        rw [hf] at hc
        have HF := Lib.hid hf
        clear hf
        by_cases hkm : k = m
        · have hRk : Row wr u11 (woF m (r.fs.take (k + 1))).length 1 ((woF m (r.fs.take (k + 1))).map (Value.int .i64)) := by
            subst hkm
            rw [woF_no hlt]
            exact HR.out
          have HRk := Lib.hid hRk
          clear hRk
          subst hkm
          go_wp2
          rename_i wr8
          go_roundw
          case rel => exact ⟨k + 1, by omega, by go_num, HRk.out, HN.out, HB.out⟩
          case measure => simp [intOf]; omega
        · have d1 : ((k : Int) != (m : Int)) = true := by simp; omega
          have d2 : (k != m) = true := by simp; omega
          have HY := Lib.hid (woF_yes (i := m) hlt hkm)
          have hle := woF_len m r.fs k
          go_wp2_with fail
          refine (grownI2_any u11 _ _ f _ HR.out (by omega)).mono ?_
          rintro e w5 ⟨v5, rfl, hrow5, hnew5, hb5⟩
          have HRk : Hid (Row w5 v5 (woF m (r.fs.take (k + 1))).length 1 ((woF m (r.fs.take (k + 1))).map (Value.int .i64))) := Lib.hid (by
            rw [HY.out, List.length_append, List.map_append, List.map_singleton, HF.out]
            exact hrow5)
          have hzr := HB.out.size
          have HN5 := Lib.hid (show ∀ b off n c, v5 = .slice (some ⟨b, off, none⟩) n c → w3.heap.size ≤ b from fun b off n c e => by have := hnew5 b off n c e; omega)
          have HB5 := Lib.hid (bC HB.out hb5)
          clear hrow5 hnew5 hb5 HR HN HB hc
          go_wp2
          rename_i wr8
          go_roundw
          case rel => exact ⟨k + 1, by omega, by go_num, HRk.out, HN5.out, HB5.out⟩
          case measure => simp [intOf]; omega
      · obtain rfl : k = r.fs.length := by omega
        have hwl : (without r m).fs = woF m (r.fs.take r.fs.length) := by unfold without woF; rw [List.take_length]
        obtain ⟨va, vn, vc, rfl⟩ := HR.out.slice
        have b4 := b0.below HB.out
        have c0 := b4.cell 0
        simp at c0
        have HRI := Lib.hid (show RibAt wr (.agg #[.int .i64 r.len, .slice va vn vc]) (without r m) from ⟨_, rfl, by rw [hwl]; exact Row.ints HR.out⟩)
        have HAP := Lib.hid (show ∀ b off n c x, Value.agg #[.int .i64 r.len, .slice va vn vc] = .agg #[x, .slice (some ⟨b, off, none⟩) n c] → (without r m).fs ≠ [] → b ≠ T ∧ b ≠ M from by
          intro b off n c x e _
          simp only [Value.agg.injEq, Array.mk.injEq, List.cons.injEq, and_true] at e
          have h1 := HN.out b off n c e.2
          have h2 := HL3.out.1.lt
          omega)
        have HL4 := Lib.hid (HL3.out.below HB.out)
        have HB4 := Lib.hid (bC HB3.out HB.out)
        have hWok := without_ok HRK.out.1 m
        clear HR HN HB hwl b4
        go_wp2_with fail
        refine (put_any T M _ (without r m) ks _ _ HRI.out HAP.out (HL4.out.1.pre HL4.out.2.lt) HL4.out.2 hWok HRK.out.2).mono ?_
        rintro e w6 ⟨⟨_, rfl⟩, hT6, hM6, hF6⟩
        have HT6 := Lib.hid hT6
        have HB6 := Lib.hid (HB4.out.trans (hF6.belowN (n₀ := w.heap.size) (by omega) (by omega) (by have := HB4.out.size; omega)))
        have HU6 := Lib.hid (show Ux (tabOf (without r m) ks) ((without r m).len.toNat + 1) (without r m).len.toNat = dn (tabOf (without r m) ks) 0 by
          unfold Ux
          rw [if_pos (by omega)]
          exact up_all (tabOf_ok (by have := hWok.l1; omega) HRK.out.2))
        clear hT6 hM6 hF6 c0 HRI HAP HL4 HB4
        go_wp2_with fail
        refine (worth_any T M (without r m) ks _ _ HT6.out.tab hWok HT6.out.up).mono ?_
        rintro e w7 ⟨rfl, hb7⟩
        rw [HU6.out]
        have HB7 := Lib.hid (bC HB6.out hb7)
        have hdn := tabOf_dn (r := r) (by omega) (by omega) HRK.out.2 0
        have hdw := tabOf_dn (r := without r m) (by have := hWok.l1; omega) hWok.l2 HRK.out.2 0
        have ww : IntKind.i64.wrap (dn (tabOf (without r m) ks) 0 - dn (tabOf r ks) 0) = dn (tabOf (without r m) ks) 0 - dn (tabOf r ks) 0 := IntWalk.i64_in _ (by omega)
        clear hb7 hdn hdw
        go_wp2
        go_ret2
        exact ⟨ret_pair HT.out.2.symm HT.out.1.symm, HB7.out⟩

end Go.Proofs.Ytnkeikhkafbokaa
