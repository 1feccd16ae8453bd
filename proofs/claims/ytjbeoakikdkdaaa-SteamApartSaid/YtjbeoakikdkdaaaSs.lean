import Derived.Test.YtjbeoakikdkdaaaSr
import Derived.Scope
namespace Go.Proofs.Ytjbeoakikdkdaaa
open Go.RowKit Go.Vat Go.Sort Go.Shelf
attribute [local go_sem] Oper.semAt_some

/-! ## Right hours with the fewest loads -/
def roomF (y : YardD) (xs : List Int) (k h : Nat) : Int := y.load * ((xs.take k).count (h : Int) : Int)
theorem roomF_step {y : YardD} {xs : List Int} {k u : Nat} (hk : k < xs.length) (hu : xs[k] = (u : Int)) : updF (roomF y xs k) u (roomF y xs k u + y.load) = roomF y xs (k + 1) := by
  funext h
  unfold updF roomF
  rw [List.take_succ_eq_append_getElem hk, List.count_append, List.count_singleton, hu]
  by_cases e : h = u
  · subst e
    rw [if_pos rfl, if_pos (by simp), Int.natCast_add, Int.mul_add]
    simp
  · rw [if_neg e, if_neg (by simp; omega), Nat.add_zero]
theorem LL_count {F : Nat → Int} (hm : ∀ h, F h ≤ F (h + 1)) : ∀ (n h : Nat), ((LL F n).count (h : Int) : Int) = if h < n then F (h + 1) - F h else 0
  | 0, h => by simp [LL]
  | n + 1, h => by
    have := hm n
    rw [LL, List.count_append, Int.natCast_add, LL_count hm n h, List.count_replicate]
    by_cases e : h = n
    · subst e
      rw [if_neg (Nat.lt_irrefl _), if_pos (by simp), if_pos (by omega)]
      omega
    · rw [if_neg (show ¬ ((n : Int) == (h : Int)) = true by rw [beq_iff_eq]; omega)]
      by_cases c : h < n
      · rw [if_pos c, if_pos (by omega)]; simp
      · rw [if_neg c, if_neg (by omega)]; simp
theorem roomF_end (y : YardD) {h : Nat} (hh : h < 101) : roomF y (lateL y) (lateL y).length h = roomU y h := by
  unfold roomF roomU
  rw [List.take_length]
  unfold lateL
  rw [LL_count (U_step y), if_pos hh]
theorem roomF_bd {y : YardD} (hy : y.Ok) {xs : List Int} (hl : xs.length ≤ 10) (k h : Nat) : 0 ≤ roomF y xs k h ∧ roomF y xs k h ≤ 100 := by
  have h1 : (xs.take k).count (h : Int) ≤ 10 := by
    have := List.count_le_length (a := (h : Int)) (l := xs.take k)
    rw [List.length_take] at this
    omega
  unfold roomF
  have := mulN (a := y.load) (b := ((xs.take k).count (h : Int) : Int)) (A := 10) (B := 10) (by have := hy.l1; omega) hy.l2 (by omega) (by omega)
  omega
theorem lateL_short {y : YardD} (hy : y.Ok) : (lateL y).length ≤ 10 := by
  have h1 := lateL_length y
  have h2 := U_len hy 101
  have h3 := hy.count
  omega
theorem lateL_nat {y : YardD} {k : Nat} (h : k < (lateL y).length) : ∃ u : Nat, (lateL y)[k] = (u : Int) ∧ u < 101 := by
  have := lateL_bd (y := y) h
  exact ⟨(lateL y)[k].toNat, by omega, by omega⟩
theorem zeros_counts (w : World) : ArrAt (w.alloc (.cells Try.zeroCells76 76)) w.heap.size 101 76 (fun _ => 0) := by
  refine ⟨_, Blk.new _ _, by rw [← zsc]; simp [csU], fun i hi => ?_⟩
  rw [← zsc, List.getElem?_toArray]
  exact csU_get _ hi
theorem FrLM.setM {w W : World} {L M : Nat} (h : FrLM w L M W) (j : Nat) (v : Value) : FrLM w L M (W.setCell ⟨M, j, none⟩ v) :=
  ⟨by simpa [World.setCell] using h.size, fun k hk h1 h2 => (Below.heap_setCell _ _ _ _ (by simp; omega)).trans (h.same k hk h1 h2), h.os, h.tape, h.output⟩
theorem FrL.at {w W : World} {L n : Nat} {T : TypeId} {f : Nat → Int} {g : Nat} (h : FrL w L W) (ha : ArrAt w g n T f) (hne : g ≠ L) : ArrAt W g n T f := by
  obtain ⟨cs, h1, h2⟩ := ha
  exact ⟨cs, h1.fr' h hne, h2⟩
set_option maxRecDepth 100000 in
set_option maxHeartbeats 2000000 in
theorem grownLB_any (v : Value) (n : Nat) (xs : List Value) (x : Int) (w : World) (hrow : Row w v n 1 xs) (hn : n ≤ 1000000) :
    Calls Try.prog 87 #[v, .int .i64 x] w fun e w' => ∃ v', e = .returned v' ∧ RowG w' w.heap.size v' (n + 1) 1 (xs ++ [.int .i64 x]) ∧ Below w.heap.size w w' := by
  obtain ⟨a, cap, rfl, hcap, hnone, hcells, hlen⟩ := hrow.cells
  obtain ⟨i0, hi, hz0', hz1, hz2⟩ := info_parts info64
  clear hrow
  have hn0 : ¬ (n : Int) < 0 := by omega
  have s1 := Lib.hid (show a = none → n = 0 ∧ n = 0 from fun h => ⟨(hnone h).1, (hnone h).1⟩)
  have hW : Below w.heap.size w (w.alloc (.cells #[.int .i64 x] 2)) := below1 _ _
  have s2 := Lib.hid (fun b (hb : a = some b) j u (hu : xs[j]? = some u) => addB (hcells b hb j u hu) hW)
  have hN : Blk (w.alloc (.cells #[.int .i64 x] 2)) w.heap.size (.cells #[.int .i64 x] 2) := Blk.new _ _
  have s3 := Lib.hid (show ∀ (j : Nat) (u : Value), [Value.int .i64 x][j]? = some u → (w.alloc (.cells #[.int .i64 x] 2)).cell? ((⟨w.heap.size, 0, none⟩ : Addr).add j) = some u from fun j u hu => by
    have e : (⟨w.heap.size, 0, none⟩ : Addr).add j = ⟨w.heap.size, j, none⟩ := by unfold Addr.add; split <;> simp_all
    rw [e, hN.cell]; simpa using hu)
  have s4 : n + 1 ≤ maxLen := by unfold maxLen; omega
  have s4' := Lib.hid s4
  have hHB := Lib.hid hW
  have HL := Lib.hid hlen
  clear hcells hlen hnone s4 hN hW
  go_enter Try.func87, Try.ntmps87
  go_wp2_with (at_builtin; refine wpList_append_grows _ rfl (.tmp 10) (.tmp 12) 25 rfl 2 i0 (.int .i64 0) 1 8 Try.underlying25 hi hz0' hz1 hz2 rfl (by decide) a n n xs (by simp [Act.eval]) s1.out HL.out s2.out ⟨w.heap.size, 0, none⟩ 1 1 [.int .i64 x] (by simp [Act.eval]) rfl s3.out (by simp [Value.oneCell']) (by omega) s4'.out (by omega) ?_; intro v' w' hown hgrow)
  go_ret
  refine ⟨v', rfl, ⟨Row.of_owns hown, ?_⟩, hHB.out.trans ((below_of_grown hgrow).mono (by simp))⟩
  intro g o k c e
  obtain ⟨_, ⟨h1, _⟩ | ⟨g', cap', cur, e1, e2, _⟩⟩ := hown
  · rw [h1] at e; cases e
  · rw [e1] at e; cases e; simp at e2; omega
set_option maxRecDepth 100000 in
set_option maxHeartbeats 16000000 in
theorem lateB_any (n₀ T M : Nat) (y : YardD) (u : Value) (H : Nat → Int) (w : World) (hV : VatAt w n₀ T M y u (U y) H) (hy : y.Ok) (hn : n₀ ≤ w.heap.size) :
    Calls Try.prog 70 #[.pointer (some ⟨T, 0, none⟩)] w fun e w' => ∃ v, e = .returned v ∧ RowG w' w.heap.size v (lateL y).length 1 ((lateL y).map (Value.int .i64)) ∧ (lateL y = [] → v = .slice none 0 0) ∧ Below w.heap.size w w' := by
  have HYD := Lib.hid hy
  have HV := Lib.hid hV
  have hl10 := hy.count
  have hTl := hV.lt.1
  clear hV hy
  go_enter Try.func70, Try.ntmps70
  go_wp2
  go_loopw [3, 4, 5, 22] (fun o _ i _ wr => ∃ k : Nat, k ≤ 101 ∧ i = .int .i64 k ∧ RowG wr w.heap.size o (LL (U y) k).length 1 ((LL (U y) k).map (Value.int .i64)) ∧ (LL (U y) k = [] → o = .slice none 0 0) ∧ Below w.heap.size w wr) (fun _ _ i _ _ => 101 - (intOf i).toNat)
  case atStart => exact ⟨0, by omega, rfl, RowG.nil _ _ _, fun _ => rfl, Below.refl _ _⟩
  case round =>
    obtain ⟨k, hk, rfl, hrow, hnil, hB⟩ := hrel
    obtain ⟨oa, on, oc, rfl⟩ := hrow.1.slice
    have HN := Lib.hid hnil
    clear hnil
    have HR := Lib.hid hrow
    have HB := Lib.hid hB
    by_cases hlt : k < 101
    · have d1 : decide ((k : Int) < 101) = true := by simp; omega
      have HVw := Lib.hid (HV.out.below hn hB)
      have c1 := HVw.out.up (p := k) (by omega)
      have c2 := HVw.out.up (p := k + 1) (by omega)
      have m1 := U_step y k
      have m2 := U_nonneg y k
      have m3 := U_len HYD.out (k + 1)
      have m4 := LL_length (U_step y) k
      rw [U_zero] at m4
      have hlst : (LL (U y) k).length ≤ 10 := by omega
      obtain ⟨ua, hua⟩ : ∃ x, U y k = x := ⟨_, rfl⟩
      obtain ⟨ub, hub⟩ : ∃ x, U y (k + 1) = x := ⟨_, rfl⟩
      rw [hua] at c1 m1 m2
      rw [hub] at c2 m1 m3
      have HUA := Lib.hid hua
      have HUB := Lib.hid hub
      have ww : IntKind.i64.wrap ((k : Int) + 1) = (k : Int) + 1 := IntWalk.i64_in _ (by omega)
      have w2 : IntKind.i64.wrap (ub - ua) = ub - ua := IntWalk.i64_in _ (by omega)
      have i1 : (k : Int) + 1 < 102 := by omega
      have i2 : (0 : Int) ≤ (k : Int) + 1 := by omega
      have i3 : ((k : Int) + 1).toNat = k + 1 := by omega
      have i4 : (k : Int) < 102 := by omega
      clear hrow hB hua hub m4
      go_wp2_with fail
      go_quiet (fail)
      go_wp2_with fail
      rename_i nq
      have hq := below_drewN (Below.refl wr.heap.size wr) nq
      have HR2 := Lib.hid (HR.out.below hq)
      have HB2 := Lib.hid (HB.out.trans (hq.mono HB.out.size))
      clear hq c1 c2 HR HB HVw ww w2 i1 i2 i3 i4
      generalize wr.drewN nq = V0 at *
      obtain ⟨d, hd⟩ : ∃ d : Nat, ub - ua = (d : Int) := ⟨(ub - ua).toNat, by omega⟩
      have HD := Lib.hid hd
      rw [hd]
      have hd10 : d ≤ 10 := by omega
      clear hd
      go_loopw [3, 22] (fun o i w2 => ∃ j : Nat, j ≤ d ∧ i = .int .i64 j ∧ RowG w2 w.heap.size o (LL (U y) k ++ List.replicate j (k : Int)).length 1 ((LL (U y) k ++ List.replicate j (k : Int)).map (Value.int .i64)) ∧ (LL (U y) k ++ List.replicate j (k : Int) = [] → o = .slice none 0 0) ∧ Below w.heap.size w w2) (fun _ i _ => d - (intOf i).toNat)
      case atStart => exact ⟨0, Nat.zero_le _, rfl, by simpa using HR2.out, fun h => HN.out (by simpa using h), HB2.out⟩
      case round =>
        clear HR2 HB2 HN
        obtain ⟨j, hj, rfl, hrow, hnil, hB⟩ := hrel
        obtain ⟨ja, jn, jc, rfl⟩ := hrow.1.slice
        have HN := Lib.hid hnil
        clear hnil
        have HR := Lib.hid hrow
        have HB := Lib.hid hB
        have hll : (LL (U y) k ++ List.replicate j (k : Int)).length ≤ 20 := by rw [List.length_append, List.length_replicate]; omega
        have HPT := Lib.hid (LL_part (U y) k j)
        have HNX := Lib.hid (show LL (U y) (k + 1) = LL (U y) k ++ List.replicate d (k : Int) by rw [LL, HUB.out, HUA.out, HD.out, Int.toNat_natCast])
        clear hrow hB
        by_cases hjt : j < d
        · go_wp2_with fail
          refine (grownLB_any _ _ _ (k : Int) _ HR.out.1 (by omega)).mono ?_
          rintro e w3 ⟨v3, rfl, hr3, hb3⟩
          have HR3 := Lib.hid (hr3.mono HB.out.size)
          have hB3 := bC HB.out hb3
          clear hr3 hb3
          go_wp2
          go_roundw
          case rel => exact ⟨j + 1, by omega, by go_num, by rw [HPT.out, List.length_append, List.length_singleton, ints_snoc64]; exact HR3.out, fun h => by rw [HPT.out] at h; simp at h, hB3⟩
          case measure => simp [intOf] <;> omega
        · obtain rfl : j = d := by omega
          go_wp2
          go_roundw
          case rel => exact ⟨k + 1, by omega, by go_num, by rw [HNX.out]; exact HR.out, by rw [HNX.out]; exact HN.out, HB.out⟩
          case measure => simp [intOf] <;> omega
    · obtain rfl : k = 101 := by omega
      have d1 : decide (((101 : Nat) : Int) < 101) = false := by decide
      go_wp2
      go_ret
      exact ⟨_, rfl, HR.out, HN.out, HB.out⟩
set_option maxRecDepth 100000 in
set_option maxHeartbeats 16000000 in
theorem right_any (n₀ T M : Nat) (y : YardD) (u : Value) (H : Nat → Int) (w : World) (hV : VatAt w n₀ T M y u (U y) H) (hy : y.Ok) (hn : n₀ ≤ w.heap.size) :
    Calls Try.prog 64 #[.pointer (some ⟨T, 0, none⟩)] w fun e w' => ∃ v xs, e = .returned v ∧ IntsAt w' v xs ∧ fit xs y.logs ∧ N y.load xs 101 = U y 101 ∧ FrLM w T M w' := by
  have hB0 := below1 w (.cells Try.zeroCells76 76)
  have HR0 := Lib.hid (zeros_counts w)
  obtain ⟨sa, cap, hue⟩ := hV.logs.slice
  subst hue
  have HV := Lib.hid (hV.below hn hB0)
  have HYD := Lib.hid hy
  have hl10 := hy.count
  have hy1 := hy.l1
  have hy2 := hy.l2
  have hTl := hV.lt
  have HLS := Lib.hid (lateL_short hy)
  have hz0 : (w.alloc (.cells Try.zeroCells76 76)).heap.size = w.heap.size + 1 := by simp
  obtain ⟨zc, hzc⟩ : ∃ zc, Try.zeroCells76 = zc := ⟨_, rfl⟩
  rw [hzc] at hB0 HR0 HV hz0
  clear hV hy
  go_enter Try.func64, Try.ntmps64
  go_wp2_with fail
  refine wp_scope_straight ?_
  go_wp2_with fail
  have HB0 := Lib.hid hB0
  generalize hW0 : w.alloc (.cells zc 76) = W0 at *
  clear hW0 hB0 hzc
  obtain ⟨X, hX⟩ : ∃ X, w.heap.size = X := ⟨_, rfl⟩
  have HX := Lib.hid hX
  rw [hX] at HR0 ⊢
  clear hX
  refine (lateB_any n₀ T M y _ H _ HV.out HYD.out (by have := HB0.out.size; omega)).mono ?_
  rintro e w1 ⟨v1, rfl, hr1, hn1, hb1⟩
  obtain ⟨la, lc, hle⟩ : ∃ la lc, v1 = .slice la (lateL y).length lc := by
    obtain ⟨a, c, e, _⟩ := hr1.1.cells
    exact ⟨a, c, e⟩
  subst hle
  have HI1 := Lib.hid hr1.1.ints
  have HR1 := Lib.hid (HR0.out.below hb1)
  have HB1 := Lib.hid (bC HB0.out hb1)
  have HV1 := Lib.hid (HV.out.below (by have := HB0.out.size; omega) hb1)
  have HNE := Lib.hid (show ∀ b off n c, Value.slice la (lateL y).length lc = .slice (some ⟨b, off, none⟩) n c → b ≠ X from fun b off n c e => by have := hr1.2 b off n c e; have := HX.out; omega)
  clear hr1 hn1 hb1 HR0 HV HB0
  obtain ⟨ls, hls⟩ : ∃ ls, lateL y = ls := ⟨_, rfl⟩
  have HLL := Lib.hid hls
  rw [hls] at HI1 HLS HNE ⊢
  clear hls
  have HLN := Lib.hid (show ∀ k (h : k < ls.length), ∃ u : Nat, ls[k] = (u : Int) ∧ u < 101 from by
    rw [← HLL.out]
    exact fun k h => lateL_nat h)
  have HRE := Lib.hid (show ∀ h, h < 101 → roomF y ls ls.length h = roomU y h from by
    rw [← HLL.out]
    exact fun h hh => roomF_end y hh)
  go_wp2_with fail
  go_loopw [5, 13] (fun _ i wr => ∃ k : Nat, k ≤ ls.length ∧ i = .int .i64 (k : Int) ∧ ArrAt wr X 101 76 (roomF y ls k) ∧ FrL w1 X wr) (fun _ i _ => ls.length - (intOf i).toNat)
  case atStart => exact ⟨0, Nat.zero_le _, rfl, HR1.out.same fun i hi => by simp [roomF], FrL.of_below (Below.refl _ _)⟩
  case round =>
    clear HR1
    obtain ⟨k, hk, rfl, hA, hF⟩ := hrel
    have HA := Lib.hid hA
    have HF := Lib.hid hF
    have hXl := hA.lt
    have hls10 := HLS.out
    by_cases hlt : k < ls.length
    · obtain ⟨lb, loff, lc', e, hc⟩ := HI1.out.get k hlt
      cases e
      have hbX := HNE.out lb loff _ _ rfl
      replace hc := cellF hc hF hbX
      obtain ⟨uv, huv, hu101⟩ := HLN.out k hlt
      have HST := Lib.hid (roomF_step (y := y) hlt huv)
      rw [huv] at hc
      have e0 := hA.cell (i := uv) hu101
      have hrb := roomF_bd HYD.out HLS.out k uv
      obtain ⟨rv, hrv⟩ : ∃ rv, roomF y ls k uv = rv := ⟨_, rfl⟩
      rw [hrv] at e0 hrb HST
      obtain ⟨hr0, hr1⟩ := hrb
      have HVw := Lib.hid (HV1.out.move (w' := wr) fun q hq _ => hF.same q (by have := HB1.out.size; omega) (by have := HX.out; omega))
      have e1 := HVw.out.load
      have ww : IntKind.i64.wrap (rv + y.load) = rv + y.load := IntWalk.i64_in _ (by omega)
      have i1 : (uv : Int) < 101 := by omega
      have i2 : (k : Int) < (ls.length : Int) := by omega
      clear hA hF huv hrv
      go_wp2_with fail
      have g0 := fun d os => cell_regrown e0 d os
      have g1 := fun d os => cell_regrown e1 d os
      clear e0 e1 hc
      refine wp_region_tail 9 (by kernel_rfl) (by kernel_rfl) ?_
      repeat (quiet_step (fail))
      refine wpQuiet_nil ?_
      intro _ hw'
      obtain ⟨⟨dq, osq⟩, hw''⟩ := hw'
      subst hw''
      simp only [List.drop_succ_cons, List.drop_zero]
      have hb8 := below_regrown wr dq osq
      have HA8 := Lib.hid (HA.out.below hb8)
      have HF8 := Lib.hid (HF.out.below hb8)
      clear g0 g1 hb8 HA HF HVw
      generalize grow (redrawn wr dq) osq = w9 at *
      have e0 := HA8.out.cell (i := uv) hu101
      have e2 := HA8.out.frozen uv
      have e3 := HA8.out.lt
      go_wp2
      go_roundw
      case rel => exact ⟨k + 1, by omega, by go_num, by rw [← HST.out]; exact HA8.out.set uv _, HF8.out.set uv _⟩
      case measure => simp [intOf] <;> omega
    · obtain rfl : k = ls.length := by omega
      generalize wr = w2 at *
      have HV2 := Lib.hid (HV1.out.move (w' := w2) fun q hq _ => hF.same q (by have := HB1.out.size; omega) (by have := HX.out; omega))
      have HRM := Lib.hid (hA.same (f' := roomU y) fun i hi => (HRE.out i hi).symm)
      have HB2 := Lib.hid (HB1.out.trans (hF.under (B := w.heap.size) HB1.out.size (by have := HX.out; omega)))
      clear hA hF HA HF HV1 HB1
      have hn2 : n₀ ≤ w2.heap.size := by have := HB2.out.size; omega
      have hclr := clearc w2 T 105 0 (fun j hj => by rw [HV2.out.hv hj]; rfl) (fun j _ => HV2.out.frozen _)
      have h0 := HV2.out.clearHv (FrLM.refl w2 T M) 101 0 (by omega)
      rw [Nat.add_zero] at h0
      obtain ⟨zl, hzl⟩ : ∃ zl, List.replicate 101 (Value.int .i64 0) = zl := ⟨_, rfl⟩
      rw [hzl] at hclr h0
      have HV3 := Lib.hid (h0.1.same (U' := U y) (H' := fun _ => 0) (fun _ _ => rfl) (fun p hp => by rw [if_pos (by omega)]))
      have HF3 := Lib.hid h0.2
      have hTw2 := HV2.out.lt.1
      clear hzl h0
      have hmk : ∀ w, _ := fun w => make64 y.logs.length w (by omega)
      have c1 := HV3.out.sl
      go_wp2_with fail
      clear hclr hmk c1
      refine wp_label ?_
      have HRM3 := Lib.hid (show ArrAt (w2.setCells T 105 zl) X 101 76 (roomU y) from by
        obtain ⟨cs, r1, r2⟩ := HRM.out
        exact ⟨cs, (HF3.out.same X hXl (by have := HX.out; omega) (by have := HX.out; omega)).trans r1, r2⟩)
      have hsz3 := HF3.out.size
      generalize w2.setCells T 105 zl = w3 at *
      have HG := Lib.hid (ArrAt.zeros w3 y.logs.length 2)
      have hb4 := below1 w3 (.cells (madeCells #[.int .i64 0] y.logs.length) 2)
      have HV4 := Lib.hid (HV3.out.below (by omega) hb4)
      have HRM4 := Lib.hid (HRM3.out.below hb4)
      have HF4 := Lib.hid (HF3.out.below hb4)
      obtain ⟨G, hG⟩ : ∃ G, w3.heap.size = G := ⟨_, rfl⟩
      rw [hG] at HG hsz3 ⊢
      have HGE := Lib.hid hG
      clear hb4 hG HV3 HRM3 HF3 HV2 HRM
      generalize w3.alloc (.cells (madeCells #[.int .i64 0] y.logs.length) 2) = w4 at *
      have hs4 := HF4.out.size
      have hG4 := HG.out.lt
      go_wp2_with fail
      refine (byEnd_any n₀ T M y _ (U y) _ _ HV4.out HYD.out (by omega)).mono ?_
      rintro e w5 ⟨v5, ord, rfl, hi5, hbo, hpm, hso, hb5⟩
      have hol := hpm.length_eq
      rw [List.length_range] at hol
      have HPM := Lib.hid hpm
      have HSO := Lib.hid hso
      have HG5 := Lib.hid (HG.out.below hb5)
      have HV5 := Lib.hid (HV4.out.below (by omega) hb5)
      have HRM5 := Lib.hid (HRM4.out.below hb5)
      have HF5 := Lib.hid (HF4.out.below hb5)
      have hs5 := hb5.size
      obtain ⟨oa, oc, rfl⟩ := hi5.slice
      simp only [List.length_map] at hi5 hbo ⊢
      have HI5 := Lib.hid (fun k (hk : k < ord.length) => IntsAt.getN hi5 hk)
      have HBO := Lib.hid hbo
      have HOL := Lib.hid hol
      have HPS := Lib.hid (placed_start HYD.out hpm (fun _ => 0))
      have hon : ord.length ≤ 10 := by omega
      clear hi5 hbo hpm hso hol HG HV4 HRM4 HF4 hb5
      go_wp2_with fail
      go_loopw [8, 9, 42] (fun _ _ i wr => ∃ (k : Nat) (rt hv : Nat → Int), k ≤ ord.length ∧ i = .int .i64 (k : Int) ∧ VatAt wr n₀ T M y (.slice sa y.logs.length cap) (U y) hv ∧ ArrAt wr G y.logs.length 2 rt ∧ Placed y ord k rt hv ∧ FrLM w5 T G wr) (fun _ _ i _ => ord.length - (intOf i).toNat)
      case atStart => exact ⟨0, _, _, Nat.zero_le _, rfl, HV5.out, HG5.out, HPS.out, FrLM.refl _ _ _⟩
      case round =>
        clear HV5 HG5 HPS
        obtain ⟨k, rt, hv, hk, rfl, hV, hA, hP, hF⟩ := hrel
        have HV := Lib.hid hV
        have HA := Lib.hid hA
        have HP := Lib.hid hP
        have HF := Lib.hid hF
        clear hV hA hP hF
        by_cases hlt : k < ord.length
        · obtain ⟨ob, ooff, hoa, hob, hoc⟩ := HI5.out k hlt
          subst hoa
          have hbb := HBO.out ob ooff _ _ rfl
          have hbG : ob ≠ G ∧ ob ≠ T := by omega
          replace hoc := (World.cell?_of_block (HF.out.same ob hob hbG.2 hbG.1)).trans hoc
          have hil : ord[k] < y.logs.length := by
            have := (HPM.out.mem_iff (a := ord[k])).1 (List.getElem_mem hlt)
            rwa [List.mem_range] at this
          have HPF := Lib.hid (placed_first HYD.out HP.out hlt hil)
          have HPP := Lib.hid (fun (u : Nat) a b c d => placed_step HYD.out HPM.out HSO.out HP.out hlt hil (u := u) a b c d)
          have hlg := HYD.out.log _ (List.getElem_mem hil)
          obtain ⟨pb, off, hsa, ⟨hp0, hp1, hp2⟩, hc, hd⟩ := HV.out.logs.get ord[k] hil
          subst hsa
          obtain ⟨j, hj⟩ : ∃ j, ord[k] = j := ⟨_, rfl⟩
          simp only [hj] at hoc hil HPF HPP hlg hc hd
          obtain ⟨l1, hl1⟩ : ∃ l1 : Nat, y.logs[j].1 = (l1 : Int) := ⟨y.logs[j].1.toNat, by omega⟩
          obtain ⟨l2, hl2⟩ : ∃ x, y.logs[j].2 = x := ⟨_, rfl⟩
          have HJL := Lib.hid hl2
          simp only [hl1, hl2] at HPF HPP hlg hc hd
          have c1 := HV.out.sl
          have i1 : (k : Int) < (ord.length : Int) := by omega
          have i2 : (j : Int) < (y.logs.length : Int) := by omega
          clear hj hl1 hl2
          go_wp2_with fail
          clear hoc c1 hc hd
          obtain ⟨us, hu1, hu2, hu3, hu4⟩ := HPF.out
          have HU4 := Lib.hid hu4
          clear hu4
          go_loopw [9] (fun s w6 => ∃ a : Nat, l1 ≤ a ∧ a ≤ us ∧ s = .int .i64 (a : Int) ∧ VatAt w6 n₀ T M y (.slice (some ⟨pb, off, none⟩) y.logs.length cap) (U y) hv ∧ ArrAt w6 G y.logs.length 2 rt ∧ FrLM w5 T G w6) (fun s _ => us - (intOf s).toNat)
          case atStart => exact ⟨l1, Nat.le_refl _, by omega, rfl, HV.out, HA.out, HF.out⟩
          case round =>
            clear HV HA HF
            obtain ⟨a, ha1, ha2, rfl, hV, hA, hF⟩ := hrel
            have HV := Lib.hid hV
            have HA := Lib.hid hA
            have HF := Lib.hid hF
            have a100 : a ≤ 100 := by omega
            have hX6 := (show ArrAt wr X 101 76 (roomU y) from by
              obtain ⟨cs, r1, r2⟩ := HRM5.out
              exact ⟨cs, (hF.same X (by omega) (by have := HX.out; omega) (by have := HGE.out; omega)).trans r1, r2⟩)
            have c1 := hV.sl
            obtain ⟨pb', off', e3, _, _, hd⟩ := hV.logs.get j hil
            obtain ⟨rfl, rfl⟩ : pb = pb' ∧ off = off' := by cases e3; exact ⟨rfl, rfl⟩
            have HL2 := Lib.hid (show y.logs[j].2 = l2 from HJL.out)
            rw [HL2.out] at hd
            have d1 : decide ((a : Int) ≤ l2) = true := by simp; omega
            have i2 : (j : Int) < (y.logs.length : Int) := by omega
            have i3 : (a : Int) < 101 := by omega
            have h1 := hV.hv (p := a) (by omega)
            have r1 := hX6.cell (i := a) (by omega)
            have hrb := roomF_bd HYD.out HLS.out ls.length a
            rw [HRE.out a (by omega)] at hrb
            have hcnt := HP.out.cnt a
            have hvb : 0 ≤ hv a ∧ hv a ≤ 10 := by
              have h2 := List.count_le_length (a := (a : Int)) (l := (ord.take k).map rt)
              rw [List.length_map, List.length_take] at h2
              omega
            obtain ⟨va, hva⟩ : ∃ x, hv a = x := ⟨_, rfl⟩
            obtain ⟨ra, hra⟩ : ∃ x, roomU y a = x := ⟨_, rfl⟩
            rw [hva] at h1 hvb
            rw [hra] at r1
            have HVA := Lib.hid (And.intro hva hra)
            have g0 := fun d os => cell_regrown h1 d os
            have g1 := fun d os => cell_regrown r1 d os
            have hTw := hV.lt.1
            clear hV hA hF e3 hcnt hrb hva hra
            by_cases q : va < ra
            · have d2 : decide (va < ra) = true := by simpa using q
              have HRT := Lib.hid (fun a1 a2 (a3 : ∀ j : Nat, (l1 : Int) ≤ j → j < a → roomU y j ≤ hv j) => HPP.out a a1 a2 (by rw [HVA.out.1, HVA.out.2]; exact q) a3)
              have HRT2 := Lib.hid (HRT.out (by omega) (by omega) (fun j h1 h2 => HU4.out j h1 (by omega)))
              have ww : IntKind.i64.wrap (va + 1) = va + 1 := IntWalk.i64_in _ (by omega)
              clear q HRT
              go_wp2_with fail
              go_quiet (fail)
              rename_i nq
              have hq := below_drewN (Below.refl wr.heap.size wr) nq
              have HV7 := Lib.hid (HV.out.below (by have := HF.out.size; omega) hq)
              have HA7 := Lib.hid (HA.out.below hq)
              have HF7 := Lib.hid (HF.out.below hq)
              clear g0 g1 h1 r1 c1 hd hq HV HA HF hX6
              generalize wr.drewN nq = w7 at *
              go_wp2_with fail
              have h1 := HV7.out.hv (p := a) (by omega)
              rw [HVA.out.1] at h1
              have g0 := fun d os => cell_regrown h1 d os
              refine wp_region_tail 9 (by kernel_rfl) (by kernel_rfl) ?_
              repeat (quiet_step (fail))
              refine wpQuiet_nil ?_
              intro _ hw'
              obtain ⟨⟨dq, osq⟩, hw''⟩ := hw'
              subst hw''
              simp only [List.drop_succ_cons, List.drop_zero]
              have hb8 := below_regrown w7 dq osq
              have HV8 := Lib.hid (HV7.out.below (by have := HF7.out.size; omega) hb8)
              have HA8 := Lib.hid (HA7.out.below hb8)
              have HF8 := Lib.hid (HF7.out.below hb8)
              clear g0 h1 hb8 HV7 HA7 HF7
              generalize grow (redrawn w7 dq) osq = w8 at *
              have h1 := HV8.out.hv (p := a) (by omega)
              have f1 := HV8.out.frozen (105 + a)
              have t1 := HV8.out.lt.1
              have hGT : G ≠ T := by omega
              have hTG : T ≠ G := by omega
              have s1 := (HA8.out.other (b := T) (j := 105 + a) hGT (.int .i64 (va + 1))).cell hil
              have s2 := (HA8.out.other (b := T) (j := 105 + a) hGT (.int .i64 (va + 1))).frozen j
              have s3 := (HA8.out.other (b := T) (j := 105 + a) hGT (.int .i64 (va + 1))).lt
              go_wp2
              go_roundw
              case rel =>
                refine ⟨k + 1, _, _, by omega, by go_num, ?_, ?_, HRT2.out, ?_⟩
                · rw [HVA.out.1]
                  exact (HV8.out.setHv (by omega) (va + 1)).new (by omega) _
                · exact (HA8.out.other hGT _).set j _
                · exact (HF8.out.setT _ _).setM _ _
              case measure => simp [intOf] <;> omega
            · have d2 : decide (va < ra) = false := by simpa using q
              have hne : a ≠ us := by
                intro e
                subst e
                have h5 := HVA.out
                rw [h5.1, h5.2] at hu3
                exact q hu3
              clear q
              go_wp2_with fail
              go_quiet (fail)
              go_wp2_with fail
              rename_i nq
              have hq := below_drewN (Below.refl wr.heap.size wr) nq
              have HV7 := Lib.hid (HV.out.below (by have := HF.out.size; omega) hq)
              have HA7 := Lib.hid (HA.out.below hq)
              have HF7 := Lib.hid (HF.out.below hq)
              clear g0 g1 h1 r1 c1 hd hq HV HA HF hX6
              go_roundw
              case rel => exact ⟨a + 1, by omega, by omega, by go_num, HV7.out, HA7.out, HF7.out⟩
              case measure => simp [intOf] <;> omega
        · obtain rfl : k = ord.length := by omega
          have HE := Lib.hid (placed_end HYD.out HPM.out HP.out)
          have HI := Lib.hid (HA.out.ints y.logs.length)
          have HFF := Lib.hid (show FrLM w T M wr from ⟨by have := HB2.out.size; have := HF5.out.size; have := HF.out.size; omega, fun q hq h1 h2 => (HF.out.same q (by have := HB2.out.size; have := HF5.out.size; omega) h1 (by have := HB2.out.size; omega)).trans ((HF5.out.same q (by have := HB2.out.size; omega) h1 h2).trans (HB2.out.block q hq)), HF.out.os.trans (HF5.out.os.trans HB2.out.os), HF.out.tape.trans (HF5.out.tape.trans HB2.out.tape), HF.out.output.trans (HF5.out.output.trans HB2.out.output)⟩)
          go_wp2
          simp only [Exit.noGoto]
          go_ret
          exact ⟨_, _, rfl, HI.out, HE.out.1, HE.out.2, HFF.out⟩
set_option maxRecDepth 100000 in
set_option maxHeartbeats 1000000 in
theorem Hours_err (v : Value) (y : YardD) (w : World) (hv : YardAt w v y) (hl : y.logs.length ≤ 1000000) (he : yardErr y ≠ 0) :
    Calls Try.prog 29 #[v] w fun e w' => e = .returned (.tuple #[.slice none 0 0, .int .i64 (yardErr y)]) ∧ Below w.heap.size w w' := by
  obtain ⟨sv, rfl, hp⟩ := hv
  obtain ⟨sa, cap, rfl⟩ := hp.slice
  have HP := Lib.hid hp
  have HER := Lib.hid he
  obtain ⟨E, hE⟩ : ∃ E, yardErr y = E := ⟨_, rfl⟩
  have d1 : (E != 0) = true := by rw [← hE]; simpa using he
  have HE := Lib.hid hE
  clear hp he hE
  rw [HE.out]
  go_enter Try.func29, Try.ntmps29
  go_wp2_with fail
  refine (lay_err _ y _ ⟨_, rfl, HP.out.below (below1 _ _)⟩ hl HER.out).mono ?_
  rintro e w1 ⟨rfl, hb⟩
  rw [HE.out]
  go_wp2
  go_ret2
  exact ⟨rfl, after1 hb⟩
set_option maxRecDepth 100000 in
set_option maxHeartbeats 4000000 in
theorem Hours_ok (v : Value) (y : YardD) (w : World) (hv : YardAt w v y) (hy : y.Ok) :
    Calls Try.prog 29 #[v] w fun e w' => ∃ v xs, e = .returned (.tuple #[v, .int .i64 0]) ∧ IntsAt w' v xs ∧ fit xs y.logs ∧ N y.load xs 101 = U y 101 ∧ Below w.heap.size w w' := by
  obtain ⟨sv, rfl, hp⟩ := hv
  obtain ⟨sa, cap, rfl⟩ := hp.slice
  have hB0 := below1 w (.cells #[.int .i64 y.load, .slice sa y.logs.length cap] 24)
  have HV := Lib.hid (show YardAt (w.alloc (.cells #[.int .i64 y.load, .slice sa y.logs.length cap] 24)) (.agg #[.int .i64 y.load, .slice sa y.logs.length cap]) y from ⟨_, rfl, hp.below hB0⟩)
  have HYD := Lib.hid hy
  have hl10 := hy.count
  have hs0 := hB0.size
  clear hp hy
  go_enter Try.func29, Try.ntmps29
  go_wp2_with fail
  generalize w.alloc (.cells #[.int .i64 y.load, .slice sa y.logs.length cap] 24) = W0 at *
  refine (lay_ok _ y _ HV.out HYD.out).mono ?_
  rintro e w1 ⟨T, M, n₀, sv, H, rfl, hL, hT, hM, hb1⟩
  have HL := Lib.hid hL
  have HB1 := Lib.hid (bC hB0 hb1)
  clear hL hB0 HV
  go_wp2_with fail
  refine (right_any n₀ T M y sv H _ HL.out.vat HYD.out HL.out.size).mono ?_
  rintro e w2 ⟨v, xs, rfl, hI, hf, hN, hF⟩
  have HE := Lib.hid (And.intro hI (And.intro hf hN))
  have HBF := Lib.hid (HB1.out.trans (hF.belowN (n₀ := w.heap.size) (by omega) (by omega) HB1.out.size))
  clear hI hf hN hF
  go_wp2
  go_ret2
  exact ⟨_, xs, rfl, HE.out.1, HE.out.2.1, HE.out.2.2, HBF.out⟩
end Go.Proofs.Ytjbeoakikdkdaaa
