import Derived.Test.YtnkeikhkafbokaaQh
namespace Go.Proofs.Ytnkeikhkafbokaa
open Go.RowKit Go.Dag Go.Sort Go.Shelf
attribute [local go_sem] Oper.semAt_some

/-! ## The reference: parts of a ribbon -/
theorem infoI : (Try.prog.info? 3).map (fun i => (i.zero, i.size, i.bytes)) = some (some (.int .i64 0), 1, 8) := by kernel_rfl
theorem undI : Try.prog.underlying 22 = some (.slice 3) := by kernel_rfl
theorem one1 (x : Int) : ∀ q ∈ [Value.int .i64 x], q.oneCell' = true := by
  intro u hu
  simp only [List.mem_cons, List.not_mem_nil, or_false] at hu
  subst hu; rfl
theorem ints_snoc (l : List Int) (x : Int) : (l ++ [x]).map (Value.int .i64) = l.map (Value.int .i64) ++ [.int .i64 x] := by simp
theorem below_owns2 {W W' : World} {w : World} {base b0 size n : Nat} {e : TypeId} {v : Value} {xs : List Value} (h : W.ownsRow base e size v n xs) (hg : W.grownBy W' v.ownBlock) (hb : Below b0 w W) (h0 : b0 ≤ base) (hs : b0 ≤ W.heap.size) : Below b0 w W' := by
  refine hb.grown hg hs fun k e => ?_
  obtain ⟨h1, ⟨rfl, _⟩ | ⟨g, cap, cur, rfl, e2, _⟩⟩ := h
  · cases e
  · have := Option.some.inj e
    simp only at this
    omega
/-- A part that is being made: the block of r, that of the result, that of the part so far. -/
def MSt (w : World) (B S : Nat) (r : RibD) (sv : Value) (d : Int) (fl : List Int) (wr : World) : Prop :=
  Blk wr B (.cells #[.int .i64 r.len, sv] 24) ∧ Blk wr (B + 1) (.cells #[.int .i64 0, .slice none 0 0] 24) ∧
  (∃ v, Blk wr (B + 1 + 1) (.cells #[.int .i64 d, v] 24) ∧ wr.ownsRow S 3 1 v fl.length (fl.map (Value.int .i64))) ∧ Below w.heap.size w wr ∧ S ≤ wr.heap.size
def pcF (a b : Int) (l : List Int) : List Int := (l.filter fun f => decide (a ≤ f) && decide (f < b)).map fun f => f - a
theorem pcF_yes {a b : Int} {l : List Int} {k : Nat} (hk : k < l.length) (h1 : a ≤ l[k]) (h2 : l[k] < b) : pcF a b (l.take (k + 1)) = pcF a b (l.take k) ++ [l[k] - a] := by
  unfold pcF
  rw [List.take_succ_eq_append_getElem hk, List.filter_append, List.map_append, List.filter_cons, if_pos (by simp [h1, h2])]
  rfl
theorem pcF_no {a b : Int} {l : List Int} {k : Nat} (hk : k < l.length) (h : ¬ (a ≤ l[k] ∧ l[k] < b)) : pcF a b (l.take (k + 1)) = pcF a b (l.take k) := by
  unfold pcF
  rw [List.take_succ_eq_append_getElem hk, List.filter_append, List.filter_cons, if_neg (by simp only [Bool.and_eq_true, decide_eq_true_eq]; exact h)]
  simp
theorem pcF_len (a b : Int) (l : List Int) (k : Nat) : (pcF a b (l.take k)).length ≤ k := by
  unfold pcF
  rw [List.length_map]
  exact Nat.le_trans (List.length_filter_le _ _) (List.length_take_le _ _)
def woF (i : Nat) (l : List Int) : List Int := l.eraseIdx i
theorem woF_yes {i : Nat} {l : List Int} {k : Nat} (hk : k < l.length) (h : k ≠ i) : woF i (l.take (k + 1)) = woF i (l.take k) ++ [l[k]] := by
  unfold woF
  rw [List.take_succ_eq_append_getElem hk]
  by_cases hi : i < k
  · rw [List.eraseIdx_append_of_lt_length (by rw [List.length_take]; omega)]
  · rw [List.eraseIdx_of_length_le (by rw [List.length_append, List.length_take, List.length_singleton]; omega), List.eraseIdx_of_length_le (by rw [List.length_take]; omega)]
theorem woF_no {l : List Int} {k : Nat} (hk : k < l.length) : woF k (l.take (k + 1)) = woF k (l.take k) := by
  unfold woF
  rw [List.take_succ_eq_append_getElem hk, List.eraseIdx_append_of_length_le (by rw [List.length_take]; omega), List.eraseIdx_of_length_le (l := l.take k) (by rw [List.length_take]; omega)]
  rw [show k - (l.take k).length = 0 by rw [List.length_take]; omega]
  simp
theorem woF_len (i : Nat) (l : List Int) (k : Nat) : (woF i (l.take k)).length ≤ k := by
  unfold woF
  rw [List.length_eraseIdx]
  have := List.length_take_le k l
  split <;> omega

set_option maxRecDepth 100000 in
set_option maxHeartbeats 4000000 in
theorem Piece_any (v : Value) (r : RibD) (a b : Nat) (w : World) (hv : RibAt w v r) (hl : r.fs.length ≤ 100) (hab : a ≤ b) (hb : b ≤ 100) (hfs : ∀ f ∈ r.fs, 0 ≤ f ∧ f ≤ 100) :
    Calls Try.prog 43 #[v, .int .i64 a, .int .i64 b] w fun e w' => ∃ v', e = .returned v' ∧ RibAt w' v' (piece r a b) ∧ Below w.heap.size w w' := by
  obtain ⟨sv, rfl, hi⟩ := hv
  obtain ⟨sa, cap, rfl⟩ := hi.slice
  have HI := Lib.hid hi
  have HC := Lib.hid (fun k (hk : k < r.fs.length) => hi.at.2 k hk)
  obtain ⟨i0, hif, hz0, hz1, hz2⟩ := info_parts infoI
  have HIF := Lib.hid hif
  have HZ0 := Lib.hid hz0
  have HZ1 := Lib.hid hz1
  have HZ2 := Lib.hid hz2
  clear hif hz0 hz1 hz2 hi
  have ww0 : IntKind.i64.wrap ((b : Int) - (a : Int)) = (b : Int) - (a : Int) := IntWalk.i64_in _ (by omega)
  go_enter Try.func43, Try.ntmps43
  go_wp2_with fail
  have HM0 : Hid (MSt w w.heap.size (w.heap.size + 3) r (.slice sa r.fs.length cap) ((b : Int) - (a : Int)) [] (((w.alloc (.cells #[.int .i64 r.len, .slice sa r.fs.length cap] 24)).alloc (.cells #[.int .i64 0, .slice none 0 0] 24)).alloc (.cells #[.int .i64 ((b : Int) - (a : Int)), .slice none 0 0] 24))) := Lib.hid (by
    refine ⟨((Blk.new _ _).alloc _).alloc _, ?_, ⟨_, ?_, ⟨rfl, .inl ⟨rfl, rfl⟩⟩⟩, below3 _ _ _ _, by simp⟩
    · have := (Blk.new (w.alloc (.cells #[.int .i64 r.len, .slice sa r.fs.length cap] 24)) (.cells #[.int .i64 0, .slice none 0 0] 24)).alloc (.cells #[.int .i64 ((b : Int) - (a : Int)), .slice none 0 0] 24)
      rwa [World.size_alloc] at this
    · have := Blk.new ((w.alloc (.cells #[.int .i64 r.len, .slice sa r.fs.length cap] 24)).alloc (.cells #[.int .i64 0, .slice none 0 0] 24)) (.cells #[.int .i64 ((b : Int) - (a : Int)), .slice none 0 0] 24)
      rwa [World.size_alloc, World.size_alloc] at this)
  generalize ((w.alloc (.cells #[.int .i64 r.len, .slice sa r.fs.length cap] 24)).alloc (.cells #[.int .i64 0, .slice none 0 0] 24)).alloc (.cells #[.int .i64 ((b : Int) - (a : Int)), .slice none 0 0] 24) = W0 at *
  go_wp2_with fail
  go_loopw [8] (fun s wr => ∃ k : Nat, k ≤ r.fs.length ∧ s = .int .i64 k ∧ MSt w w.heap.size (w.heap.size + 3) r (.slice sa r.fs.length cap) ((b : Int) - (a : Int)) (pcF (a : Int) (b : Int) (r.fs.take (k))) wr) (fun s _ => r.fs.length - (intOf s).toNat)
  case atStart => exact ⟨0, Nat.zero_le _, rfl, HM0.out⟩
  case round =>
    clear HM0
    obtain ⟨k, hk, rfl, hst⟩ := hrel
    have HST := Lib.hid hst
    obtain ⟨hB, hR, ⟨ov, hO, hown⟩, hbw, hsz⟩ := hst
    obtain ⟨oa, on, oc, rfl⟩ := (Row.of_owns hown).slice
    have HOWN := Lib.hid hown
    have HO := Lib.hid hO
    have HB := Lib.hid hB
    have HR := Lib.hid hR
    have HBW := Lib.hid hbw
    have c1 := hB.cell 1
    simp at c1
    clear hown hO hB hR hbw
    by_cases hlt : k < r.fs.length
    · obtain ⟨cb, coff, hsa, x1⟩ := HC.out k hlt
      subst hsa
      have x1 := cellB x1 HBW.out
      have hfk := hfs _ (List.getElem_mem hlt)
      have FLEN := pcF_len (a : Int) (b : Int) r.fs k
      by_cases p1 : (a : Int) ≤ r.fs[k]
      case neg =>
        have d1 : decide ((a : Int) ≤ r.fs[k]) = false := by simpa using p1
        have HFL := Lib.hid (pcF_no (a := (a : Int)) (b := (b : Int)) hlt (fun h => p1 h.1))
        clear p1
        go_wp2
        rename_i wr8
        go_roundw
        case rel =>
          refine ⟨k + 1, by omega, by go_num, ?_⟩
          rw [HFL.out]
          exact HST.out
        case measure => simp [intOf]; omega
      have d1 : decide ((a : Int) ≤ r.fs[k]) = true := by simpa using p1
      by_cases p2 : r.fs[k] < (b : Int)
      case neg =>
        have d2 : decide (r.fs[k] < (b : Int)) = false := by simpa using p2
        have HFL := Lib.hid (pcF_no (a := (a : Int)) (b := (b : Int)) hlt (fun h => p2 h.2))
        clear p1 p2
        go_wp2
        rename_i wr8
        go_roundw
        case rel =>
          refine ⟨k + 1, by omega, by go_num, ?_⟩
          rw [HFL.out]
          exact HST.out
        case measure => simp [intOf]; omega
      have d2 : decide (r.fs[k] < (b : Int)) = true := by simpa using p2
      have HFL := Lib.hid (pcF_yes hlt p1 p2)
      have ww1 : IntKind.i64.wrap (r.fs[k] - (a : Int)) = r.fs[k] - (a : Int) := IntWalk.i64_in _ (by omega)
      go_wp2_with fail
      have BO : Blk wr.drew (w.heap.size + 1 + 1) (.cells #[.int .i64 ((b : Int) - (a : Int)), .slice oa on oc] 24) := HO.out
      have bB : Blk wr.drew w.heap.size (.cells #[.int .i64 r.len, .slice (some ⟨cb, coff, none⟩) r.fs.length cap] 24) := HB.out
      have bR : Blk wr.drew (w.heap.size + 1) (.cells #[.int .i64 0, .slice none 0 0] 24) := HR.out
      have bel : Below w.heap.size w wr.drew := HBW.out.drew
      have own : wr.drew.ownsRow (w.heap.size + 3) 3 1 (.slice oa on oc) (pcF (a : Int) (b : Int) (r.fs.take (k))).length ((pcF (a : Int) (b : Int) (r.fs.take (k))).map (Value.int .i64)) := HOWN.out
      have y1 : wr.drew.cell? ⟨cb, coff + k, none⟩ = some (.int .i64 r.fs[k]) := x1
      have hsz' : w.heap.size + 3 ≤ wr.drew.heap.size := hsz
      have o1 : wr.drew.cell? ⟨w.heap.size + 1 + 1, 1, none⟩ = some (.slice oa on oc) := by have := BO.cell 1; simpa using this
      have b1 : wr.drew.cell? ⟨w.heap.size, 1, none⟩ = some (.slice (some ⟨cb, coff, none⟩) r.fs.length cap) := by have := bB.cell 1; simpa using this
      clear c1 x1 HST
      refine wp_region_T 10 (fun W' => W'.cell? ⟨w.heap.size + 1 + 1, 1, none⟩ = some (.slice oa on oc) ∧ W'.cell? ⟨w.heap.size, 1, none⟩ = some (.slice (some ⟨cb, coff, none⟩) r.fs.length cap) ∧ W'.cell? ⟨cb, coff + k, none⟩ = some (.int .i64 r.fs[k])) (by kernel_rfl) (by kernel_rfl) ⟨o1, b1, y1⟩ ?_
      intro inv hS
      generalize wr.drew = V0 at *
      clear HOWN HO HB HR HBW hsz
      refine wpAnyT_take inv (by kernel_rfl) (by omega) (i := 0) (v := .pointer (some ⟨w.heap.size + 1 + 1, 1, none⟩)) rfl (by kernel_rfl) (by kernel_rfl) (fun _ _ _ h => h) (Or.inl ⟨by kernel_rfl, ?_⟩) (by assumption) ?_
      · rintro W' ⟨q0, q1, q2⟩
        go_simp
      intro inv2
      clear inv
      have inv := inv2
      clear inv2
      simp only [Act.put, List.setIfInBounds_toArray]
      refine wpAnyT_take inv (by kernel_rfl) (by omega) (i := 1) (v := .slice oa on oc) rfl (by kernel_rfl) (by kernel_rfl) (fun _ _ _ h => h) (Or.inl ⟨by kernel_rfl, ?_⟩) (by assumption) ?_
      · rintro W' ⟨q0, q1, q2⟩
        go_simp
      intro inv2
      clear inv
      have inv := inv2
      clear inv2
      simp only [Act.put]
      refine wpAnyT_take inv (by kernel_rfl) (by omega) (i := 2) (v := .pointer (some ⟨w.heap.size, 1, none⟩)) rfl (by kernel_rfl) (by kernel_rfl) (fun _ _ _ h => h) (Or.inl ⟨by kernel_rfl, ?_⟩) (by assumption) ?_
      · rintro W' ⟨q0, q1, q2⟩
        go_simp
      intro inv2
      clear inv
      have inv := inv2
      clear inv2
      simp only [Act.put]
      refine wpAnyT_take inv (by kernel_rfl) (by omega) (i := 3) (v := .slice (some ⟨cb, coff, none⟩) r.fs.length cap) rfl (by kernel_rfl) (by kernel_rfl) (fun _ _ _ h => h) (Or.inl ⟨by kernel_rfl, ?_⟩) (by assumption) ?_
      · rintro W' ⟨q0, q1, q2⟩
        go_simp
      intro inv2
      clear inv
      have inv := inv2
      clear inv2
      simp only [Act.put]
      refine wpAnyT_take inv (by kernel_rfl) (by omega) (i := 4) (v := .int .i64 (k : Int)) rfl (by kernel_rfl) (by kernel_rfl) (fun _ _ _ h => h) (Or.inl ⟨by kernel_rfl, ?_⟩) (by assumption) ?_
      · rintro W' ⟨q0, q1, q2⟩
        go_simp
      intro inv2
      clear inv
      have inv := inv2
      clear inv2
      simp only [Act.put]
      refine wpAnyT_take inv (by kernel_rfl) (by omega) (i := 5) (v := .pointer (some ⟨cb, coff + k, none⟩)) rfl (by kernel_rfl) (by kernel_rfl) (fun _ _ _ h => h) (Or.inl ⟨by kernel_rfl, ?_⟩) (by assumption) ?_
      · rintro W' ⟨q0, q1, q2⟩
        go_simp
      intro inv2
      clear inv
      have inv := inv2
      clear inv2
      simp only [Act.put]
      refine wpAnyT_take inv (by kernel_rfl) (by omega) (i := 6) (v := .int .i64 r.fs[k]) rfl (by kernel_rfl) (by kernel_rfl) (fun _ _ _ h => h) (Or.inl ⟨by kernel_rfl, ?_⟩) (by assumption) ?_
      · rintro W' ⟨q0, q1, q2⟩
        go_simp
      intro inv2
      clear inv
      have inv := inv2
      clear inv2
      simp only [Act.put]
      refine wpAnyT_take inv (by kernel_rfl) (by omega) (i := 7) (v := .int .i64 (a : Int)) rfl (by kernel_rfl) (by kernel_rfl) (fun _ _ _ h => h) (Or.inl ⟨by kernel_rfl, ?_⟩) (by assumption) ?_
      · rintro W' ⟨q0, q1, q2⟩
        go_simp
      intro inv2
      clear inv
      have inv := inv2
      clear inv2
      simp only [Act.put]
      refine wpAnyT_take inv (by kernel_rfl) (by omega) (i := 8) (v := .int .i64 (r.fs[k] - (a : Int))) rfl (by kernel_rfl) (by kernel_rfl) (fun _ _ _ h => h) (Or.inl ⟨by kernel_rfl, ?_⟩) (by assumption) ?_
      · rintro W' ⟨q0, q1, q2⟩
        go_simp
      intro inv2
      clear inv
      have inv := inv2
      clear inv2
      simp only [Act.put]
      refine wpAnyT_ready [9] (by kernel_rfl) (by simp) ?_
      refine AllReadyT.cons rfl (fun K hK => ?_) AllReadyT.nil
      go_simp
      have hA := below1 V0 (.cells #[.int .i64 (r.fs[k] - (a : Int))] 3)
      refine hK.out _ _ (fun _ => ⟨cellB o1 hA, cellB b1 hA, cellB y1 hA⟩) (fun _ => ?_)
      clear hK K hS inv
      try simp only [Act.put]
      refine wpAnyT_chain (fuel := 3) rfl (by kernel_rfl) ?_
      simp only [List.drop_succ_cons, List.drop_zero]
      have HNEW := Lib.hid (new_cells V0 [.int .i64 (r.fs[k] - (a : Int))] 3)
      have ownA := Lib.hid (owns_below own hA)
      have BO1 := Lib.hid (BO.below hA)
      have bB1 := Lib.hid (bB.below hA)
      have bR1 := Lib.hid (bR.below hA)
      have belA := Lib.hid (bel.trans (hA.mono bel.size))
      have hszA : w.heap.size + 3 ≤ (V0.alloc (.cells #[.int .i64 (r.fs[k] - (a : Int))] 3)).heap.size := by simp; omega
      have hgl : (pcF (a : Int) (b : Int) (r.fs.take (k))).length ≤ 100 := by have := FLEN; omega
      clear hA BO bB bR own bel o1 b1 y1 d1 d2 ww1
      generalize hVV : V0.alloc (.cells #[.int .i64 (r.fs[k] - (a : Int))] 3) = V1 at *
      clear hVV
      go_wp2_with (at_builtin; refine wpList_append_own _ rfl (.tmp 37) (.tmp 45) 22 rfl (w.heap.size + 3) 3 i0 (.int .i64 0) 1 8 undI HIF.out HZ0.out HZ1.out HZ2.out rfl (by decide) _ _ _ rfl ownA.out ⟨V0.heap.size, 0, none⟩ 1 1 [.int .i64 (r.fs[k] - (a : Int))] rfl rfl HNEW.out (one1 _) (by unfold maxLen; omega) (by omega) (by omega) ?_; intro v2 w3 own3 gr3 _; obtain ⟨a2, n2, c2, rfl⟩ := (Row.of_owns own3).slice; have BO3 := BO1.out.grown ownA.out (by decide) gr3; have o1 := BO3.cell 1; have of := BO3.frozen 1; have ol := BO3.lt; simp at o1)
      have bB3 := (bB1.out.grown ownA.out (by decide) gr3).other (b := w.heap.size + 1 + 1) (j := 1) (by omega) (.slice a2 n2 c2)
      have bR3 := (bR1.out.grown ownA.out (by decide) gr3).other (b := w.heap.size + 1 + 1) (j := 1) (by omega) (.slice a2 n2 c2)
      have bel3 := below_owns2 ownA.out gr3 belA.out (by omega) (by omega)
      rename_i wr8
      go_roundw
      case rel =>
        refine ⟨k + 1, by omega, by go_num, bB3, bR3, ⟨_, BO3.set (j := 1) (.slice a2 n2 c2), ?_⟩, bel3.setCell (by simp; omega) _, by simp [World.setCell]; omega⟩
        have h2 := owns_set own3 BO3 (by decide) 1 (.slice a2 n2 c2)
        rw [HFL.out, List.length_append, ints_snoc]
        exact h2
      case measure => simp [intOf]; omega
    · obtain rfl : k = r.fs.length := by omega
      have o0 := HO.out.cell 0
      have o1 := HO.out.cell 1
      simp at o0 o1
      have t0 := HR.out.cell 0
      have t1 := HR.out.cell 1
      simp at t0 t1
      have f0 := HR.out.frozen 0
      have f1 := HR.out.frozen 1
      have rl := HR.out.lt
      have bl := HB.out.lt
      go_wp2
      have BR := (HR.out.set (j := 0) (.int .i64 ((b : Int) - (a : Int)))).set (j := 1) (.slice oa on oc)
      have u0 := BR.cell 0
      have u1 := BR.cell 1
      simp at u0 u1
      refine bodyPost_ret (v := .agg #[.int .i64 ((b : Int) - (a : Int)), .slice oa on oc]) (by simp [results, Try.results43, go_sem, u0, u1]) rfl ⟨_, rfl, ⟨_, rfl, ?_⟩, (HBW.out.setCell (by simp) _).setCell (by simp) _⟩
      have hown := HOWN.out
      rw [List.take_length] at hown
      have h2 := owns_set (owns_set hown HR.out (by decide) 0 (.int .i64 ((b : Int) - (a : Int)))) (HR.out.set (j := 0) (.int .i64 ((b : Int) - (a : Int)))) (by decide) 1 (.slice oa on oc)
      exact (Row.of_owns h2).ints

set_option maxRecDepth 100000 in
set_option maxHeartbeats 4000000 in
theorem Without_any (v : Value) (r : RibD) (i : Nat) (w : World) (hv : RibAt w v r) (hl : r.fs.length ≤ 100)  :
    Calls Try.prog 47 #[v, .int .i64 i] w fun e w' => ∃ v', e = .returned v' ∧ RibAt w' v' (without r i) ∧ Below w.heap.size w w' := by
  obtain ⟨sv, rfl, hi⟩ := hv
  obtain ⟨sa, cap, rfl⟩ := hi.slice
  have HI := Lib.hid hi
  have HC := Lib.hid (fun k (hk : k < r.fs.length) => hi.at.2 k hk)
  obtain ⟨i0, hif, hz0, hz1, hz2⟩ := info_parts infoI
  have HIF := Lib.hid hif
  have HZ0 := Lib.hid hz0
  have HZ1 := Lib.hid hz1
  have HZ2 := Lib.hid hz2
  clear hif hz0 hz1 hz2 hi
  go_enter Try.func47, Try.ntmps47
  go_wp2_with fail
  have HM0 : Hid (MSt w w.heap.size (w.heap.size + 3) r (.slice sa r.fs.length cap) (r.len) [] (((w.alloc (.cells #[.int .i64 r.len, .slice sa r.fs.length cap] 24)).alloc (.cells #[.int .i64 0, .slice none 0 0] 24)).alloc (.cells #[.int .i64 (r.len), .slice none 0 0] 24))) := Lib.hid (by
    refine ⟨((Blk.new _ _).alloc _).alloc _, ?_, ⟨_, ?_, ⟨rfl, .inl ⟨rfl, rfl⟩⟩⟩, below3 _ _ _ _, by simp⟩
    · have := (Blk.new (w.alloc (.cells #[.int .i64 r.len, .slice sa r.fs.length cap] 24)) (.cells #[.int .i64 0, .slice none 0 0] 24)).alloc (.cells #[.int .i64 (r.len), .slice none 0 0] 24)
      rwa [World.size_alloc] at this
    · have := Blk.new ((w.alloc (.cells #[.int .i64 r.len, .slice sa r.fs.length cap] 24)).alloc (.cells #[.int .i64 0, .slice none 0 0] 24)) (.cells #[.int .i64 (r.len), .slice none 0 0] 24)
      rwa [World.size_alloc, World.size_alloc] at this)
  generalize ((w.alloc (.cells #[.int .i64 r.len, .slice sa r.fs.length cap] 24)).alloc (.cells #[.int .i64 0, .slice none 0 0] 24)).alloc (.cells #[.int .i64 (r.len), .slice none 0 0] 24) = W0 at *
  go_wp2_with fail
  go_loopw [6] (fun s wr => ∃ k : Nat, k ≤ r.fs.length ∧ s = .int .i64 k ∧ MSt w w.heap.size (w.heap.size + 3) r (.slice sa r.fs.length cap) (r.len) (woF i (r.fs.take (k))) wr) (fun s _ => r.fs.length - (intOf s).toNat)
  case atStart => exact ⟨0, Nat.zero_le _, rfl, HM0.out⟩
  case round =>
    clear HM0
    obtain ⟨k, hk, rfl, hst⟩ := hrel
    have HST := Lib.hid hst
    obtain ⟨hB, hR, ⟨ov, hO, hown⟩, hbw, hsz⟩ := hst
    obtain ⟨oa, on, oc, rfl⟩ := (Row.of_owns hown).slice
    have HOWN := Lib.hid hown
    have HO := Lib.hid hO
    have HB := Lib.hid hB
    have HR := Lib.hid hR
    have HBW := Lib.hid hbw
    have c1 := hB.cell 1
    simp at c1
    clear hown hO hB hR hbw
    by_cases hlt : k < r.fs.length
    · obtain ⟨cb, coff, hsa, x1⟩ := HC.out k hlt
      subst hsa
      have x1 := cellB x1 HBW.out
      have FLEN := woF_len i r.fs k
      by_cases p1 : k = i
      case pos =>
        have d1 : ((k : Int) != (i : Int)) = false := by simp; omega
        have HFL := Lib.hid (show woF i (r.fs.take (k + 1)) = woF i (r.fs.take k) by rw [← p1]; exact woF_no hlt)
        clear p1
        go_wp2
        rename_i wr8
        go_roundw
        case rel =>
          refine ⟨k + 1, by omega, by go_num, ?_⟩
          rw [HFL.out]
          exact HST.out
        case measure => simp [intOf]; omega
      have d1 : ((k : Int) != (i : Int)) = true := by simp; omega
      have HFL := Lib.hid (woF_yes hlt p1)
      clear p1
      go_wp2_with fail
      have BO : Blk wr.drew (w.heap.size + 1 + 1) (.cells #[.int .i64 (r.len), .slice oa on oc] 24) := HO.out
      have bB : Blk wr.drew w.heap.size (.cells #[.int .i64 r.len, .slice (some ⟨cb, coff, none⟩) r.fs.length cap] 24) := HB.out
      have bR : Blk wr.drew (w.heap.size + 1) (.cells #[.int .i64 0, .slice none 0 0] 24) := HR.out
      have bel : Below w.heap.size w wr.drew := HBW.out.drew
      have own : wr.drew.ownsRow (w.heap.size + 3) 3 1 (.slice oa on oc) (woF i (r.fs.take (k))).length ((woF i (r.fs.take (k))).map (Value.int .i64)) := HOWN.out
      have y1 : wr.drew.cell? ⟨cb, coff + k, none⟩ = some (.int .i64 r.fs[k]) := x1
      have hsz' : w.heap.size + 3 ≤ wr.drew.heap.size := hsz
      have o1 : wr.drew.cell? ⟨w.heap.size + 1 + 1, 1, none⟩ = some (.slice oa on oc) := by have := BO.cell 1; simpa using this
      have b1 : wr.drew.cell? ⟨w.heap.size, 1, none⟩ = some (.slice (some ⟨cb, coff, none⟩) r.fs.length cap) := by have := bB.cell 1; simpa using this
      clear c1 x1 HST
      refine wp_region_T 8 (fun W' => W'.cell? ⟨w.heap.size + 1 + 1, 1, none⟩ = some (.slice oa on oc) ∧ W'.cell? ⟨w.heap.size, 1, none⟩ = some (.slice (some ⟨cb, coff, none⟩) r.fs.length cap) ∧ W'.cell? ⟨cb, coff + k, none⟩ = some (.int .i64 r.fs[k])) (by kernel_rfl) (by kernel_rfl) ⟨o1, b1, y1⟩ ?_
      intro inv hS
      generalize wr.drew = V0 at *
      clear HOWN HO HB HR HBW hsz
      refine wpAnyT_take inv (by kernel_rfl) (by omega) (i := 0) (v := .pointer (some ⟨w.heap.size + 1 + 1, 1, none⟩)) rfl (by kernel_rfl) (by kernel_rfl) (fun _ _ _ h => h) (Or.inl ⟨by kernel_rfl, ?_⟩) (by assumption) ?_
      · rintro W' ⟨q0, q1, q2⟩
        go_simp
      intro inv2
      clear inv
      have inv := inv2
      clear inv2
      simp only [Act.put, List.setIfInBounds_toArray]
      refine wpAnyT_take inv (by kernel_rfl) (by omega) (i := 1) (v := .slice oa on oc) rfl (by kernel_rfl) (by kernel_rfl) (fun _ _ _ h => h) (Or.inl ⟨by kernel_rfl, ?_⟩) (by assumption) ?_
      · rintro W' ⟨q0, q1, q2⟩
        go_simp
      intro inv2
      clear inv
      have inv := inv2
      clear inv2
      simp only [Act.put]
      refine wpAnyT_take inv (by kernel_rfl) (by omega) (i := 2) (v := .pointer (some ⟨w.heap.size, 1, none⟩)) rfl (by kernel_rfl) (by kernel_rfl) (fun _ _ _ h => h) (Or.inl ⟨by kernel_rfl, ?_⟩) (by assumption) ?_
      · rintro W' ⟨q0, q1, q2⟩
        go_simp
      intro inv2
      clear inv
      have inv := inv2
      clear inv2
      simp only [Act.put]
      refine wpAnyT_take inv (by kernel_rfl) (by omega) (i := 3) (v := .slice (some ⟨cb, coff, none⟩) r.fs.length cap) rfl (by kernel_rfl) (by kernel_rfl) (fun _ _ _ h => h) (Or.inl ⟨by kernel_rfl, ?_⟩) (by assumption) ?_
      · rintro W' ⟨q0, q1, q2⟩
        go_simp
      intro inv2
      clear inv
      have inv := inv2
      clear inv2
      simp only [Act.put]
      refine wpAnyT_take inv (by kernel_rfl) (by omega) (i := 4) (v := .int .i64 (k : Int)) rfl (by kernel_rfl) (by kernel_rfl) (fun _ _ _ h => h) (Or.inl ⟨by kernel_rfl, ?_⟩) (by assumption) ?_
      · rintro W' ⟨q0, q1, q2⟩
        go_simp
      intro inv2
      clear inv
      have inv := inv2
      clear inv2
      simp only [Act.put]
      refine wpAnyT_take inv (by kernel_rfl) (by omega) (i := 5) (v := .pointer (some ⟨cb, coff + k, none⟩)) rfl (by kernel_rfl) (by kernel_rfl) (fun _ _ _ h => h) (Or.inl ⟨by kernel_rfl, ?_⟩) (by assumption) ?_
      · rintro W' ⟨q0, q1, q2⟩
        go_simp
      intro inv2
      clear inv
      have inv := inv2
      clear inv2
      simp only [Act.put]
      refine wpAnyT_take inv (by kernel_rfl) (by omega) (i := 6) (v := .int .i64 r.fs[k]) rfl (by kernel_rfl) (by kernel_rfl) (fun _ _ _ h => h) (Or.inl ⟨by kernel_rfl, ?_⟩) (by assumption) ?_
      · rintro W' ⟨q0, q1, q2⟩
        go_simp
      intro inv2
      clear inv
      have inv := inv2
      clear inv2
      simp only [Act.put]
      refine wpAnyT_ready [7] (by kernel_rfl) (by simp) ?_
      refine AllReadyT.cons rfl (fun K hK => ?_) AllReadyT.nil
      go_simp
      have hA := below1 V0 (.cells #[.int .i64 (r.fs[k])] 3)
      refine hK.out _ _ (fun _ => ⟨cellB o1 hA, cellB b1 hA, cellB y1 hA⟩) (fun _ => ?_)
      clear hK K hS inv
      try simp only [Act.put]
      refine wpAnyT_chain (fuel := 3) rfl (by kernel_rfl) ?_
      simp only [List.drop_succ_cons, List.drop_zero]
      have HNEW := Lib.hid (new_cells V0 [.int .i64 (r.fs[k])] 3)
      have ownA := Lib.hid (owns_below own hA)
      have BO1 := Lib.hid (BO.below hA)
      have bB1 := Lib.hid (bB.below hA)
      have bR1 := Lib.hid (bR.below hA)
      have belA := Lib.hid (bel.trans (hA.mono bel.size))
      have hszA : w.heap.size + 3 ≤ (V0.alloc (.cells #[.int .i64 (r.fs[k])] 3)).heap.size := by simp; omega
      have hgl : (woF i (r.fs.take (k))).length ≤ 100 := by have := FLEN; omega
      clear hA BO bB bR own bel o1 b1 y1 d1
      generalize hVV : V0.alloc (.cells #[.int .i64 (r.fs[k])] 3) = V1 at *
      clear hVV
      go_wp2_with (at_builtin; refine wpList_append_own _ rfl (.tmp 21) (.tmp 27) 22 rfl (w.heap.size + 3) 3 i0 (.int .i64 0) 1 8 undI HIF.out HZ0.out HZ1.out HZ2.out rfl (by decide) _ _ _ rfl ownA.out ⟨V0.heap.size, 0, none⟩ 1 1 [.int .i64 (r.fs[k])] rfl rfl HNEW.out (one1 _) (by unfold maxLen; omega) (by omega) (by omega) ?_; intro v2 w3 own3 gr3 _; obtain ⟨a2, n2, c2, rfl⟩ := (Row.of_owns own3).slice; have BO3 := BO1.out.grown ownA.out (by decide) gr3; have o1 := BO3.cell 1; have of := BO3.frozen 1; have ol := BO3.lt; simp at o1)
      have bB3 := (bB1.out.grown ownA.out (by decide) gr3).other (b := w.heap.size + 1 + 1) (j := 1) (by omega) (.slice a2 n2 c2)
      have bR3 := (bR1.out.grown ownA.out (by decide) gr3).other (b := w.heap.size + 1 + 1) (j := 1) (by omega) (.slice a2 n2 c2)
      have bel3 := below_owns2 ownA.out gr3 belA.out (by omega) (by omega)
      rename_i wr8
      go_roundw
      case rel =>
        refine ⟨k + 1, by omega, by go_num, bB3, bR3, ⟨_, BO3.set (j := 1) (.slice a2 n2 c2), ?_⟩, bel3.setCell (by simp; omega) _, by simp [World.setCell]; omega⟩
        have h2 := owns_set own3 BO3 (by decide) 1 (.slice a2 n2 c2)
        rw [HFL.out, List.length_append, ints_snoc]
        exact h2
      case measure => simp [intOf]; omega
    · obtain rfl : k = r.fs.length := by omega
      have o0 := HO.out.cell 0
      have o1 := HO.out.cell 1
      simp at o0 o1
      have t0 := HR.out.cell 0
      have t1 := HR.out.cell 1
      simp at t0 t1
      have f0 := HR.out.frozen 0
      have f1 := HR.out.frozen 1
      have rl := HR.out.lt
      have bl := HB.out.lt
      go_wp2
      have BR := (HR.out.set (j := 0) (.int .i64 (r.len))).set (j := 1) (.slice oa on oc)
      have u0 := BR.cell 0
      have u1 := BR.cell 1
      simp at u0 u1
      refine bodyPost_ret (v := .agg #[.int .i64 (r.len), .slice oa on oc]) (by simp [results, Try.results47, go_sem, u0, u1]) rfl ⟨_, rfl, ⟨_, rfl, ?_⟩, (HBW.out.setCell (by simp) _).setCell (by simp) _⟩
      have hown := HOWN.out
      rw [List.take_length] at hown
      have h2 := owns_set (owns_set hown HR.out (by decide) 0 (.int .i64 (r.len))) (HR.out.set (j := 0) (.int .i64 (r.len))) (by decide) 1 (.slice oa on oc)
      exact (Row.of_owns h2).ints
end Go.Proofs.Ytnkeikhkafbokaa
