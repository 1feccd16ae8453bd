import Derived.Test.YtjbeoakikdkdaaaTa
namespace Go.Proofs.Ytjbeoakikdkdaaa
open Go.RowKit Go.Vat Go.Sort Go.Shelf
attribute [local go_sem] Oper.semAt_some

/-! ## One more log, a wider range, more room -/
theorem yard_re {w : World} {a : Int} {sv : Value} {y : YardD} (h : YardAt w (.agg #[.int .i64 a, sv]) y) (m : Int) : YardAt w (.agg #[.int .i64 m, sv]) ⟨m, y.logs⟩ := by
  obtain ⟨sv', e, hp⟩ := h
  simp at e
  obtain ⟨rfl, rfl⟩ := e
  exact ⟨_, rfl, hp⟩
theorem yard_ps {w : World} {a : Int} {sv : Value} {y : YardD} (h : YardAt w (.agg #[.int .i64 a, sv]) y) : PairsAt w sv y.logs := by
  obtain ⟨sv', e, hp⟩ := h
  simp at e
  obtain ⟨_, rfl⟩ := e
  exact hp
theorem fine_b (v : Value) (y : YardD) (w : World) (hv : YardAt w v y) :
    Calls Try.prog 39 #[v] w fun e w' => ∃ b : Bool, e = .returned (.bool b) ∧ (b = true ↔ y.Ok) ∧ Below w.heap.size w w' := by
  by_cases h : y.Ok
  · exact (fine_yes v y w hv h).mono fun _ _ ⟨e, hb⟩ => ⟨true, e, by simp [h], hb⟩
  · exact (fine_no v y w hv h).mono fun _ _ ⟨e, hb⟩ => ⟨false, e, by simp [h], hb⟩
theorem pairCells_app (l k : List (Int × Int)) : pairCells (l ++ k) = pairCells l ++ pairCells k := by simp [pairCells]
theorem run_min_w {P : Program} (w : World) (ts : Array TypeId) (t : TypeId) (k k' : IntKind) (x y : Int) : (Builtin.min_ ts t #[.int k x, .int k' y]).run P w = .ok (.int k (min x y)) w := by
  have e : (if y < x then y else x) = min x y := by
    rw [Int.min_def]
    split <;> split <;> omega
  simp [Builtin.min_, Builtin.min2, e]
/-- Pairs in a block of the call's own. -/
def OwnP (W : World) (g c : Nat) (l : List (Int × Int)) : Prop := ∃ cur : Array Value, Blk W g (.cells cur 27 (0, 0)) ∧ l.length ≤ c ∧ cur.size = c * 2 ∧ cur.toList.take (l.length * 2) = pairCells l
theorem OwnP.row {W : World} {g c : Nat} {l : List (Int × Int)} (h : OwnP W g c l) : PairsAt W (.slice (some ⟨g, 0, none⟩) l.length c) l := by
  obtain ⟨cur, h1, h2, h3, h4⟩ := h
  refine ⟨_, _, rfl, fun _ => ⟨g, 0, rfl, fun j hj => ?_⟩⟩
  obtain ⟨c1, c2⟩ := pairCells_get l j hj
  rw [← h4] at c1 c2
  rw [h1.cell, h1.cell, Nat.zero_add]
  simp only [List.getElem?_take, Array.getElem?_toList] at c1 c2
  rw [if_pos (by omega)] at c1 c2
  exact ⟨c1, c2⟩
theorem OwnP.below {W W' : World} {g c : Nat} {l : List (Int × Int)} (h : OwnP W g c l) (hb : Below W.heap.size W W') : OwnP W' g c l := by
  obtain ⟨cur, h1, h2⟩ := h
  exact ⟨cur, h1.below hb, h2⟩
theorem OwnP.frozen {W : World} {g c : Nat} {l : List (Int × Int)} (h : OwnP W g c l) (j : Nat) : W.frozen? ⟨g, j, none⟩ = false := by
  obtain ⟨cur, h1, h2⟩ := h
  exact h1.frozen j
theorem OwnP.lt {W : World} {g c : Nat} {l : List (Int × Int)} (h : OwnP W g c l) : g < W.heap.size := by
  obtain ⟨cur, h1, h2⟩ := h
  exact h1.lt
theorem OwnP.ne {W : World} {g c b : Nat} {l : List (Int × Int)} {d : Array Value} {T : TypeId} {z : Nat × Nat} (h : OwnP W g c l) (hb : Blk W b (.cells d T z)) (hT : T ≠ 27) : b ≠ g := by
  rintro rfl
  obtain ⟨cur, h1, h2⟩ := h
  have e := Option.some.inj (h1.symm.trans hb)
  injection e with _ e2
  exact hT e2.symm
theorem OwnP.of {W : World} {base : Nat} {v : Value} {l : List (Int × Int)} (h : W.ownsRow base 27 2 v l.length (pairCells l)) (hne : l.length ≠ 0) : ∃ g c, v = .slice (some ⟨g, 0, none⟩) l.length c ∧ base ≤ g ∧ OwnP W g c l := by
  obtain ⟨h1, ⟨h2, h3⟩ | ⟨g, cap, cur, e1, e2, e3, e4, e5, e6, e7⟩⟩ := h
  · exact absurd h3 hne
  · exact ⟨g, cap, e1, e2, cur, e3, e4, e6, e7⟩
theorem pairCells_set : ∀ (l : List (Int × Int)) (i : Nat) (p q : Int), i < l.length → pairCells (l.set i (p, q)) = ((pairCells l).set (i * 2) (.int .i64 p)).set (i * 2 + 1) (.int .i64 q)
  | a :: l, 0, p, q, _ => by simp [pairCells]
  | a :: l, i + 1, p, q, hi => by
    have ih := pairCells_set l i p q (by simpa using hi)
    have e2 : ∀ (a : Int × Int) l, pairCells (a :: l) = .int .i64 a.1 :: .int .i64 a.2 :: pairCells l := fun _ _ => by simp [pairCells]
    rw [List.set_cons_succ, e2, e2, ih, show (i + 1) * 2 = i * 2 + 1 + 1 by omega]
    simp
theorem OwnP.set {W : World} {g c : Nat} {l : List (Int × Int)} (h : OwnP W g c l) {i : Nat} (hi : i < l.length) (p q : Int) : OwnP ((W.setCell ⟨g, i * 2, none⟩ (.int .i64 p)).setCell ⟨g, i * 2 + 1, none⟩ (.int .i64 q)) g c (l.set i (p, q)) := by
  obtain ⟨cur, h1, h2, h3, h4⟩ := h
  refine ⟨_, (h1.set _).set _, by rw [List.length_set]; exact h2, by simp [h3], ?_⟩
  rw [List.length_set, pairCells_set l i p q hi, ← h4]
  simp only [Array.toList_setIfInBounds]
  rw [List.take_set, List.take_set]
theorem wider_ok {y : YardD} (hy : y.Ok) {i : Nat} {p q : Int} (h0 : 0 ≤ p) (h1 : p ≤ q) (h2 : q ≤ 100) : YardD.Ok ⟨y.load, y.logs.set i (p, q)⟩ :=
  ⟨hy.l1, hy.l2, by show (y.logs.set i (p, q)).length ≤ 10; rw [List.length_set]; exact hy.count, fun l hl => by
    rcases List.mem_or_eq_of_mem_set hl with h | rfl
    · exact hy.log l h
    · exact ⟨h0, h1, h2⟩⟩
theorem wider_le {y : YardD} {i : Nat} {p q : Int} (hp : ∀ h : i < y.logs.length, p ≤ y.logs[i].1 ∧ y.logs[i].2 ≤ q) (j : Nat) (h : j < (y.logs.set i (p, q)).length) (h' : j < y.logs.length) : (y.logs.set i (p, q))[j].1 ≤ y.logs[j].1 ∧ y.logs[j].2 ≤ (y.logs.set i (p, q))[j].2 := by
  rw [List.getElem_set]
  split
  · rename_i e
    subst e
    exact hp h'
  · exact ⟨Int.le_refl _, Int.le_refl _⟩
theorem one2' (y z : Int) : ∀ u ∈ ([.int .i64 y, .int .i64 z] : List Value), u.oneCell' = true := by
  intro u hu
  simp only [List.mem_cons, List.not_mem_nil, or_false] at hu
  rcases hu with rfl | rfl <;> rfl
set_option maxRecDepth 100000 in
set_option maxHeartbeats 16000000 in
theorem SteamMore_any (v : Value) (a b which wider : Int) (y : YardD) (w : World) (hv : YardAt w v y) (hm : 0 ≤ which ∧ which ≤ 255) (hd : 0 ≤ wider ∧ wider ≤ 255) :
    Calls Try.prog 12 #[v, .agg #[.int .i64 a, .int .i64 b], .int .u8 which, .int .u8 wider] w fun e w' => e = .returned (.bool true) ∧ Below w.heap.size w w' := by
  obtain ⟨sv, rfl, hp⟩ := hv
  obtain ⟨sa, cap, rfl⟩ := hp.slice
  have hB0 := below2 w (.cells #[.int .i64 y.load, .slice sa y.logs.length cap] 24) (.cells #[.int .i64 a, .int .i64 b] 27)
  have B0 := Lib.hid ((Blk.new w (.cells #[.int .i64 y.load, .slice sa y.logs.length cap] 24)).alloc (.cells #[.int .i64 a, .int .i64 b] 27))
  have b1 := Blk.new (w.alloc (.cells #[.int .i64 y.load, .slice sa y.logs.length cap] 24)) (.cells #[.int .i64 a, .int .i64 b] 27)
  rw [World.size_alloc] at b1
  have B1 := Lib.hid b1
  clear b1
  have HB := Lib.hid hB0
  have HV := Lib.hid (show YardAt _ (.agg #[.int .i64 y.load, .slice sa y.logs.length cap]) y from ⟨_, rfl, hp.below hB0⟩)
  clear hp hB0
  by_cases hyd : y.Ok
  case neg =>
    go_enter Try.func12, Try.ntmps12
    go_wp2_with fail
    generalize (w.alloc (.cells #[.int .i64 y.load, .slice sa y.logs.length cap] 24)).alloc (.cells #[.int .i64 a, .int .i64 b] 27) = W0 at *
    refine (fine_no (.agg #[.int .i64 y.load, .slice sa y.logs.length cap]) y _ HV.out hyd).mono ?_
    rintro e v1 ⟨rfl, hb⟩
    replace HV := Lib.hid (HV.out.below hb)
    replace B0 := Lib.hid (B0.out.below hb)
    replace B1 := Lib.hid (B1.out.below hb)
    replace HB := Lib.hid (bC HB.out hb)
    clear hb
    have B0c0 := B0.out.cell 0
    have B0c1 := B0.out.cell 1
    have B1c0 := B1.out.cell 0
    have B1c1 := B1.out.cell 1
    simp at B0c0 B0c1 B1c0 B1c1
    go_wp2_with fail
    clear B0c0 B0c1 B1c0 B1c1
    refine (Works_any _).mono ?_
    rintro e v2 ⟨rfl, hb⟩
    replace HV := Lib.hid (HV.out.below hb)
    replace B0 := Lib.hid (B0.out.below hb)
    replace B1 := Lib.hid (B1.out.below hb)
    replace HB := Lib.hid (bC HB.out hb)
    clear hb
    go_wp2
    go_ret
    exact ⟨rfl, HB.out⟩
  have HYD := Lib.hid hyd
  have hl10 := hyd.count
  clear hyd
  by_cases hls : 9 < y.logs.length
  · have g01 : decide ((y.logs.length : Int) ≥ 10) = true := decide_eq_true (by omega)
    have g02 : decide ((10 : Int) ≤ (y.logs.length : Int)) = true := decide_eq_true (by omega)
    have g03 : decide (10 ≤ y.logs.length) = true := decide_eq_true (by omega)
    clear hls
    go_enter Try.func12, Try.ntmps12
    go_wp2_with fail
    generalize (w.alloc (.cells #[.int .i64 y.load, .slice sa y.logs.length cap] 24)).alloc (.cells #[.int .i64 a, .int .i64 b] 27) = W0 at *
    refine (fine_yes (.agg #[.int .i64 y.load, .slice sa y.logs.length cap]) y _ HV.out HYD.out).mono ?_
    rintro e v1 ⟨rfl, hb⟩
    replace HV := Lib.hid (HV.out.below hb)
    replace B0 := Lib.hid (B0.out.below hb)
    replace B1 := Lib.hid (B1.out.below hb)
    replace HB := Lib.hid (bC HB.out hb)
    clear hb
    have B0c0 := B0.out.cell 0
    have B0c1 := B0.out.cell 1
    have B1c0 := B1.out.cell 0
    have B1c1 := B1.out.cell 1
    simp at B0c0 B0c1 B1c0 B1c1
    go_wp2_with fail
    clear B0c0 B0c1 B1c0 B1c1
    refine (Works_any _).mono ?_
    rintro e v2 ⟨rfl, hb⟩
    replace HV := Lib.hid (HV.out.below hb)
    replace B0 := Lib.hid (B0.out.below hb)
    replace B1 := Lib.hid (B1.out.below hb)
    replace HB := Lib.hid (bC HB.out hb)
    clear hb
    go_wp2
    go_ret
    exact ⟨rfl, HB.out⟩
  have g01 : decide ((y.logs.length : Int) ≥ 10) = false := decide_eq_false (by omega)
  have g02 : decide ((10 : Int) ≤ (y.logs.length : Int)) = false := decide_eq_false (by omega)
  have g03 : decide (10 ≤ y.logs.length) = false := decide_eq_false (by omega)
  go_enter Try.func12, Try.ntmps12
  go_wp2_with fail
  generalize (w.alloc (.cells #[.int .i64 y.load, .slice sa y.logs.length cap] 24)).alloc (.cells #[.int .i64 a, .int .i64 b] 27) = W0 at *
  refine (fine_yes (.agg #[.int .i64 y.load, .slice sa y.logs.length cap]) y _ HV.out HYD.out).mono ?_
  rintro e v1 ⟨rfl, hb⟩
  replace HV := Lib.hid (HV.out.below hb)
  replace B0 := Lib.hid (B0.out.below hb)
  replace B1 := Lib.hid (B1.out.below hb)
  replace HB := Lib.hid (bC HB.out hb)
  clear hb
  have B0c0 := B0.out.cell 0
  have B0c1 := B0.out.cell 1
  have B1c0 := B1.out.cell 0
  have B1c1 := B1.out.cell 1
  simp at B0c0 B0c1 B1c0 B1c1
  go_wp2_with fail
  clear B0c0 B0c1 B1c0 B1c1
  have hl9 : y.logs.length ≤ 9 := by omega
  clear g01 g02 g03
  refine (fewest_law (.agg #[.int .i64 y.load, .slice sa y.logs.length cap]) y _ HV.out HYD.out).mono ?_
  rintro e v2 ⟨vh, xs, rfl, hi, hf, hn, hb⟩
  replace HV := Lib.hid (HV.out.below hb)
  replace B0 := Lib.hid (B0.out.below hb)
  replace B1 := Lib.hid (B1.out.below hb)
  replace HB := Lib.hid (bC HB.out hb)
  clear hb
  clear hi hf hn
  obtain ⟨tj, hjf, hy0, hy1, hy2⟩ := info_parts infoAR
  have HJF := Lib.hid hjf
  have HY0 := Lib.hid hy0
  have HY1 := Lib.hid hy1
  have HY2 := Lib.hid hy2
  clear hjf hy0 hy1 hy2
  have HUX := Lib.hid (fun hz => U_more (y := y) (l := (a, b)) HYD.out hz 101)
  have HUR := Lib.hid (fun h => U_room (y := y) (m := y.load + 1) HYD.out (by omega) h 101)
  have HUW := Lib.hid (fun z hz h1 h2 h3 => U_wider (y := y) (z := z) HYD.out hz h1 h2 h3 101)
  have HU0 := Lib.hid (fun (h : y.logs = []) => (show U y 101 = 0 from by
    have h1 := U_len HYD.out 101
    have h2 := U_nonneg y 101
    have h3 : y.logs.length = 0 := by rw [h]; rfl
    omega))
  have HUN := Lib.hid (U_nonneg y 101)
  have HUL := Lib.hid (U_len HYD.out 101)
  obtain ⟨F, hF⟩ : ∃ F, U y 101 = F := ⟨_, rfl⟩
  rw [hF] at HUX HUR HUW HU0 HUN HUL ⊢
  clear hF
  have B0c0 := B0.out.cell 0
  have B0c1 := B0.out.cell 1
  have B1c0 := B1.out.cell 0
  have B1c1 := B1.out.cell 1
  simp at B0c0 B0c1 B1c0 B1c1
  go_upto_region 6 with (fail)
  have hq0 := B0.out.cell 0
  have hq1 := B0.out.cell 1
  have hq2 := B1.out.cell 0
  have hq3 := B1.out.cell 1
  simp at hq0 hq1 hq2 hq3
  clear B0c0 B0c1 B1c0 B1c1
  have HQX := Lib.hid True.intro
  go_cut [12] (fun s wx => ∃ g xa xc, s = .pointer (some ⟨g, 0, none⟩) ∧ v2.heap.size ≤ g ∧ Blk wx g (.cells #[.int .i64 y.load, .slice xa (y.logs.length + 1) xc] 24) ∧ Row wx (.slice xa (y.logs.length + 1) xc) (y.logs.length + 1) 2 (pairCells (y.logs ++ [(a, b)])) ∧ Below v2.heap.size v2 wx)
  case first =>
    as_aux_lemma =>
      have HPS := Lib.hid (yard_ps HV.out)
      refine wp_region_T 11 (fun W' => W'.cell? ⟨w.heap.size, 0, none⟩ = some (.int .i64 y.load) ∧ W'.cell? ⟨w.heap.size, 1, none⟩ = some (.slice sa y.logs.length cap) ∧ W'.cell? ⟨w.heap.size + 1, 0, none⟩ = some (.int .i64 a) ∧ W'.cell? ⟨w.heap.size + 1, 1, none⟩ = some (.int .i64 b)) (by kernel_rfl) (by kernel_rfl) ⟨hq0, hq1, hq2, hq3⟩ ?_
      intro inv hS
      have BL := Lib.hid (show Below v2.heap.size v2 v2.drew from (Below.refl _ _).drew)
      generalize v2.drew = V0 at *
      refine wpAnyT_take inv (by kernel_rfl) (by omega) (i := 0) (v := .pointer (some ⟨w.heap.size, 0, none⟩)) rfl (by kernel_rfl) (by kernel_rfl) (fun _ _ _ h => h) (Or.inl ⟨by kernel_rfl, ?_⟩) (by assumption) ?_
      · rintro W' ⟨q0, q1, q2, q3⟩
        go_simp
      intro inv2
      clear inv
      have inv := inv2
      clear inv2
      simp only [Act.put, List.setIfInBounds_toArray]
      refine wpAnyT_take inv (by kernel_rfl) (by omega) (i := 1) (v := .int .i64 y.load) rfl (by kernel_rfl) (by kernel_rfl) (fun _ _ _ h => h) (Or.inl ⟨by kernel_rfl, ?_⟩) (by assumption) ?_
      · rintro W' ⟨q0, q1, q2, q3⟩
        go_simp
      intro inv2
      clear inv
      have inv := inv2
      clear inv2
      simp only [Act.put]
      refine wpAnyT_take inv (by kernel_rfl) (by omega) (i := 3) (v := .pointer (some ⟨w.heap.size, 1, none⟩)) rfl (by kernel_rfl) (by kernel_rfl) (fun _ _ _ h => h) (Or.inl ⟨by kernel_rfl, ?_⟩) (by assumption) ?_
      · rintro W' ⟨q0, q1, q2, q3⟩
        go_simp
      intro inv2
      clear inv
      have inv := inv2
      clear inv2
      simp only [Act.put]
      refine wpAnyT_take inv (by kernel_rfl) (by omega) (i := 4) (v := .slice sa y.logs.length cap) rfl (by kernel_rfl) (by kernel_rfl) (fun _ _ _ h => h) (Or.inl ⟨by kernel_rfl, ?_⟩) (by assumption) ?_
      · rintro W' ⟨q0, q1, q2, q3⟩
        go_simp
      intro inv2
      clear inv
      have inv := inv2
      clear inv2
      simp only [Act.put]
      refine wpAnyT_take inv (by kernel_rfl) (by omega) (i := 6) (v := .agg #[.int .i64 a, .int .i64 b]) rfl (by kernel_rfl) (by kernel_rfl) (fun _ _ _ h => h) (Or.inl ⟨by kernel_rfl, ?_⟩) (by assumption) ?_
      · rintro W' ⟨q0, q1, q2, q3⟩
        go_simp
      intro inv2
      clear inv
      have inv := inv2
      clear inv2
      simp only [Act.put]
      refine wpAnyT_ready [2, 7, 10] (by kernel_rfl) (by simp) ?_
      refine AllReadyT.cons rfl (fun K hK => ?_) ?_
      ·
        go_simp
        refine (ranges_any _ _).mono ?_
        rintro e V1 ⟨rfl, rfl⟩
        have OWN := Lib.hid (owns_nil V0 v2.heap.size 27 2)
        refine hK.out _ _ (fun _ => ⟨cellB hq0 BL.out, cellB hq1 BL.out, cellB hq2 BL.out, cellB hq3 BL.out⟩) (fun _ => ?_)
        clear hK K
        replace inv := HeadM.step inv 2 (by kernel_rfl) (by omega)
        clear hS
        have hS : V0.cell? ⟨w.heap.size, 0, none⟩ = some (.int .i64 y.load) ∧ V0.cell? ⟨w.heap.size, 1, none⟩ = some (.slice sa y.logs.length cap) ∧ V0.cell? ⟨w.heap.size + 1, 0, none⟩ = some (.int .i64 a) ∧ V0.cell? ⟨w.heap.size + 1, 1, none⟩ = some (.int .i64 b) := ⟨cellB hq0 BL.out, cellB hq1 BL.out, cellB hq2 BL.out, cellB hq3 BL.out⟩
        try simp only [Act.put]
        refine wpAnyT_ready [5, 7, 10] (by kernel_rfl) (by simp) ?_
        refine AllReadyT.cons rfl (fun K hK => ?_) ?_
        ·
          refine Eq.mpr (if_pos ?_) ?_
          · rfl
          have hs8 := BL.out.size
          refine wp_append_src _ _ _ 22 rfl v2.heap.size 27 tj (.agg #[.int .i64 0, .int .i64 0]) 2 16 undAR HJF.out HY0.out HY1.out HY2.out rfl (by decide) _ _ _ rfl OWN.out sa y.logs.length cap (pairCells y.logs) rfl (src_pairs (HPS.out.below BL.out)) (fun u hu => pairCells_one hu) (by unfold maxLen; omega) (by omega) hs8 ?_
          intro vo1 V2 own gr _
          replace BL := Lib.hid (below_owns OWN.out gr BL.out hs8)
          clear OWN
          rw [Nat.zero_add, List.nil_append] at own
          obtain ⟨xa1, xc1, rfl⟩ := owns_slice own
          have OWN := Lib.hid own
          clear own gr hs8
          refine hK.out _ _ (fun _ => ⟨cellB hq0 BL.out, cellB hq1 BL.out, cellB hq2 BL.out, cellB hq3 BL.out⟩) (fun _ => ?_)
          clear hK K
          replace inv := HeadM.step inv 5 (by kernel_rfl) (by omega)
          clear hS
          have hS : V2.cell? ⟨w.heap.size, 0, none⟩ = some (.int .i64 y.load) ∧ V2.cell? ⟨w.heap.size, 1, none⟩ = some (.slice sa y.logs.length cap) ∧ V2.cell? ⟨w.heap.size + 1, 0, none⟩ = some (.int .i64 a) ∧ V2.cell? ⟨w.heap.size + 1, 1, none⟩ = some (.int .i64 b) := ⟨cellB hq0 BL.out, cellB hq1 BL.out, cellB hq2 BL.out, cellB hq3 BL.out⟩
          try simp only [Act.put]
          refine wpAnyT_ready [7, 10] (by kernel_rfl) (by simp) ?_
          refine AllReadyT.cons rfl (fun K hK => ?_) ?_
          ·
            go_simp
            have hb4 := below1 V2 (.cells #[.int .i64 a, .int .i64 b] 27)
            have BN := Lib.hid (Blk.new V2 (.cells #[.int .i64 a, .int .i64 b] 27))
            have BNl := BL.out.size
            replace OWN := Lib.hid (owns_below OWN.out hb4)
            replace BL := Lib.hid (bC BL.out hb4)
            generalize V2.heap.size = BNg at *
            generalize V2.alloc (.cells #[.int .i64 a, .int .i64 b] 27) = V3 at *
            clear hb4
            refine hK.out _ _ (fun _ => ⟨cellB hq0 BL.out, cellB hq1 BL.out, cellB hq2 BL.out, cellB hq3 BL.out⟩) (fun _ => ?_)
            clear hK K
            replace inv := HeadM.step inv 7 (by kernel_rfl) (by omega)
            clear hS
            have hS : V3.cell? ⟨w.heap.size, 0, none⟩ = some (.int .i64 y.load) ∧ V3.cell? ⟨w.heap.size, 1, none⟩ = some (.slice sa y.logs.length cap) ∧ V3.cell? ⟨w.heap.size + 1, 0, none⟩ = some (.int .i64 a) ∧ V3.cell? ⟨w.heap.size + 1, 1, none⟩ = some (.int .i64 b) := ⟨cellB hq0 BL.out, cellB hq1 BL.out, cellB hq2 BL.out, cellB hq3 BL.out⟩
            try simp only [Act.put]
            refine wpAnyT_ready [8, 10] (by kernel_rfl) (by simp) ?_
            refine AllReadyT.cons rfl (fun K hK => ?_) ?_
            ·
              refine Eq.mpr (if_pos ?_) ?_
              · rfl
              have hs8 := BL.out.size
              refine wp_append_src _ _ _ 22 rfl v2.heap.size 27 tj (.agg #[.int .i64 0, .int .i64 0]) 2 16 undAR HJF.out HY0.out HY1.out HY2.out rfl (by decide) _ _ _ rfl OWN.out (some ⟨BNg, 0, none⟩) 1 1 [.int .i64 a, .int .i64 b] rfl ⟨rfl, .inr ⟨_, rfl, fun jj uu hu => by rw [addr_add, Nat.zero_add, BN.out.cell]; simpa using hu⟩⟩ (one2' a b) (by unfold maxLen; omega) (by omega) hs8 ?_
              intro vo2 V4 own gr _
              replace BL := Lib.hid (below_owns OWN.out gr BL.out hs8)
              clear OWN
              obtain ⟨xa2, xc2, rfl⟩ := owns_slice own
              have OWN := Lib.hid own
              clear own gr hs8
              refine hK.out _ _ (fun _ => ⟨cellB hq0 BL.out, cellB hq1 BL.out, cellB hq2 BL.out, cellB hq3 BL.out⟩) (fun _ => ?_)
              clear hK K
              replace inv := HeadM.step inv 8 (by kernel_rfl) (by omega)
              clear hS
              have hS : V4.cell? ⟨w.heap.size, 0, none⟩ = some (.int .i64 y.load) ∧ V4.cell? ⟨w.heap.size, 1, none⟩ = some (.slice sa y.logs.length cap) ∧ V4.cell? ⟨w.heap.size + 1, 0, none⟩ = some (.int .i64 a) ∧ V4.cell? ⟨w.heap.size + 1, 1, none⟩ = some (.int .i64 b) := ⟨cellB hq0 BL.out, cellB hq1 BL.out, cellB hq2 BL.out, cellB hq3 BL.out⟩
              try simp only [Act.put]
              refine wpAnyT_take inv (by kernel_rfl) (by omega) (i := 9) (v := .agg #[.int .i64 y.load, .slice xa2 (y.logs.length + 1) xc2]) rfl (by kernel_rfl) (by kernel_rfl) (fun _ _ _ h => h) (Or.inl ⟨by kernel_rfl, ?_⟩) (by assumption) ?_
              · rintro W' ⟨q0, q1, q2, q3⟩
                go_simp
              intro inv2
              clear inv
              have inv := inv2
              clear inv2
              simp only [Act.put]
              refine wpAnyT_ready [10] (by kernel_rfl) (by simp) ?_
              refine AllReadyT.cons rfl (fun K hK => ?_) AllReadyT.nil
              go_simp
              have hb4 := below1 V4 (.cells #[.int .i64 0, .slice none 0 0] 24)
              have BX := Lib.hid (Blk.new V4 (.cells #[.int .i64 0, .slice none 0 0] 24))
              have BXl := BL.out.size
              replace OWN := Lib.hid (owns_below OWN.out hb4)
              replace BL := Lib.hid (bC BL.out hb4)
              generalize V4.heap.size = BXg at *
              generalize V4.alloc (.cells #[.int .i64 0, .slice none 0 0] 24) = V5 at *
              clear hb4
              refine hK.out _ _ (fun _ => ⟨cellB hq0 BL.out, cellB hq1 BL.out, cellB hq2 BL.out, cellB hq3 BL.out⟩) (fun _ => ?_)
              clear hK K
              replace inv := HeadM.step inv 10 (by kernel_rfl) (by omega)
              clear hS
              have hS : V5.cell? ⟨w.heap.size, 0, none⟩ = some (.int .i64 y.load) ∧ V5.cell? ⟨w.heap.size, 1, none⟩ = some (.slice sa y.logs.length cap) ∧ V5.cell? ⟨w.heap.size + 1, 0, none⟩ = some (.int .i64 a) ∧ V5.cell? ⟨w.heap.size + 1, 1, none⟩ = some (.int .i64 b) := ⟨cellB hq0 BL.out, cellB hq1 BL.out, cellB hq2 BL.out, cellB hq3 BL.out⟩
              try simp only [Act.put]
              refine wpAnyT_chain (fuel := 1) rfl (by kernel_rfl) ?_
              simp only [List.drop_succ_cons, List.drop_zero]
              clear inv hS HQX
              have x0 := BX.out.cell 0
              have x1 := BX.out.cell 1
              have xf := BX.out.frozen
              have xl := BX.out.lt
              simp at x0 x1
              go_wp2_with fail
              go_meet
              have BX2 := (BX.out.set (j := 0) (.int .i64 y.load)).set (j := 1) (.slice xa2 (y.logs.length + 1) xc2)
              refine ⟨BXg, xa2, xc2, rfl, BXl, BX2, ?_, (BL.out.setCell BXl (p := ⟨BXg, 0, none⟩) _).setCell BXl (p := ⟨BXg, 1, none⟩) _⟩
              have ho := Row.of_owns (owns_set (owns_set OWN.out BX.out (by decide) 0 (.int .i64 y.load)) (BX.out.set (j := 0) (.int .i64 y.load)) (by decide) 1 (.slice xa2 (y.logs.length + 1) xc2))
              exact by rw [pairCells_app]; exact ho
            refine AllReadyT.cons rfl (fun K hK => ?_) AllReadyT.nil
            go_simp
            have hb4 := below1 V3 (.cells #[.int .i64 0, .slice none 0 0] 24)
            have BX := Lib.hid (Blk.new V3 (.cells #[.int .i64 0, .slice none 0 0] 24))
            have BXl := BL.out.size
            replace BN := Lib.hid (BN.out.below hb4)
            replace OWN := Lib.hid (owns_below OWN.out hb4)
            replace BL := Lib.hid (bC BL.out hb4)
            generalize V3.heap.size = BXg at *
            generalize V3.alloc (.cells #[.int .i64 0, .slice none 0 0] 24) = V6 at *
            clear hb4
            refine hK.out _ _ (fun _ => ⟨cellB hq0 BL.out, cellB hq1 BL.out, cellB hq2 BL.out, cellB hq3 BL.out⟩) (fun _ => ?_)
            clear hK K
            replace inv := HeadM.step inv 10 (by kernel_rfl) (by omega)
            clear hS
            have hS : V6.cell? ⟨w.heap.size, 0, none⟩ = some (.int .i64 y.load) ∧ V6.cell? ⟨w.heap.size, 1, none⟩ = some (.slice sa y.logs.length cap) ∧ V6.cell? ⟨w.heap.size + 1, 0, none⟩ = some (.int .i64 a) ∧ V6.cell? ⟨w.heap.size + 1, 1, none⟩ = some (.int .i64 b) := ⟨cellB hq0 BL.out, cellB hq1 BL.out, cellB hq2 BL.out, cellB hq3 BL.out⟩
            try simp only [Act.put]
            refine wpAnyT_ready [8] (by kernel_rfl) (by simp) ?_
            refine AllReadyT.cons rfl (fun K hK => ?_) AllReadyT.nil
            refine Eq.mpr (if_pos ?_) ?_
            · rfl
            have hs8 := BL.out.size
            refine wp_append_src _ _ _ 22 rfl v2.heap.size 27 tj (.agg #[.int .i64 0, .int .i64 0]) 2 16 undAR HJF.out HY0.out HY1.out HY2.out rfl (by decide) _ _ _ rfl OWN.out (some ⟨BNg, 0, none⟩) 1 1 [.int .i64 a, .int .i64 b] rfl ⟨rfl, .inr ⟨_, rfl, fun jj uu hu => by rw [addr_add, Nat.zero_add, BN.out.cell]; simpa using hu⟩⟩ (one2' a b) (by unfold maxLen; omega) (by omega) hs8 ?_
            intro vo2 V7 own gr _
            replace BX := Lib.hid (Blk.grown BX.out OWN.out (by decide) gr)
            replace BL := Lib.hid (below_owns OWN.out gr BL.out hs8)
            clear OWN
            obtain ⟨xa2, xc2, rfl⟩ := owns_slice own
            have OWN := Lib.hid own
            clear own gr hs8
            refine hK.out _ _ (fun _ => ⟨cellB hq0 BL.out, cellB hq1 BL.out, cellB hq2 BL.out, cellB hq3 BL.out⟩) (fun _ => ?_)
            clear hK K
            replace inv := HeadM.step inv 8 (by kernel_rfl) (by omega)
            clear hS
            have hS : V7.cell? ⟨w.heap.size, 0, none⟩ = some (.int .i64 y.load) ∧ V7.cell? ⟨w.heap.size, 1, none⟩ = some (.slice sa y.logs.length cap) ∧ V7.cell? ⟨w.heap.size + 1, 0, none⟩ = some (.int .i64 a) ∧ V7.cell? ⟨w.heap.size + 1, 1, none⟩ = some (.int .i64 b) := ⟨cellB hq0 BL.out, cellB hq1 BL.out, cellB hq2 BL.out, cellB hq3 BL.out⟩
            try simp only [Act.put]
            refine wpAnyT_take inv (by kernel_rfl) (by omega) (i := 9) (v := .agg #[.int .i64 y.load, .slice xa2 (y.logs.length + 1) xc2]) rfl (by kernel_rfl) (by kernel_rfl) (fun _ _ _ h => h) (Or.inl ⟨by kernel_rfl, ?_⟩) (by assumption) ?_
            · rintro W' ⟨q0, q1, q2, q3⟩
              go_simp
            intro inv2
            clear inv
            have inv := inv2
            clear inv2
            simp only [Act.put]
            refine wpAnyT_chain (fuel := 1) rfl (by kernel_rfl) ?_
            simp only [List.drop_succ_cons, List.drop_zero]
            clear inv hS HQX
            have x0 := BX.out.cell 0
            have x1 := BX.out.cell 1
            have xf := BX.out.frozen
            have xl := BX.out.lt
            simp at x0 x1
            go_wp2_with fail
            go_meet
            have BX2 := (BX.out.set (j := 0) (.int .i64 y.load)).set (j := 1) (.slice xa2 (y.logs.length + 1) xc2)
            refine ⟨BXg, xa2, xc2, rfl, BXl, BX2, ?_, (BL.out.setCell BXl (p := ⟨BXg, 0, none⟩) _).setCell BXl (p := ⟨BXg, 1, none⟩) _⟩
            have ho := Row.of_owns (owns_set (owns_set OWN.out BX.out (by decide) 0 (.int .i64 y.load)) (BX.out.set (j := 0) (.int .i64 y.load)) (by decide) 1 (.slice xa2 (y.logs.length + 1) xc2))
            exact by rw [pairCells_app]; exact ho
          refine AllReadyT.cons rfl (fun K hK => ?_) AllReadyT.nil
          go_simp
          have hb4 := below1 V2 (.cells #[.int .i64 0, .slice none 0 0] 24)
          have BX := Lib.hid (Blk.new V2 (.cells #[.int .i64 0, .slice none 0 0] 24))
          have BXl := BL.out.size
          replace OWN := Lib.hid (owns_below OWN.out hb4)
          replace BL := Lib.hid (bC BL.out hb4)
          generalize V2.heap.size = BXg at *
          generalize V2.alloc (.cells #[.int .i64 0, .slice none 0 0] 24) = V8 at *
          clear hb4
          refine hK.out _ _ (fun _ => ⟨cellB hq0 BL.out, cellB hq1 BL.out, cellB hq2 BL.out, cellB hq3 BL.out⟩) (fun _ => ?_)
          clear hK K
          replace inv := HeadM.step inv 10 (by kernel_rfl) (by omega)
          clear hS
          have hS : V8.cell? ⟨w.heap.size, 0, none⟩ = some (.int .i64 y.load) ∧ V8.cell? ⟨w.heap.size, 1, none⟩ = some (.slice sa y.logs.length cap) ∧ V8.cell? ⟨w.heap.size + 1, 0, none⟩ = some (.int .i64 a) ∧ V8.cell? ⟨w.heap.size + 1, 1, none⟩ = some (.int .i64 b) := ⟨cellB hq0 BL.out, cellB hq1 BL.out, cellB hq2 BL.out, cellB hq3 BL.out⟩
          try simp only [Act.put]
          refine wpAnyT_ready [7] (by kernel_rfl) (by simp) ?_
          refine AllReadyT.cons rfl (fun K hK => ?_) AllReadyT.nil
          go_simp
          have hb4 := below1 V8 (.cells #[.int .i64 a, .int .i64 b] 27)
          have BN := Lib.hid (Blk.new V8 (.cells #[.int .i64 a, .int .i64 b] 27))
          have BNl := BL.out.size
          replace BX := Lib.hid (BX.out.below hb4)
          replace OWN := Lib.hid (owns_below OWN.out hb4)
          replace BL := Lib.hid (bC BL.out hb4)
          generalize V8.heap.size = BNg at *
          generalize V8.alloc (.cells #[.int .i64 a, .int .i64 b] 27) = V9 at *
          clear hb4
          refine hK.out _ _ (fun _ => ⟨cellB hq0 BL.out, cellB hq1 BL.out, cellB hq2 BL.out, cellB hq3 BL.out⟩) (fun _ => ?_)
          clear hK K
          replace inv := HeadM.step inv 7 (by kernel_rfl) (by omega)
          clear hS
          have hS : V9.cell? ⟨w.heap.size, 0, none⟩ = some (.int .i64 y.load) ∧ V9.cell? ⟨w.heap.size, 1, none⟩ = some (.slice sa y.logs.length cap) ∧ V9.cell? ⟨w.heap.size + 1, 0, none⟩ = some (.int .i64 a) ∧ V9.cell? ⟨w.heap.size + 1, 1, none⟩ = some (.int .i64 b) := ⟨cellB hq0 BL.out, cellB hq1 BL.out, cellB hq2 BL.out, cellB hq3 BL.out⟩
          try simp only [Act.put]
          refine wpAnyT_ready [8] (by kernel_rfl) (by simp) ?_
          refine AllReadyT.cons rfl (fun K hK => ?_) AllReadyT.nil
          refine Eq.mpr (if_pos ?_) ?_
          · rfl
          have hs8 := BL.out.size
          refine wp_append_src _ _ _ 22 rfl v2.heap.size 27 tj (.agg #[.int .i64 0, .int .i64 0]) 2 16 undAR HJF.out HY0.out HY1.out HY2.out rfl (by decide) _ _ _ rfl OWN.out (some ⟨BNg, 0, none⟩) 1 1 [.int .i64 a, .int .i64 b] rfl ⟨rfl, .inr ⟨_, rfl, fun jj uu hu => by rw [addr_add, Nat.zero_add, BN.out.cell]; simpa using hu⟩⟩ (one2' a b) (by unfold maxLen; omega) (by omega) hs8 ?_
          intro vo2 V10 own gr _
          replace BX := Lib.hid (Blk.grown BX.out OWN.out (by decide) gr)
          replace BL := Lib.hid (below_owns OWN.out gr BL.out hs8)
          clear OWN
          obtain ⟨xa2, xc2, rfl⟩ := owns_slice own
          have OWN := Lib.hid own
          clear own gr hs8
          refine hK.out _ _ (fun _ => ⟨cellB hq0 BL.out, cellB hq1 BL.out, cellB hq2 BL.out, cellB hq3 BL.out⟩) (fun _ => ?_)
          clear hK K
          replace inv := HeadM.step inv 8 (by kernel_rfl) (by omega)
          clear hS
          have hS : V10.cell? ⟨w.heap.size, 0, none⟩ = some (.int .i64 y.load) ∧ V10.cell? ⟨w.heap.size, 1, none⟩ = some (.slice sa y.logs.length cap) ∧ V10.cell? ⟨w.heap.size + 1, 0, none⟩ = some (.int .i64 a) ∧ V10.cell? ⟨w.heap.size + 1, 1, none⟩ = some (.int .i64 b) := ⟨cellB hq0 BL.out, cellB hq1 BL.out, cellB hq2 BL.out, cellB hq3 BL.out⟩
          try simp only [Act.put]
          refine wpAnyT_take inv (by kernel_rfl) (by omega) (i := 9) (v := .agg #[.int .i64 y.load, .slice xa2 (y.logs.length + 1) xc2]) rfl (by kernel_rfl) (by kernel_rfl) (fun _ _ _ h => h) (Or.inl ⟨by kernel_rfl, ?_⟩) (by assumption) ?_
          · rintro W' ⟨q0, q1, q2, q3⟩
            go_simp
          intro inv2
          clear inv
          have inv := inv2
          clear inv2
          simp only [Act.put]
          refine wpAnyT_chain (fuel := 1) rfl (by kernel_rfl) ?_
          simp only [List.drop_succ_cons, List.drop_zero]
          clear inv hS HQX
          have x0 := BX.out.cell 0
          have x1 := BX.out.cell 1
          have xf := BX.out.frozen
          have xl := BX.out.lt
          simp at x0 x1
          go_wp2_with fail
          go_meet
          have BX2 := (BX.out.set (j := 0) (.int .i64 y.load)).set (j := 1) (.slice xa2 (y.logs.length + 1) xc2)
          refine ⟨BXg, xa2, xc2, rfl, BXl, BX2, ?_, (BL.out.setCell BXl (p := ⟨BXg, 0, none⟩) _).setCell BXl (p := ⟨BXg, 1, none⟩) _⟩
          have ho := Row.of_owns (owns_set (owns_set OWN.out BX.out (by decide) 0 (.int .i64 y.load)) (BX.out.set (j := 0) (.int .i64 y.load)) (by decide) 1 (.slice xa2 (y.logs.length + 1) xc2))
          exact by rw [pairCells_app]; exact ho
        refine AllReadyT.cons rfl (fun K hK => ?_) ?_
        ·
          go_simp
          have hb4 := below1 V0 (.cells #[.int .i64 a, .int .i64 b] 27)
          have BN := Lib.hid (Blk.new V0 (.cells #[.int .i64 a, .int .i64 b] 27))
          have BNl := BL.out.size
          replace OWN := Lib.hid (owns_below OWN.out hb4)
          replace BL := Lib.hid (bC BL.out hb4)
          generalize V0.heap.size = BNg at *
          generalize V0.alloc (.cells #[.int .i64 a, .int .i64 b] 27) = V11 at *
          clear hb4
          refine hK.out _ _ (fun _ => ⟨cellB hq0 BL.out, cellB hq1 BL.out, cellB hq2 BL.out, cellB hq3 BL.out⟩) (fun _ => ?_)
          clear hK K
          replace inv := HeadM.step inv 7 (by kernel_rfl) (by omega)
          clear hS
          have hS : V11.cell? ⟨w.heap.size, 0, none⟩ = some (.int .i64 y.load) ∧ V11.cell? ⟨w.heap.size, 1, none⟩ = some (.slice sa y.logs.length cap) ∧ V11.cell? ⟨w.heap.size + 1, 0, none⟩ = some (.int .i64 a) ∧ V11.cell? ⟨w.heap.size + 1, 1, none⟩ = some (.int .i64 b) := ⟨cellB hq0 BL.out, cellB hq1 BL.out, cellB hq2 BL.out, cellB hq3 BL.out⟩
          try simp only [Act.put]
          refine wpAnyT_ready [5, 10] (by kernel_rfl) (by simp) ?_
          refine AllReadyT.cons rfl (fun K hK => ?_) ?_
          ·
            refine Eq.mpr (if_pos ?_) ?_
            · rfl
            have hs8 := BL.out.size
            refine wp_append_src _ _ _ 22 rfl v2.heap.size 27 tj (.agg #[.int .i64 0, .int .i64 0]) 2 16 undAR HJF.out HY0.out HY1.out HY2.out rfl (by decide) _ _ _ rfl OWN.out sa y.logs.length cap (pairCells y.logs) rfl (src_pairs (HPS.out.below BL.out)) (fun u hu => pairCells_one hu) (by unfold maxLen; omega) (by omega) hs8 ?_
            intro vo1 V12 own gr _
            replace BN := Lib.hid (show Blk _ BNg (.cells #[.int .i64 a, .int .i64 b] 27) from (gr.block BNg BN.out.lt (fun h => by cases (show (some BNg : Option Nat) = none from h))).trans BN.out)
            replace BL := Lib.hid (below_owns OWN.out gr BL.out hs8)
            clear OWN
            rw [Nat.zero_add, List.nil_append] at own
            obtain ⟨xa1, xc1, rfl⟩ := owns_slice own
            have OWN := Lib.hid own
            clear own gr hs8
            refine hK.out _ _ (fun _ => ⟨cellB hq0 BL.out, cellB hq1 BL.out, cellB hq2 BL.out, cellB hq3 BL.out⟩) (fun _ => ?_)
            clear hK K
            replace inv := HeadM.step inv 5 (by kernel_rfl) (by omega)
            clear hS
            have hS : V12.cell? ⟨w.heap.size, 0, none⟩ = some (.int .i64 y.load) ∧ V12.cell? ⟨w.heap.size, 1, none⟩ = some (.slice sa y.logs.length cap) ∧ V12.cell? ⟨w.heap.size + 1, 0, none⟩ = some (.int .i64 a) ∧ V12.cell? ⟨w.heap.size + 1, 1, none⟩ = some (.int .i64 b) := ⟨cellB hq0 BL.out, cellB hq1 BL.out, cellB hq2 BL.out, cellB hq3 BL.out⟩
            try simp only [Act.put]
            refine wpAnyT_ready [8, 10] (by kernel_rfl) (by simp) ?_
            refine AllReadyT.cons rfl (fun K hK => ?_) ?_
            ·
              refine Eq.mpr (if_pos ?_) ?_
              · rfl
              have hs8 := BL.out.size
              refine wp_append_src _ _ _ 22 rfl v2.heap.size 27 tj (.agg #[.int .i64 0, .int .i64 0]) 2 16 undAR HJF.out HY0.out HY1.out HY2.out rfl (by decide) _ _ _ rfl OWN.out (some ⟨BNg, 0, none⟩) 1 1 [.int .i64 a, .int .i64 b] rfl ⟨rfl, .inr ⟨_, rfl, fun jj uu hu => by rw [addr_add, Nat.zero_add, BN.out.cell]; simpa using hu⟩⟩ (one2' a b) (by unfold maxLen; omega) (by omega) hs8 ?_
              intro vo2 V13 own gr _
              replace BL := Lib.hid (below_owns OWN.out gr BL.out hs8)
              clear OWN
              obtain ⟨xa2, xc2, rfl⟩ := owns_slice own
              have OWN := Lib.hid own
              clear own gr hs8
              refine hK.out _ _ (fun _ => ⟨cellB hq0 BL.out, cellB hq1 BL.out, cellB hq2 BL.out, cellB hq3 BL.out⟩) (fun _ => ?_)
              clear hK K
              replace inv := HeadM.step inv 8 (by kernel_rfl) (by omega)
              clear hS
              have hS : V13.cell? ⟨w.heap.size, 0, none⟩ = some (.int .i64 y.load) ∧ V13.cell? ⟨w.heap.size, 1, none⟩ = some (.slice sa y.logs.length cap) ∧ V13.cell? ⟨w.heap.size + 1, 0, none⟩ = some (.int .i64 a) ∧ V13.cell? ⟨w.heap.size + 1, 1, none⟩ = some (.int .i64 b) := ⟨cellB hq0 BL.out, cellB hq1 BL.out, cellB hq2 BL.out, cellB hq3 BL.out⟩
              try simp only [Act.put]
              refine wpAnyT_take inv (by kernel_rfl) (by omega) (i := 9) (v := .agg #[.int .i64 y.load, .slice xa2 (y.logs.length + 1) xc2]) rfl (by kernel_rfl) (by kernel_rfl) (fun _ _ _ h => h) (Or.inl ⟨by kernel_rfl, ?_⟩) (by assumption) ?_
              · rintro W' ⟨q0, q1, q2, q3⟩
                go_simp
              intro inv2
              clear inv
              have inv := inv2
              clear inv2
              simp only [Act.put]
              refine wpAnyT_ready [10] (by kernel_rfl) (by simp) ?_
              refine AllReadyT.cons rfl (fun K hK => ?_) AllReadyT.nil
              go_simp
              have hb4 := below1 V13 (.cells #[.int .i64 0, .slice none 0 0] 24)
              have BX := Lib.hid (Blk.new V13 (.cells #[.int .i64 0, .slice none 0 0] 24))
              have BXl := BL.out.size
              replace OWN := Lib.hid (owns_below OWN.out hb4)
              replace BL := Lib.hid (bC BL.out hb4)
              generalize V13.heap.size = BXg at *
              generalize V13.alloc (.cells #[.int .i64 0, .slice none 0 0] 24) = V14 at *
              clear hb4
              refine hK.out _ _ (fun _ => ⟨cellB hq0 BL.out, cellB hq1 BL.out, cellB hq2 BL.out, cellB hq3 BL.out⟩) (fun _ => ?_)
              clear hK K
              replace inv := HeadM.step inv 10 (by kernel_rfl) (by omega)
              clear hS
              have hS : V14.cell? ⟨w.heap.size, 0, none⟩ = some (.int .i64 y.load) ∧ V14.cell? ⟨w.heap.size, 1, none⟩ = some (.slice sa y.logs.length cap) ∧ V14.cell? ⟨w.heap.size + 1, 0, none⟩ = some (.int .i64 a) ∧ V14.cell? ⟨w.heap.size + 1, 1, none⟩ = some (.int .i64 b) := ⟨cellB hq0 BL.out, cellB hq1 BL.out, cellB hq2 BL.out, cellB hq3 BL.out⟩
              try simp only [Act.put]
              refine wpAnyT_chain (fuel := 1) rfl (by kernel_rfl) ?_
              simp only [List.drop_succ_cons, List.drop_zero]
              clear inv hS HQX
              have x0 := BX.out.cell 0
              have x1 := BX.out.cell 1
              have xf := BX.out.frozen
              have xl := BX.out.lt
              simp at x0 x1
              go_wp2_with fail
              go_meet
              have BX2 := (BX.out.set (j := 0) (.int .i64 y.load)).set (j := 1) (.slice xa2 (y.logs.length + 1) xc2)
              refine ⟨BXg, xa2, xc2, rfl, BXl, BX2, ?_, (BL.out.setCell BXl (p := ⟨BXg, 0, none⟩) _).setCell BXl (p := ⟨BXg, 1, none⟩) _⟩
              have ho := Row.of_owns (owns_set (owns_set OWN.out BX.out (by decide) 0 (.int .i64 y.load)) (BX.out.set (j := 0) (.int .i64 y.load)) (by decide) 1 (.slice xa2 (y.logs.length + 1) xc2))
              exact by rw [pairCells_app]; exact ho
            refine AllReadyT.cons rfl (fun K hK => ?_) AllReadyT.nil
            go_simp
            have hb4 := below1 V12 (.cells #[.int .i64 0, .slice none 0 0] 24)
            have BX := Lib.hid (Blk.new V12 (.cells #[.int .i64 0, .slice none 0 0] 24))
            have BXl := BL.out.size
            replace BN := Lib.hid (BN.out.below hb4)
            replace OWN := Lib.hid (owns_below OWN.out hb4)
            replace BL := Lib.hid (bC BL.out hb4)
            generalize V12.heap.size = BXg at *
            generalize V12.alloc (.cells #[.int .i64 0, .slice none 0 0] 24) = V15 at *
            clear hb4
            refine hK.out _ _ (fun _ => ⟨cellB hq0 BL.out, cellB hq1 BL.out, cellB hq2 BL.out, cellB hq3 BL.out⟩) (fun _ => ?_)
            clear hK K
            replace inv := HeadM.step inv 10 (by kernel_rfl) (by omega)
            clear hS
            have hS : V15.cell? ⟨w.heap.size, 0, none⟩ = some (.int .i64 y.load) ∧ V15.cell? ⟨w.heap.size, 1, none⟩ = some (.slice sa y.logs.length cap) ∧ V15.cell? ⟨w.heap.size + 1, 0, none⟩ = some (.int .i64 a) ∧ V15.cell? ⟨w.heap.size + 1, 1, none⟩ = some (.int .i64 b) := ⟨cellB hq0 BL.out, cellB hq1 BL.out, cellB hq2 BL.out, cellB hq3 BL.out⟩
            try simp only [Act.put]
            refine wpAnyT_ready [8] (by kernel_rfl) (by simp) ?_
            refine AllReadyT.cons rfl (fun K hK => ?_) AllReadyT.nil
            refine Eq.mpr (if_pos ?_) ?_
            · rfl
            have hs8 := BL.out.size
            refine wp_append_src _ _ _ 22 rfl v2.heap.size 27 tj (.agg #[.int .i64 0, .int .i64 0]) 2 16 undAR HJF.out HY0.out HY1.out HY2.out rfl (by decide) _ _ _ rfl OWN.out (some ⟨BNg, 0, none⟩) 1 1 [.int .i64 a, .int .i64 b] rfl ⟨rfl, .inr ⟨_, rfl, fun jj uu hu => by rw [addr_add, Nat.zero_add, BN.out.cell]; simpa using hu⟩⟩ (one2' a b) (by unfold maxLen; omega) (by omega) hs8 ?_
            intro vo2 V16 own gr _
            replace BX := Lib.hid (Blk.grown BX.out OWN.out (by decide) gr)
            replace BL := Lib.hid (below_owns OWN.out gr BL.out hs8)
            clear OWN
            obtain ⟨xa2, xc2, rfl⟩ := owns_slice own
            have OWN := Lib.hid own
            clear own gr hs8
            refine hK.out _ _ (fun _ => ⟨cellB hq0 BL.out, cellB hq1 BL.out, cellB hq2 BL.out, cellB hq3 BL.out⟩) (fun _ => ?_)
            clear hK K
            replace inv := HeadM.step inv 8 (by kernel_rfl) (by omega)
            clear hS
            have hS : V16.cell? ⟨w.heap.size, 0, none⟩ = some (.int .i64 y.load) ∧ V16.cell? ⟨w.heap.size, 1, none⟩ = some (.slice sa y.logs.length cap) ∧ V16.cell? ⟨w.heap.size + 1, 0, none⟩ = some (.int .i64 a) ∧ V16.cell? ⟨w.heap.size + 1, 1, none⟩ = some (.int .i64 b) := ⟨cellB hq0 BL.out, cellB hq1 BL.out, cellB hq2 BL.out, cellB hq3 BL.out⟩
            try simp only [Act.put]
            refine wpAnyT_take inv (by kernel_rfl) (by omega) (i := 9) (v := .agg #[.int .i64 y.load, .slice xa2 (y.logs.length + 1) xc2]) rfl (by kernel_rfl) (by kernel_rfl) (fun _ _ _ h => h) (Or.inl ⟨by kernel_rfl, ?_⟩) (by assumption) ?_
            · rintro W' ⟨q0, q1, q2, q3⟩
              go_simp
            intro inv2
            clear inv
            have inv := inv2
            clear inv2
            simp only [Act.put]
            refine wpAnyT_chain (fuel := 1) rfl (by kernel_rfl) ?_
            simp only [List.drop_succ_cons, List.drop_zero]
            clear inv hS HQX
            have x0 := BX.out.cell 0
            have x1 := BX.out.cell 1
            have xf := BX.out.frozen
            have xl := BX.out.lt
            simp at x0 x1
            go_wp2_with fail
            go_meet
            have BX2 := (BX.out.set (j := 0) (.int .i64 y.load)).set (j := 1) (.slice xa2 (y.logs.length + 1) xc2)
            refine ⟨BXg, xa2, xc2, rfl, BXl, BX2, ?_, (BL.out.setCell BXl (p := ⟨BXg, 0, none⟩) _).setCell BXl (p := ⟨BXg, 1, none⟩) _⟩
            have ho := Row.of_owns (owns_set (owns_set OWN.out BX.out (by decide) 0 (.int .i64 y.load)) (BX.out.set (j := 0) (.int .i64 y.load)) (by decide) 1 (.slice xa2 (y.logs.length + 1) xc2))
            exact by rw [pairCells_app]; exact ho
          refine AllReadyT.cons rfl (fun K hK => ?_) AllReadyT.nil
          go_simp
          have hb4 := below1 V11 (.cells #[.int .i64 0, .slice none 0 0] 24)
          have BX := Lib.hid (Blk.new V11 (.cells #[.int .i64 0, .slice none 0 0] 24))
          have BXl := BL.out.size
          replace BN := Lib.hid (BN.out.below hb4)
          replace OWN := Lib.hid (owns_below OWN.out hb4)
          replace BL := Lib.hid (bC BL.out hb4)
          generalize V11.heap.size = BXg at *
          generalize V11.alloc (.cells #[.int .i64 0, .slice none 0 0] 24) = V17 at *
          clear hb4
          refine hK.out _ _ (fun _ => ⟨cellB hq0 BL.out, cellB hq1 BL.out, cellB hq2 BL.out, cellB hq3 BL.out⟩) (fun _ => ?_)
          clear hK K
          replace inv := HeadM.step inv 10 (by kernel_rfl) (by omega)
          clear hS
          have hS : V17.cell? ⟨w.heap.size, 0, none⟩ = some (.int .i64 y.load) ∧ V17.cell? ⟨w.heap.size, 1, none⟩ = some (.slice sa y.logs.length cap) ∧ V17.cell? ⟨w.heap.size + 1, 0, none⟩ = some (.int .i64 a) ∧ V17.cell? ⟨w.heap.size + 1, 1, none⟩ = some (.int .i64 b) := ⟨cellB hq0 BL.out, cellB hq1 BL.out, cellB hq2 BL.out, cellB hq3 BL.out⟩
          try simp only [Act.put]
          refine wpAnyT_ready [5] (by kernel_rfl) (by simp) ?_
          refine AllReadyT.cons rfl (fun K hK => ?_) AllReadyT.nil
          refine Eq.mpr (if_pos ?_) ?_
          · rfl
          have hs8 := BL.out.size
          refine wp_append_src _ _ _ 22 rfl v2.heap.size 27 tj (.agg #[.int .i64 0, .int .i64 0]) 2 16 undAR HJF.out HY0.out HY1.out HY2.out rfl (by decide) _ _ _ rfl OWN.out sa y.logs.length cap (pairCells y.logs) rfl (src_pairs (HPS.out.below BL.out)) (fun u hu => pairCells_one hu) (by unfold maxLen; omega) (by omega) hs8 ?_
          intro vo1 V18 own gr _
          replace BN := Lib.hid (show Blk _ BNg (.cells #[.int .i64 a, .int .i64 b] 27) from (gr.block BNg BN.out.lt (fun h => by cases (show (some BNg : Option Nat) = none from h))).trans BN.out)
          replace BX := Lib.hid (Blk.grown BX.out OWN.out (by decide) gr)
          replace BL := Lib.hid (below_owns OWN.out gr BL.out hs8)
          clear OWN
          rw [Nat.zero_add, List.nil_append] at own
          obtain ⟨xa1, xc1, rfl⟩ := owns_slice own
          have OWN := Lib.hid own
          clear own gr hs8
          refine hK.out _ _ (fun _ => ⟨cellB hq0 BL.out, cellB hq1 BL.out, cellB hq2 BL.out, cellB hq3 BL.out⟩) (fun _ => ?_)
          clear hK K
          replace inv := HeadM.step inv 5 (by kernel_rfl) (by omega)
          clear hS
          have hS : V18.cell? ⟨w.heap.size, 0, none⟩ = some (.int .i64 y.load) ∧ V18.cell? ⟨w.heap.size, 1, none⟩ = some (.slice sa y.logs.length cap) ∧ V18.cell? ⟨w.heap.size + 1, 0, none⟩ = some (.int .i64 a) ∧ V18.cell? ⟨w.heap.size + 1, 1, none⟩ = some (.int .i64 b) := ⟨cellB hq0 BL.out, cellB hq1 BL.out, cellB hq2 BL.out, cellB hq3 BL.out⟩
          try simp only [Act.put]
          refine wpAnyT_ready [8] (by kernel_rfl) (by simp) ?_
          refine AllReadyT.cons rfl (fun K hK => ?_) AllReadyT.nil
          refine Eq.mpr (if_pos ?_) ?_
          · rfl
          have hs8 := BL.out.size
          refine wp_append_src _ _ _ 22 rfl v2.heap.size 27 tj (.agg #[.int .i64 0, .int .i64 0]) 2 16 undAR HJF.out HY0.out HY1.out HY2.out rfl (by decide) _ _ _ rfl OWN.out (some ⟨BNg, 0, none⟩) 1 1 [.int .i64 a, .int .i64 b] rfl ⟨rfl, .inr ⟨_, rfl, fun jj uu hu => by rw [addr_add, Nat.zero_add, BN.out.cell]; simpa using hu⟩⟩ (one2' a b) (by unfold maxLen; omega) (by omega) hs8 ?_
          intro vo2 V19 own gr _
          replace BX := Lib.hid (Blk.grown BX.out OWN.out (by decide) gr)
          replace BL := Lib.hid (below_owns OWN.out gr BL.out hs8)
          clear OWN
          obtain ⟨xa2, xc2, rfl⟩ := owns_slice own
          have OWN := Lib.hid own
          clear own gr hs8
          refine hK.out _ _ (fun _ => ⟨cellB hq0 BL.out, cellB hq1 BL.out, cellB hq2 BL.out, cellB hq3 BL.out⟩) (fun _ => ?_)
          clear hK K
          replace inv := HeadM.step inv 8 (by kernel_rfl) (by omega)
          clear hS
          have hS : V19.cell? ⟨w.heap.size, 0, none⟩ = some (.int .i64 y.load) ∧ V19.cell? ⟨w.heap.size, 1, none⟩ = some (.slice sa y.logs.length cap) ∧ V19.cell? ⟨w.heap.size + 1, 0, none⟩ = some (.int .i64 a) ∧ V19.cell? ⟨w.heap.size + 1, 1, none⟩ = some (.int .i64 b) := ⟨cellB hq0 BL.out, cellB hq1 BL.out, cellB hq2 BL.out, cellB hq3 BL.out⟩
          try simp only [Act.put]
          refine wpAnyT_take inv (by kernel_rfl) (by omega) (i := 9) (v := .agg #[.int .i64 y.load, .slice xa2 (y.logs.length + 1) xc2]) rfl (by kernel_rfl) (by kernel_rfl) (fun _ _ _ h => h) (Or.inl ⟨by kernel_rfl, ?_⟩) (by assumption) ?_
          · rintro W' ⟨q0, q1, q2, q3⟩
            go_simp
          intro inv2
          clear inv
          have inv := inv2
          clear inv2
          simp only [Act.put]
          refine wpAnyT_chain (fuel := 1) rfl (by kernel_rfl) ?_
          simp only [List.drop_succ_cons, List.drop_zero]
          clear inv hS HQX
          have x0 := BX.out.cell 0
          have x1 := BX.out.cell 1
          have xf := BX.out.frozen
          have xl := BX.out.lt
          simp at x0 x1
          go_wp2_with fail
          go_meet
          have BX2 := (BX.out.set (j := 0) (.int .i64 y.load)).set (j := 1) (.slice xa2 (y.logs.length + 1) xc2)
          refine ⟨BXg, xa2, xc2, rfl, BXl, BX2, ?_, (BL.out.setCell BXl (p := ⟨BXg, 0, none⟩) _).setCell BXl (p := ⟨BXg, 1, none⟩) _⟩
          have ho := Row.of_owns (owns_set (owns_set OWN.out BX.out (by decide) 0 (.int .i64 y.load)) (BX.out.set (j := 0) (.int .i64 y.load)) (by decide) 1 (.slice xa2 (y.logs.length + 1) xc2))
          exact by rw [pairCells_app]; exact ho
        refine AllReadyT.cons rfl (fun K hK => ?_) AllReadyT.nil
        go_simp
        have hb4 := below1 V0 (.cells #[.int .i64 0, .slice none 0 0] 24)
        have BX := Lib.hid (Blk.new V0 (.cells #[.int .i64 0, .slice none 0 0] 24))
        have BXl := BL.out.size
        replace OWN := Lib.hid (owns_below OWN.out hb4)
        replace BL := Lib.hid (bC BL.out hb4)
        generalize V0.heap.size = BXg at *
        generalize V0.alloc (.cells #[.int .i64 0, .slice none 0 0] 24) = V20 at *
        clear hb4
        refine hK.out _ _ (fun _ => ⟨cellB hq0 BL.out, cellB hq1 BL.out, cellB hq2 BL.out, cellB hq3 BL.out⟩) (fun _ => ?_)
        clear hK K
        replace inv := HeadM.step inv 10 (by kernel_rfl) (by omega)
        clear hS
        have hS : V20.cell? ⟨w.heap.size, 0, none⟩ = some (.int .i64 y.load) ∧ V20.cell? ⟨w.heap.size, 1, none⟩ = some (.slice sa y.logs.length cap) ∧ V20.cell? ⟨w.heap.size + 1, 0, none⟩ = some (.int .i64 a) ∧ V20.cell? ⟨w.heap.size + 1, 1, none⟩ = some (.int .i64 b) := ⟨cellB hq0 BL.out, cellB hq1 BL.out, cellB hq2 BL.out, cellB hq3 BL.out⟩
        try simp only [Act.put]
        refine wpAnyT_ready [5, 7] (by kernel_rfl) (by simp) ?_
        refine AllReadyT.cons rfl (fun K hK => ?_) ?_
        ·
          refine Eq.mpr (if_pos ?_) ?_
          · rfl
          have hs8 := BL.out.size
          refine wp_append_src _ _ _ 22 rfl v2.heap.size 27 tj (.agg #[.int .i64 0, .int .i64 0]) 2 16 undAR HJF.out HY0.out HY1.out HY2.out rfl (by decide) _ _ _ rfl OWN.out sa y.logs.length cap (pairCells y.logs) rfl (src_pairs (HPS.out.below BL.out)) (fun u hu => pairCells_one hu) (by unfold maxLen; omega) (by omega) hs8 ?_
          intro vo1 V21 own gr _
          replace BX := Lib.hid (Blk.grown BX.out OWN.out (by decide) gr)
          replace BL := Lib.hid (below_owns OWN.out gr BL.out hs8)
          clear OWN
          rw [Nat.zero_add, List.nil_append] at own
          obtain ⟨xa1, xc1, rfl⟩ := owns_slice own
          have OWN := Lib.hid own
          clear own gr hs8
          refine hK.out _ _ (fun _ => ⟨cellB hq0 BL.out, cellB hq1 BL.out, cellB hq2 BL.out, cellB hq3 BL.out⟩) (fun _ => ?_)
          clear hK K
          replace inv := HeadM.step inv 5 (by kernel_rfl) (by omega)
          clear hS
          have hS : V21.cell? ⟨w.heap.size, 0, none⟩ = some (.int .i64 y.load) ∧ V21.cell? ⟨w.heap.size, 1, none⟩ = some (.slice sa y.logs.length cap) ∧ V21.cell? ⟨w.heap.size + 1, 0, none⟩ = some (.int .i64 a) ∧ V21.cell? ⟨w.heap.size + 1, 1, none⟩ = some (.int .i64 b) := ⟨cellB hq0 BL.out, cellB hq1 BL.out, cellB hq2 BL.out, cellB hq3 BL.out⟩
          try simp only [Act.put]
          refine wpAnyT_ready [7] (by kernel_rfl) (by simp) ?_
          refine AllReadyT.cons rfl (fun K hK => ?_) AllReadyT.nil
          go_simp
          have hb4 := below1 V21 (.cells #[.int .i64 a, .int .i64 b] 27)
          have BN := Lib.hid (Blk.new V21 (.cells #[.int .i64 a, .int .i64 b] 27))
          have BNl := BL.out.size
          replace BX := Lib.hid (BX.out.below hb4)
          replace OWN := Lib.hid (owns_below OWN.out hb4)
          replace BL := Lib.hid (bC BL.out hb4)
          generalize V21.heap.size = BNg at *
          generalize V21.alloc (.cells #[.int .i64 a, .int .i64 b] 27) = V22 at *
          clear hb4
          refine hK.out _ _ (fun _ => ⟨cellB hq0 BL.out, cellB hq1 BL.out, cellB hq2 BL.out, cellB hq3 BL.out⟩) (fun _ => ?_)
          clear hK K
          replace inv := HeadM.step inv 7 (by kernel_rfl) (by omega)
          clear hS
          have hS : V22.cell? ⟨w.heap.size, 0, none⟩ = some (.int .i64 y.load) ∧ V22.cell? ⟨w.heap.size, 1, none⟩ = some (.slice sa y.logs.length cap) ∧ V22.cell? ⟨w.heap.size + 1, 0, none⟩ = some (.int .i64 a) ∧ V22.cell? ⟨w.heap.size + 1, 1, none⟩ = some (.int .i64 b) := ⟨cellB hq0 BL.out, cellB hq1 BL.out, cellB hq2 BL.out, cellB hq3 BL.out⟩
          try simp only [Act.put]
          refine wpAnyT_ready [8] (by kernel_rfl) (by simp) ?_
          refine AllReadyT.cons rfl (fun K hK => ?_) AllReadyT.nil
          refine Eq.mpr (if_pos ?_) ?_
          · rfl
          have hs8 := BL.out.size
          refine wp_append_src _ _ _ 22 rfl v2.heap.size 27 tj (.agg #[.int .i64 0, .int .i64 0]) 2 16 undAR HJF.out HY0.out HY1.out HY2.out rfl (by decide) _ _ _ rfl OWN.out (some ⟨BNg, 0, none⟩) 1 1 [.int .i64 a, .int .i64 b] rfl ⟨rfl, .inr ⟨_, rfl, fun jj uu hu => by rw [addr_add, Nat.zero_add, BN.out.cell]; simpa using hu⟩⟩ (one2' a b) (by unfold maxLen; omega) (by omega) hs8 ?_
          intro vo2 V23 own gr _
          replace BX := Lib.hid (Blk.grown BX.out OWN.out (by decide) gr)
          replace BL := Lib.hid (below_owns OWN.out gr BL.out hs8)
          clear OWN
          obtain ⟨xa2, xc2, rfl⟩ := owns_slice own
          have OWN := Lib.hid own
          clear own gr hs8
          refine hK.out _ _ (fun _ => ⟨cellB hq0 BL.out, cellB hq1 BL.out, cellB hq2 BL.out, cellB hq3 BL.out⟩) (fun _ => ?_)
          clear hK K
          replace inv := HeadM.step inv 8 (by kernel_rfl) (by omega)
          clear hS
          have hS : V23.cell? ⟨w.heap.size, 0, none⟩ = some (.int .i64 y.load) ∧ V23.cell? ⟨w.heap.size, 1, none⟩ = some (.slice sa y.logs.length cap) ∧ V23.cell? ⟨w.heap.size + 1, 0, none⟩ = some (.int .i64 a) ∧ V23.cell? ⟨w.heap.size + 1, 1, none⟩ = some (.int .i64 b) := ⟨cellB hq0 BL.out, cellB hq1 BL.out, cellB hq2 BL.out, cellB hq3 BL.out⟩
          try simp only [Act.put]
          refine wpAnyT_take inv (by kernel_rfl) (by omega) (i := 9) (v := .agg #[.int .i64 y.load, .slice xa2 (y.logs.length + 1) xc2]) rfl (by kernel_rfl) (by kernel_rfl) (fun _ _ _ h => h) (Or.inl ⟨by kernel_rfl, ?_⟩) (by assumption) ?_
          · rintro W' ⟨q0, q1, q2, q3⟩
            go_simp
          intro inv2
          clear inv
          have inv := inv2
          clear inv2
          simp only [Act.put]
          refine wpAnyT_chain (fuel := 1) rfl (by kernel_rfl) ?_
          simp only [List.drop_succ_cons, List.drop_zero]
          clear inv hS HQX
          have x0 := BX.out.cell 0
          have x1 := BX.out.cell 1
          have xf := BX.out.frozen
          have xl := BX.out.lt
          simp at x0 x1
          go_wp2_with fail
          go_meet
          have BX2 := (BX.out.set (j := 0) (.int .i64 y.load)).set (j := 1) (.slice xa2 (y.logs.length + 1) xc2)
          refine ⟨BXg, xa2, xc2, rfl, BXl, BX2, ?_, (BL.out.setCell BXl (p := ⟨BXg, 0, none⟩) _).setCell BXl (p := ⟨BXg, 1, none⟩) _⟩
          have ho := Row.of_owns (owns_set (owns_set OWN.out BX.out (by decide) 0 (.int .i64 y.load)) (BX.out.set (j := 0) (.int .i64 y.load)) (by decide) 1 (.slice xa2 (y.logs.length + 1) xc2))
          exact by rw [pairCells_app]; exact ho
        refine AllReadyT.cons rfl (fun K hK => ?_) AllReadyT.nil
        go_simp
        have hb4 := below1 V20 (.cells #[.int .i64 a, .int .i64 b] 27)
        have BN := Lib.hid (Blk.new V20 (.cells #[.int .i64 a, .int .i64 b] 27))
        have BNl := BL.out.size
        replace BX := Lib.hid (BX.out.below hb4)
        replace OWN := Lib.hid (owns_below OWN.out hb4)
        replace BL := Lib.hid (bC BL.out hb4)
        generalize V20.heap.size = BNg at *
        generalize V20.alloc (.cells #[.int .i64 a, .int .i64 b] 27) = V24 at *
        clear hb4
        refine hK.out _ _ (fun _ => ⟨cellB hq0 BL.out, cellB hq1 BL.out, cellB hq2 BL.out, cellB hq3 BL.out⟩) (fun _ => ?_)
        clear hK K
        replace inv := HeadM.step inv 7 (by kernel_rfl) (by omega)
        clear hS
        have hS : V24.cell? ⟨w.heap.size, 0, none⟩ = some (.int .i64 y.load) ∧ V24.cell? ⟨w.heap.size, 1, none⟩ = some (.slice sa y.logs.length cap) ∧ V24.cell? ⟨w.heap.size + 1, 0, none⟩ = some (.int .i64 a) ∧ V24.cell? ⟨w.heap.size + 1, 1, none⟩ = some (.int .i64 b) := ⟨cellB hq0 BL.out, cellB hq1 BL.out, cellB hq2 BL.out, cellB hq3 BL.out⟩
        try simp only [Act.put]
        refine wpAnyT_ready [5] (by kernel_rfl) (by simp) ?_
        refine AllReadyT.cons rfl (fun K hK => ?_) AllReadyT.nil
        refine Eq.mpr (if_pos ?_) ?_
        · rfl
        have hs8 := BL.out.size
        refine wp_append_src _ _ _ 22 rfl v2.heap.size 27 tj (.agg #[.int .i64 0, .int .i64 0]) 2 16 undAR HJF.out HY0.out HY1.out HY2.out rfl (by decide) _ _ _ rfl OWN.out sa y.logs.length cap (pairCells y.logs) rfl (src_pairs (HPS.out.below BL.out)) (fun u hu => pairCells_one hu) (by unfold maxLen; omega) (by omega) hs8 ?_
        intro vo1 V25 own gr _
        replace BN := Lib.hid (show Blk _ BNg (.cells #[.int .i64 a, .int .i64 b] 27) from (gr.block BNg BN.out.lt (fun h => by cases (show (some BNg : Option Nat) = none from h))).trans BN.out)
        replace BX := Lib.hid (Blk.grown BX.out OWN.out (by decide) gr)
        replace BL := Lib.hid (below_owns OWN.out gr BL.out hs8)
        clear OWN
        rw [Nat.zero_add, List.nil_append] at own
        obtain ⟨xa1, xc1, rfl⟩ := owns_slice own
        have OWN := Lib.hid own
        clear own gr hs8
        refine hK.out _ _ (fun _ => ⟨cellB hq0 BL.out, cellB hq1 BL.out, cellB hq2 BL.out, cellB hq3 BL.out⟩) (fun _ => ?_)
        clear hK K
        replace inv := HeadM.step inv 5 (by kernel_rfl) (by omega)
        clear hS
        have hS : V25.cell? ⟨w.heap.size, 0, none⟩ = some (.int .i64 y.load) ∧ V25.cell? ⟨w.heap.size, 1, none⟩ = some (.slice sa y.logs.length cap) ∧ V25.cell? ⟨w.heap.size + 1, 0, none⟩ = some (.int .i64 a) ∧ V25.cell? ⟨w.heap.size + 1, 1, none⟩ = some (.int .i64 b) := ⟨cellB hq0 BL.out, cellB hq1 BL.out, cellB hq2 BL.out, cellB hq3 BL.out⟩
        try simp only [Act.put]
        refine wpAnyT_ready [8] (by kernel_rfl) (by simp) ?_
        refine AllReadyT.cons rfl (fun K hK => ?_) AllReadyT.nil
        refine Eq.mpr (if_pos ?_) ?_
        · rfl
        have hs8 := BL.out.size
        refine wp_append_src _ _ _ 22 rfl v2.heap.size 27 tj (.agg #[.int .i64 0, .int .i64 0]) 2 16 undAR HJF.out HY0.out HY1.out HY2.out rfl (by decide) _ _ _ rfl OWN.out (some ⟨BNg, 0, none⟩) 1 1 [.int .i64 a, .int .i64 b] rfl ⟨rfl, .inr ⟨_, rfl, fun jj uu hu => by rw [addr_add, Nat.zero_add, BN.out.cell]; simpa using hu⟩⟩ (one2' a b) (by unfold maxLen; omega) (by omega) hs8 ?_
        intro vo2 V26 own gr _
        replace BX := Lib.hid (Blk.grown BX.out OWN.out (by decide) gr)
        replace BL := Lib.hid (below_owns OWN.out gr BL.out hs8)
        clear OWN
        obtain ⟨xa2, xc2, rfl⟩ := owns_slice own
        have OWN := Lib.hid own
        clear own gr hs8
        refine hK.out _ _ (fun _ => ⟨cellB hq0 BL.out, cellB hq1 BL.out, cellB hq2 BL.out, cellB hq3 BL.out⟩) (fun _ => ?_)
        clear hK K
        replace inv := HeadM.step inv 8 (by kernel_rfl) (by omega)
        clear hS
        have hS : V26.cell? ⟨w.heap.size, 0, none⟩ = some (.int .i64 y.load) ∧ V26.cell? ⟨w.heap.size, 1, none⟩ = some (.slice sa y.logs.length cap) ∧ V26.cell? ⟨w.heap.size + 1, 0, none⟩ = some (.int .i64 a) ∧ V26.cell? ⟨w.heap.size + 1, 1, none⟩ = some (.int .i64 b) := ⟨cellB hq0 BL.out, cellB hq1 BL.out, cellB hq2 BL.out, cellB hq3 BL.out⟩
        try simp only [Act.put]
        refine wpAnyT_take inv (by kernel_rfl) (by omega) (i := 9) (v := .agg #[.int .i64 y.load, .slice xa2 (y.logs.length + 1) xc2]) rfl (by kernel_rfl) (by kernel_rfl) (fun _ _ _ h => h) (Or.inl ⟨by kernel_rfl, ?_⟩) (by assumption) ?_
        · rintro W' ⟨q0, q1, q2, q3⟩
          go_simp
        intro inv2
        clear inv
        have inv := inv2
        clear inv2
        simp only [Act.put]
        refine wpAnyT_chain (fuel := 1) rfl (by kernel_rfl) ?_
        simp only [List.drop_succ_cons, List.drop_zero]
        clear inv hS HQX
        have x0 := BX.out.cell 0
        have x1 := BX.out.cell 1
        have xf := BX.out.frozen
        have xl := BX.out.lt
        simp at x0 x1
        go_wp2_with fail
        go_meet
        have BX2 := (BX.out.set (j := 0) (.int .i64 y.load)).set (j := 1) (.slice xa2 (y.logs.length + 1) xc2)
        refine ⟨BXg, xa2, xc2, rfl, BXl, BX2, ?_, (BL.out.setCell BXl (p := ⟨BXg, 0, none⟩) _).setCell BXl (p := ⟨BXg, 1, none⟩) _⟩
        have ho := Row.of_owns (owns_set (owns_set OWN.out BX.out (by decide) 0 (.int .i64 y.load)) (BX.out.set (j := 0) (.int .i64 y.load)) (by decide) 1 (.slice xa2 (y.logs.length + 1) xc2))
        exact by rw [pairCells_app]; exact ho
      refine AllReadyT.cons rfl (fun K hK => ?_) ?_
      ·
        go_simp
        have hb4 := below1 V0 (.cells #[.int .i64 a, .int .i64 b] 27)
        have BN := Lib.hid (Blk.new V0 (.cells #[.int .i64 a, .int .i64 b] 27))
        have BNl := BL.out.size
        replace BL := Lib.hid (bC BL.out hb4)
        generalize V0.heap.size = BNg at *
        generalize V0.alloc (.cells #[.int .i64 a, .int .i64 b] 27) = V27 at *
        clear hb4
        refine hK.out _ _ (fun _ => ⟨cellB hq0 BL.out, cellB hq1 BL.out, cellB hq2 BL.out, cellB hq3 BL.out⟩) (fun _ => ?_)
        clear hK K
        replace inv := HeadM.step inv 7 (by kernel_rfl) (by omega)
        clear hS
        have hS : V27.cell? ⟨w.heap.size, 0, none⟩ = some (.int .i64 y.load) ∧ V27.cell? ⟨w.heap.size, 1, none⟩ = some (.slice sa y.logs.length cap) ∧ V27.cell? ⟨w.heap.size + 1, 0, none⟩ = some (.int .i64 a) ∧ V27.cell? ⟨w.heap.size + 1, 1, none⟩ = some (.int .i64 b) := ⟨cellB hq0 BL.out, cellB hq1 BL.out, cellB hq2 BL.out, cellB hq3 BL.out⟩
        try simp only [Act.put]
        refine wpAnyT_ready [2, 10] (by kernel_rfl) (by simp) ?_
        refine AllReadyT.cons rfl (fun K hK => ?_) ?_
        ·
          go_simp
          refine (ranges_any _ _).mono ?_
          rintro e V28 ⟨rfl, rfl⟩
          have OWN := Lib.hid (owns_nil V27 v2.heap.size 27 2)
          refine hK.out _ _ (fun _ => ⟨cellB hq0 BL.out, cellB hq1 BL.out, cellB hq2 BL.out, cellB hq3 BL.out⟩) (fun _ => ?_)
          clear hK K
          replace inv := HeadM.step inv 2 (by kernel_rfl) (by omega)
          clear hS
          have hS : V27.cell? ⟨w.heap.size, 0, none⟩ = some (.int .i64 y.load) ∧ V27.cell? ⟨w.heap.size, 1, none⟩ = some (.slice sa y.logs.length cap) ∧ V27.cell? ⟨w.heap.size + 1, 0, none⟩ = some (.int .i64 a) ∧ V27.cell? ⟨w.heap.size + 1, 1, none⟩ = some (.int .i64 b) := ⟨cellB hq0 BL.out, cellB hq1 BL.out, cellB hq2 BL.out, cellB hq3 BL.out⟩
          try simp only [Act.put]
          refine wpAnyT_ready [5, 10] (by kernel_rfl) (by simp) ?_
          refine AllReadyT.cons rfl (fun K hK => ?_) ?_
          ·
            refine Eq.mpr (if_pos ?_) ?_
            · rfl
            have hs8 := BL.out.size
            refine wp_append_src _ _ _ 22 rfl v2.heap.size 27 tj (.agg #[.int .i64 0, .int .i64 0]) 2 16 undAR HJF.out HY0.out HY1.out HY2.out rfl (by decide) _ _ _ rfl OWN.out sa y.logs.length cap (pairCells y.logs) rfl (src_pairs (HPS.out.below BL.out)) (fun u hu => pairCells_one hu) (by unfold maxLen; omega) (by omega) hs8 ?_
            intro vo1 V29 own gr _
            replace BN := Lib.hid (show Blk _ BNg (.cells #[.int .i64 a, .int .i64 b] 27) from (gr.block BNg BN.out.lt (fun h => by cases (show (some BNg : Option Nat) = none from h))).trans BN.out)
            replace BL := Lib.hid (below_owns OWN.out gr BL.out hs8)
            clear OWN
            rw [Nat.zero_add, List.nil_append] at own
            obtain ⟨xa1, xc1, rfl⟩ := owns_slice own
            have OWN := Lib.hid own
            clear own gr hs8
            refine hK.out _ _ (fun _ => ⟨cellB hq0 BL.out, cellB hq1 BL.out, cellB hq2 BL.out, cellB hq3 BL.out⟩) (fun _ => ?_)
            clear hK K
            replace inv := HeadM.step inv 5 (by kernel_rfl) (by omega)
            clear hS
            have hS : V29.cell? ⟨w.heap.size, 0, none⟩ = some (.int .i64 y.load) ∧ V29.cell? ⟨w.heap.size, 1, none⟩ = some (.slice sa y.logs.length cap) ∧ V29.cell? ⟨w.heap.size + 1, 0, none⟩ = some (.int .i64 a) ∧ V29.cell? ⟨w.heap.size + 1, 1, none⟩ = some (.int .i64 b) := ⟨cellB hq0 BL.out, cellB hq1 BL.out, cellB hq2 BL.out, cellB hq3 BL.out⟩
            try simp only [Act.put]
            refine wpAnyT_ready [8, 10] (by kernel_rfl) (by simp) ?_
            refine AllReadyT.cons rfl (fun K hK => ?_) ?_
            ·
              refine Eq.mpr (if_pos ?_) ?_
              · rfl
              have hs8 := BL.out.size
              refine wp_append_src _ _ _ 22 rfl v2.heap.size 27 tj (.agg #[.int .i64 0, .int .i64 0]) 2 16 undAR HJF.out HY0.out HY1.out HY2.out rfl (by decide) _ _ _ rfl OWN.out (some ⟨BNg, 0, none⟩) 1 1 [.int .i64 a, .int .i64 b] rfl ⟨rfl, .inr ⟨_, rfl, fun jj uu hu => by rw [addr_add, Nat.zero_add, BN.out.cell]; simpa using hu⟩⟩ (one2' a b) (by unfold maxLen; omega) (by omega) hs8 ?_
              intro vo2 V30 own gr _
              replace BL := Lib.hid (below_owns OWN.out gr BL.out hs8)
              clear OWN
              obtain ⟨xa2, xc2, rfl⟩ := owns_slice own
              have OWN := Lib.hid own
              clear own gr hs8
              refine hK.out _ _ (fun _ => ⟨cellB hq0 BL.out, cellB hq1 BL.out, cellB hq2 BL.out, cellB hq3 BL.out⟩) (fun _ => ?_)
              clear hK K
              replace inv := HeadM.step inv 8 (by kernel_rfl) (by omega)
              clear hS
              have hS : V30.cell? ⟨w.heap.size, 0, none⟩ = some (.int .i64 y.load) ∧ V30.cell? ⟨w.heap.size, 1, none⟩ = some (.slice sa y.logs.length cap) ∧ V30.cell? ⟨w.heap.size + 1, 0, none⟩ = some (.int .i64 a) ∧ V30.cell? ⟨w.heap.size + 1, 1, none⟩ = some (.int .i64 b) := ⟨cellB hq0 BL.out, cellB hq1 BL.out, cellB hq2 BL.out, cellB hq3 BL.out⟩
              try simp only [Act.put]
              refine wpAnyT_take inv (by kernel_rfl) (by omega) (i := 9) (v := .agg #[.int .i64 y.load, .slice xa2 (y.logs.length + 1) xc2]) rfl (by kernel_rfl) (by kernel_rfl) (fun _ _ _ h => h) (Or.inl ⟨by kernel_rfl, ?_⟩) (by assumption) ?_
              · rintro W' ⟨q0, q1, q2, q3⟩
                go_simp
              intro inv2
              clear inv
              have inv := inv2
              clear inv2
              simp only [Act.put]
              refine wpAnyT_ready [10] (by kernel_rfl) (by simp) ?_
              refine AllReadyT.cons rfl (fun K hK => ?_) AllReadyT.nil
              go_simp
              have hb4 := below1 V30 (.cells #[.int .i64 0, .slice none 0 0] 24)
              have BX := Lib.hid (Blk.new V30 (.cells #[.int .i64 0, .slice none 0 0] 24))
              have BXl := BL.out.size
              replace OWN := Lib.hid (owns_below OWN.out hb4)
              replace BL := Lib.hid (bC BL.out hb4)
              generalize V30.heap.size = BXg at *
              generalize V30.alloc (.cells #[.int .i64 0, .slice none 0 0] 24) = V31 at *
              clear hb4
              refine hK.out _ _ (fun _ => ⟨cellB hq0 BL.out, cellB hq1 BL.out, cellB hq2 BL.out, cellB hq3 BL.out⟩) (fun _ => ?_)
              clear hK K
              replace inv := HeadM.step inv 10 (by kernel_rfl) (by omega)
              clear hS
              have hS : V31.cell? ⟨w.heap.size, 0, none⟩ = some (.int .i64 y.load) ∧ V31.cell? ⟨w.heap.size, 1, none⟩ = some (.slice sa y.logs.length cap) ∧ V31.cell? ⟨w.heap.size + 1, 0, none⟩ = some (.int .i64 a) ∧ V31.cell? ⟨w.heap.size + 1, 1, none⟩ = some (.int .i64 b) := ⟨cellB hq0 BL.out, cellB hq1 BL.out, cellB hq2 BL.out, cellB hq3 BL.out⟩
              try simp only [Act.put]
              refine wpAnyT_chain (fuel := 1) rfl (by kernel_rfl) ?_
              simp only [List.drop_succ_cons, List.drop_zero]
              clear inv hS HQX
              have x0 := BX.out.cell 0
              have x1 := BX.out.cell 1
              have xf := BX.out.frozen
              have xl := BX.out.lt
              simp at x0 x1
              go_wp2_with fail
              go_meet
              have BX2 := (BX.out.set (j := 0) (.int .i64 y.load)).set (j := 1) (.slice xa2 (y.logs.length + 1) xc2)
              refine ⟨BXg, xa2, xc2, rfl, BXl, BX2, ?_, (BL.out.setCell BXl (p := ⟨BXg, 0, none⟩) _).setCell BXl (p := ⟨BXg, 1, none⟩) _⟩
              have ho := Row.of_owns (owns_set (owns_set OWN.out BX.out (by decide) 0 (.int .i64 y.load)) (BX.out.set (j := 0) (.int .i64 y.load)) (by decide) 1 (.slice xa2 (y.logs.length + 1) xc2))
              exact by rw [pairCells_app]; exact ho
            refine AllReadyT.cons rfl (fun K hK => ?_) AllReadyT.nil
            go_simp
            have hb4 := below1 V29 (.cells #[.int .i64 0, .slice none 0 0] 24)
            have BX := Lib.hid (Blk.new V29 (.cells #[.int .i64 0, .slice none 0 0] 24))
            have BXl := BL.out.size
            replace BN := Lib.hid (BN.out.below hb4)
            replace OWN := Lib.hid (owns_below OWN.out hb4)
            replace BL := Lib.hid (bC BL.out hb4)
            generalize V29.heap.size = BXg at *
            generalize V29.alloc (.cells #[.int .i64 0, .slice none 0 0] 24) = V32 at *
            clear hb4
            refine hK.out _ _ (fun _ => ⟨cellB hq0 BL.out, cellB hq1 BL.out, cellB hq2 BL.out, cellB hq3 BL.out⟩) (fun _ => ?_)
            clear hK K
            replace inv := HeadM.step inv 10 (by kernel_rfl) (by omega)
            clear hS
            have hS : V32.cell? ⟨w.heap.size, 0, none⟩ = some (.int .i64 y.load) ∧ V32.cell? ⟨w.heap.size, 1, none⟩ = some (.slice sa y.logs.length cap) ∧ V32.cell? ⟨w.heap.size + 1, 0, none⟩ = some (.int .i64 a) ∧ V32.cell? ⟨w.heap.size + 1, 1, none⟩ = some (.int .i64 b) := ⟨cellB hq0 BL.out, cellB hq1 BL.out, cellB hq2 BL.out, cellB hq3 BL.out⟩
            try simp only [Act.put]
            refine wpAnyT_ready [8] (by kernel_rfl) (by simp) ?_
            refine AllReadyT.cons rfl (fun K hK => ?_) AllReadyT.nil
            refine Eq.mpr (if_pos ?_) ?_
            · rfl
            have hs8 := BL.out.size
            refine wp_append_src _ _ _ 22 rfl v2.heap.size 27 tj (.agg #[.int .i64 0, .int .i64 0]) 2 16 undAR HJF.out HY0.out HY1.out HY2.out rfl (by decide) _ _ _ rfl OWN.out (some ⟨BNg, 0, none⟩) 1 1 [.int .i64 a, .int .i64 b] rfl ⟨rfl, .inr ⟨_, rfl, fun jj uu hu => by rw [addr_add, Nat.zero_add, BN.out.cell]; simpa using hu⟩⟩ (one2' a b) (by unfold maxLen; omega) (by omega) hs8 ?_
            intro vo2 V33 own gr _
            replace BX := Lib.hid (Blk.grown BX.out OWN.out (by decide) gr)
            replace BL := Lib.hid (below_owns OWN.out gr BL.out hs8)
            clear OWN
            obtain ⟨xa2, xc2, rfl⟩ := owns_slice own
            have OWN := Lib.hid own
            clear own gr hs8
            refine hK.out _ _ (fun _ => ⟨cellB hq0 BL.out, cellB hq1 BL.out, cellB hq2 BL.out, cellB hq3 BL.out⟩) (fun _ => ?_)
            clear hK K
            replace inv := HeadM.step inv 8 (by kernel_rfl) (by omega)
            clear hS
            have hS : V33.cell? ⟨w.heap.size, 0, none⟩ = some (.int .i64 y.load) ∧ V33.cell? ⟨w.heap.size, 1, none⟩ = some (.slice sa y.logs.length cap) ∧ V33.cell? ⟨w.heap.size + 1, 0, none⟩ = some (.int .i64 a) ∧ V33.cell? ⟨w.heap.size + 1, 1, none⟩ = some (.int .i64 b) := ⟨cellB hq0 BL.out, cellB hq1 BL.out, cellB hq2 BL.out, cellB hq3 BL.out⟩
            try simp only [Act.put]
            refine wpAnyT_take inv (by kernel_rfl) (by omega) (i := 9) (v := .agg #[.int .i64 y.load, .slice xa2 (y.logs.length + 1) xc2]) rfl (by kernel_rfl) (by kernel_rfl) (fun _ _ _ h => h) (Or.inl ⟨by kernel_rfl, ?_⟩) (by assumption) ?_
            · rintro W' ⟨q0, q1, q2, q3⟩
              go_simp
            intro inv2
            clear inv
            have inv := inv2
            clear inv2
            simp only [Act.put]
            refine wpAnyT_chain (fuel := 1) rfl (by kernel_rfl) ?_
            simp only [List.drop_succ_cons, List.drop_zero]
            clear inv hS HQX
            have x0 := BX.out.cell 0
            have x1 := BX.out.cell 1
            have xf := BX.out.frozen
            have xl := BX.out.lt
            simp at x0 x1
            go_wp2_with fail
            go_meet
            have BX2 := (BX.out.set (j := 0) (.int .i64 y.load)).set (j := 1) (.slice xa2 (y.logs.length + 1) xc2)
            refine ⟨BXg, xa2, xc2, rfl, BXl, BX2, ?_, (BL.out.setCell BXl (p := ⟨BXg, 0, none⟩) _).setCell BXl (p := ⟨BXg, 1, none⟩) _⟩
            have ho := Row.of_owns (owns_set (owns_set OWN.out BX.out (by decide) 0 (.int .i64 y.load)) (BX.out.set (j := 0) (.int .i64 y.load)) (by decide) 1 (.slice xa2 (y.logs.length + 1) xc2))
            exact by rw [pairCells_app]; exact ho
          refine AllReadyT.cons rfl (fun K hK => ?_) AllReadyT.nil
          go_simp
          have hb4 := below1 V27 (.cells #[.int .i64 0, .slice none 0 0] 24)
          have BX := Lib.hid (Blk.new V27 (.cells #[.int .i64 0, .slice none 0 0] 24))
          have BXl := BL.out.size
          replace BN := Lib.hid (BN.out.below hb4)
          replace OWN := Lib.hid (owns_below OWN.out hb4)
          replace BL := Lib.hid (bC BL.out hb4)
          generalize V27.heap.size = BXg at *
          generalize V27.alloc (.cells #[.int .i64 0, .slice none 0 0] 24) = V34 at *
          clear hb4
          refine hK.out _ _ (fun _ => ⟨cellB hq0 BL.out, cellB hq1 BL.out, cellB hq2 BL.out, cellB hq3 BL.out⟩) (fun _ => ?_)
          clear hK K
          replace inv := HeadM.step inv 10 (by kernel_rfl) (by omega)
          clear hS
          have hS : V34.cell? ⟨w.heap.size, 0, none⟩ = some (.int .i64 y.load) ∧ V34.cell? ⟨w.heap.size, 1, none⟩ = some (.slice sa y.logs.length cap) ∧ V34.cell? ⟨w.heap.size + 1, 0, none⟩ = some (.int .i64 a) ∧ V34.cell? ⟨w.heap.size + 1, 1, none⟩ = some (.int .i64 b) := ⟨cellB hq0 BL.out, cellB hq1 BL.out, cellB hq2 BL.out, cellB hq3 BL.out⟩
          try simp only [Act.put]
          refine wpAnyT_ready [5] (by kernel_rfl) (by simp) ?_
          refine AllReadyT.cons rfl (fun K hK => ?_) AllReadyT.nil
          refine Eq.mpr (if_pos ?_) ?_
          · rfl
          have hs8 := BL.out.size
          refine wp_append_src _ _ _ 22 rfl v2.heap.size 27 tj (.agg #[.int .i64 0, .int .i64 0]) 2 16 undAR HJF.out HY0.out HY1.out HY2.out rfl (by decide) _ _ _ rfl OWN.out sa y.logs.length cap (pairCells y.logs) rfl (src_pairs (HPS.out.below BL.out)) (fun u hu => pairCells_one hu) (by unfold maxLen; omega) (by omega) hs8 ?_
          intro vo1 V35 own gr _
          replace BN := Lib.hid (show Blk _ BNg (.cells #[.int .i64 a, .int .i64 b] 27) from (gr.block BNg BN.out.lt (fun h => by cases (show (some BNg : Option Nat) = none from h))).trans BN.out)
          replace BX := Lib.hid (Blk.grown BX.out OWN.out (by decide) gr)
          replace BL := Lib.hid (below_owns OWN.out gr BL.out hs8)
          clear OWN
          rw [Nat.zero_add, List.nil_append] at own
          obtain ⟨xa1, xc1, rfl⟩ := owns_slice own
          have OWN := Lib.hid own
          clear own gr hs8
          refine hK.out _ _ (fun _ => ⟨cellB hq0 BL.out, cellB hq1 BL.out, cellB hq2 BL.out, cellB hq3 BL.out⟩) (fun _ => ?_)
          clear hK K
          replace inv := HeadM.step inv 5 (by kernel_rfl) (by omega)
          clear hS
          have hS : V35.cell? ⟨w.heap.size, 0, none⟩ = some (.int .i64 y.load) ∧ V35.cell? ⟨w.heap.size, 1, none⟩ = some (.slice sa y.logs.length cap) ∧ V35.cell? ⟨w.heap.size + 1, 0, none⟩ = some (.int .i64 a) ∧ V35.cell? ⟨w.heap.size + 1, 1, none⟩ = some (.int .i64 b) := ⟨cellB hq0 BL.out, cellB hq1 BL.out, cellB hq2 BL.out, cellB hq3 BL.out⟩
          try simp only [Act.put]
          refine wpAnyT_ready [8] (by kernel_rfl) (by simp) ?_
          refine AllReadyT.cons rfl (fun K hK => ?_) AllReadyT.nil
          refine Eq.mpr (if_pos ?_) ?_
          · rfl
          have hs8 := BL.out.size
          refine wp_append_src _ _ _ 22 rfl v2.heap.size 27 tj (.agg #[.int .i64 0, .int .i64 0]) 2 16 undAR HJF.out HY0.out HY1.out HY2.out rfl (by decide) _ _ _ rfl OWN.out (some ⟨BNg, 0, none⟩) 1 1 [.int .i64 a, .int .i64 b] rfl ⟨rfl, .inr ⟨_, rfl, fun jj uu hu => by rw [addr_add, Nat.zero_add, BN.out.cell]; simpa using hu⟩⟩ (one2' a b) (by unfold maxLen; omega) (by omega) hs8 ?_
          intro vo2 V36 own gr _
          replace BX := Lib.hid (Blk.grown BX.out OWN.out (by decide) gr)
          replace BL := Lib.hid (below_owns OWN.out gr BL.out hs8)
          clear OWN
          obtain ⟨xa2, xc2, rfl⟩ := owns_slice own
          have OWN := Lib.hid own
          clear own gr hs8
          refine hK.out _ _ (fun _ => ⟨cellB hq0 BL.out, cellB hq1 BL.out, cellB hq2 BL.out, cellB hq3 BL.out⟩) (fun _ => ?_)
          clear hK K
          replace inv := HeadM.step inv 8 (by kernel_rfl) (by omega)
          clear hS
          have hS : V36.cell? ⟨w.heap.size, 0, none⟩ = some (.int .i64 y.load) ∧ V36.cell? ⟨w.heap.size, 1, none⟩ = some (.slice sa y.logs.length cap) ∧ V36.cell? ⟨w.heap.size + 1, 0, none⟩ = some (.int .i64 a) ∧ V36.cell? ⟨w.heap.size + 1, 1, none⟩ = some (.int .i64 b) := ⟨cellB hq0 BL.out, cellB hq1 BL.out, cellB hq2 BL.out, cellB hq3 BL.out⟩
          try simp only [Act.put]
          refine wpAnyT_take inv (by kernel_rfl) (by omega) (i := 9) (v := .agg #[.int .i64 y.load, .slice xa2 (y.logs.length + 1) xc2]) rfl (by kernel_rfl) (by kernel_rfl) (fun _ _ _ h => h) (Or.inl ⟨by kernel_rfl, ?_⟩) (by assumption) ?_
          · rintro W' ⟨q0, q1, q2, q3⟩
            go_simp
          intro inv2
          clear inv
          have inv := inv2
          clear inv2
          simp only [Act.put]
          refine wpAnyT_chain (fuel := 1) rfl (by kernel_rfl) ?_
          simp only [List.drop_succ_cons, List.drop_zero]
          clear inv hS HQX
          have x0 := BX.out.cell 0
          have x1 := BX.out.cell 1
          have xf := BX.out.frozen
          have xl := BX.out.lt
          simp at x0 x1
          go_wp2_with fail
          go_meet
          have BX2 := (BX.out.set (j := 0) (.int .i64 y.load)).set (j := 1) (.slice xa2 (y.logs.length + 1) xc2)
          refine ⟨BXg, xa2, xc2, rfl, BXl, BX2, ?_, (BL.out.setCell BXl (p := ⟨BXg, 0, none⟩) _).setCell BXl (p := ⟨BXg, 1, none⟩) _⟩
          have ho := Row.of_owns (owns_set (owns_set OWN.out BX.out (by decide) 0 (.int .i64 y.load)) (BX.out.set (j := 0) (.int .i64 y.load)) (by decide) 1 (.slice xa2 (y.logs.length + 1) xc2))
          exact by rw [pairCells_app]; exact ho
        refine AllReadyT.cons rfl (fun K hK => ?_) AllReadyT.nil
        go_simp
        have hb4 := below1 V27 (.cells #[.int .i64 0, .slice none 0 0] 24)
        have BX := Lib.hid (Blk.new V27 (.cells #[.int .i64 0, .slice none 0 0] 24))
        have BXl := BL.out.size
        replace BN := Lib.hid (BN.out.below hb4)
        replace BL := Lib.hid (bC BL.out hb4)
        generalize V27.heap.size = BXg at *
        generalize V27.alloc (.cells #[.int .i64 0, .slice none 0 0] 24) = V37 at *
        clear hb4
        refine hK.out _ _ (fun _ => ⟨cellB hq0 BL.out, cellB hq1 BL.out, cellB hq2 BL.out, cellB hq3 BL.out⟩) (fun _ => ?_)
        clear hK K
        replace inv := HeadM.step inv 10 (by kernel_rfl) (by omega)
        clear hS
        have hS : V37.cell? ⟨w.heap.size, 0, none⟩ = some (.int .i64 y.load) ∧ V37.cell? ⟨w.heap.size, 1, none⟩ = some (.slice sa y.logs.length cap) ∧ V37.cell? ⟨w.heap.size + 1, 0, none⟩ = some (.int .i64 a) ∧ V37.cell? ⟨w.heap.size + 1, 1, none⟩ = some (.int .i64 b) := ⟨cellB hq0 BL.out, cellB hq1 BL.out, cellB hq2 BL.out, cellB hq3 BL.out⟩
        try simp only [Act.put]
        refine wpAnyT_ready [2] (by kernel_rfl) (by simp) ?_
        refine AllReadyT.cons rfl (fun K hK => ?_) AllReadyT.nil
        go_simp
        refine (ranges_any _ _).mono ?_
        rintro e V38 ⟨rfl, rfl⟩
        have OWN := Lib.hid (owns_nil V37 v2.heap.size 27 2)
        refine hK.out _ _ (fun _ => ⟨cellB hq0 BL.out, cellB hq1 BL.out, cellB hq2 BL.out, cellB hq3 BL.out⟩) (fun _ => ?_)
        clear hK K
        replace inv := HeadM.step inv 2 (by kernel_rfl) (by omega)
        clear hS
        have hS : V37.cell? ⟨w.heap.size, 0, none⟩ = some (.int .i64 y.load) ∧ V37.cell? ⟨w.heap.size, 1, none⟩ = some (.slice sa y.logs.length cap) ∧ V37.cell? ⟨w.heap.size + 1, 0, none⟩ = some (.int .i64 a) ∧ V37.cell? ⟨w.heap.size + 1, 1, none⟩ = some (.int .i64 b) := ⟨cellB hq0 BL.out, cellB hq1 BL.out, cellB hq2 BL.out, cellB hq3 BL.out⟩
        try simp only [Act.put]
        refine wpAnyT_ready [5] (by kernel_rfl) (by simp) ?_
        refine AllReadyT.cons rfl (fun K hK => ?_) AllReadyT.nil
        refine Eq.mpr (if_pos ?_) ?_
        · rfl
        have hs8 := BL.out.size
        refine wp_append_src _ _ _ 22 rfl v2.heap.size 27 tj (.agg #[.int .i64 0, .int .i64 0]) 2 16 undAR HJF.out HY0.out HY1.out HY2.out rfl (by decide) _ _ _ rfl OWN.out sa y.logs.length cap (pairCells y.logs) rfl (src_pairs (HPS.out.below BL.out)) (fun u hu => pairCells_one hu) (by unfold maxLen; omega) (by omega) hs8 ?_
        intro vo1 V39 own gr _
        replace BN := Lib.hid (show Blk _ BNg (.cells #[.int .i64 a, .int .i64 b] 27) from (gr.block BNg BN.out.lt (fun h => by cases (show (some BNg : Option Nat) = none from h))).trans BN.out)
        replace BX := Lib.hid (Blk.grown BX.out OWN.out (by decide) gr)
        replace BL := Lib.hid (below_owns OWN.out gr BL.out hs8)
        clear OWN
        rw [Nat.zero_add, List.nil_append] at own
        obtain ⟨xa1, xc1, rfl⟩ := owns_slice own
        have OWN := Lib.hid own
        clear own gr hs8
        refine hK.out _ _ (fun _ => ⟨cellB hq0 BL.out, cellB hq1 BL.out, cellB hq2 BL.out, cellB hq3 BL.out⟩) (fun _ => ?_)
        clear hK K
        replace inv := HeadM.step inv 5 (by kernel_rfl) (by omega)
        clear hS
        have hS : V39.cell? ⟨w.heap.size, 0, none⟩ = some (.int .i64 y.load) ∧ V39.cell? ⟨w.heap.size, 1, none⟩ = some (.slice sa y.logs.length cap) ∧ V39.cell? ⟨w.heap.size + 1, 0, none⟩ = some (.int .i64 a) ∧ V39.cell? ⟨w.heap.size + 1, 1, none⟩ = some (.int .i64 b) := ⟨cellB hq0 BL.out, cellB hq1 BL.out, cellB hq2 BL.out, cellB hq3 BL.out⟩
        try simp only [Act.put]
        refine wpAnyT_ready [8] (by kernel_rfl) (by simp) ?_
        refine AllReadyT.cons rfl (fun K hK => ?_) AllReadyT.nil
        refine Eq.mpr (if_pos ?_) ?_
        · rfl
        have hs8 := BL.out.size
        refine wp_append_src _ _ _ 22 rfl v2.heap.size 27 tj (.agg #[.int .i64 0, .int .i64 0]) 2 16 undAR HJF.out HY0.out HY1.out HY2.out rfl (by decide) _ _ _ rfl OWN.out (some ⟨BNg, 0, none⟩) 1 1 [.int .i64 a, .int .i64 b] rfl ⟨rfl, .inr ⟨_, rfl, fun jj uu hu => by rw [addr_add, Nat.zero_add, BN.out.cell]; simpa using hu⟩⟩ (one2' a b) (by unfold maxLen; omega) (by omega) hs8 ?_
        intro vo2 V40 own gr _
        replace BX := Lib.hid (Blk.grown BX.out OWN.out (by decide) gr)
        replace BL := Lib.hid (below_owns OWN.out gr BL.out hs8)
        clear OWN
        obtain ⟨xa2, xc2, rfl⟩ := owns_slice own
        have OWN := Lib.hid own
        clear own gr hs8
        refine hK.out _ _ (fun _ => ⟨cellB hq0 BL.out, cellB hq1 BL.out, cellB hq2 BL.out, cellB hq3 BL.out⟩) (fun _ => ?_)
        clear hK K
        replace inv := HeadM.step inv 8 (by kernel_rfl) (by omega)
        clear hS
        have hS : V40.cell? ⟨w.heap.size, 0, none⟩ = some (.int .i64 y.load) ∧ V40.cell? ⟨w.heap.size, 1, none⟩ = some (.slice sa y.logs.length cap) ∧ V40.cell? ⟨w.heap.size + 1, 0, none⟩ = some (.int .i64 a) ∧ V40.cell? ⟨w.heap.size + 1, 1, none⟩ = some (.int .i64 b) := ⟨cellB hq0 BL.out, cellB hq1 BL.out, cellB hq2 BL.out, cellB hq3 BL.out⟩
        try simp only [Act.put]
        refine wpAnyT_take inv (by kernel_rfl) (by omega) (i := 9) (v := .agg #[.int .i64 y.load, .slice xa2 (y.logs.length + 1) xc2]) rfl (by kernel_rfl) (by kernel_rfl) (fun _ _ _ h => h) (Or.inl ⟨by kernel_rfl, ?_⟩) (by assumption) ?_
        · rintro W' ⟨q0, q1, q2, q3⟩
          go_simp
        intro inv2
        clear inv
        have inv := inv2
        clear inv2
        simp only [Act.put]
        refine wpAnyT_chain (fuel := 1) rfl (by kernel_rfl) ?_
        simp only [List.drop_succ_cons, List.drop_zero]
        clear inv hS HQX
        have x0 := BX.out.cell 0
        have x1 := BX.out.cell 1
        have xf := BX.out.frozen
        have xl := BX.out.lt
        simp at x0 x1
        go_wp2_with fail
        go_meet
        have BX2 := (BX.out.set (j := 0) (.int .i64 y.load)).set (j := 1) (.slice xa2 (y.logs.length + 1) xc2)
        refine ⟨BXg, xa2, xc2, rfl, BXl, BX2, ?_, (BL.out.setCell BXl (p := ⟨BXg, 0, none⟩) _).setCell BXl (p := ⟨BXg, 1, none⟩) _⟩
        have ho := Row.of_owns (owns_set (owns_set OWN.out BX.out (by decide) 0 (.int .i64 y.load)) (BX.out.set (j := 0) (.int .i64 y.load)) (by decide) 1 (.slice xa2 (y.logs.length + 1) xc2))
        exact by rw [pairCells_app]; exact ho
      refine AllReadyT.cons rfl (fun K hK => ?_) AllReadyT.nil
      go_simp
      have hb4 := below1 V0 (.cells #[.int .i64 0, .slice none 0 0] 24)
      have BX := Lib.hid (Blk.new V0 (.cells #[.int .i64 0, .slice none 0 0] 24))
      have BXl := BL.out.size
      replace BL := Lib.hid (bC BL.out hb4)
      generalize V0.heap.size = BXg at *
      generalize V0.alloc (.cells #[.int .i64 0, .slice none 0 0] 24) = V41 at *
      clear hb4
      refine hK.out _ _ (fun _ => ⟨cellB hq0 BL.out, cellB hq1 BL.out, cellB hq2 BL.out, cellB hq3 BL.out⟩) (fun _ => ?_)
      clear hK K
      replace inv := HeadM.step inv 10 (by kernel_rfl) (by omega)
      clear hS
      have hS : V41.cell? ⟨w.heap.size, 0, none⟩ = some (.int .i64 y.load) ∧ V41.cell? ⟨w.heap.size, 1, none⟩ = some (.slice sa y.logs.length cap) ∧ V41.cell? ⟨w.heap.size + 1, 0, none⟩ = some (.int .i64 a) ∧ V41.cell? ⟨w.heap.size + 1, 1, none⟩ = some (.int .i64 b) := ⟨cellB hq0 BL.out, cellB hq1 BL.out, cellB hq2 BL.out, cellB hq3 BL.out⟩
      try simp only [Act.put]
      refine wpAnyT_ready [2, 7] (by kernel_rfl) (by simp) ?_
      refine AllReadyT.cons rfl (fun K hK => ?_) ?_
      ·
        go_simp
        refine (ranges_any _ _).mono ?_
        rintro e V42 ⟨rfl, rfl⟩
        have OWN := Lib.hid (owns_nil V41 v2.heap.size 27 2)
        refine hK.out _ _ (fun _ => ⟨cellB hq0 BL.out, cellB hq1 BL.out, cellB hq2 BL.out, cellB hq3 BL.out⟩) (fun _ => ?_)
        clear hK K
        replace inv := HeadM.step inv 2 (by kernel_rfl) (by omega)
        clear hS
        have hS : V41.cell? ⟨w.heap.size, 0, none⟩ = some (.int .i64 y.load) ∧ V41.cell? ⟨w.heap.size, 1, none⟩ = some (.slice sa y.logs.length cap) ∧ V41.cell? ⟨w.heap.size + 1, 0, none⟩ = some (.int .i64 a) ∧ V41.cell? ⟨w.heap.size + 1, 1, none⟩ = some (.int .i64 b) := ⟨cellB hq0 BL.out, cellB hq1 BL.out, cellB hq2 BL.out, cellB hq3 BL.out⟩
        try simp only [Act.put]
        refine wpAnyT_ready [5, 7] (by kernel_rfl) (by simp) ?_
        refine AllReadyT.cons rfl (fun K hK => ?_) ?_
        ·
          refine Eq.mpr (if_pos ?_) ?_
          · rfl
          have hs8 := BL.out.size
          refine wp_append_src _ _ _ 22 rfl v2.heap.size 27 tj (.agg #[.int .i64 0, .int .i64 0]) 2 16 undAR HJF.out HY0.out HY1.out HY2.out rfl (by decide) _ _ _ rfl OWN.out sa y.logs.length cap (pairCells y.logs) rfl (src_pairs (HPS.out.below BL.out)) (fun u hu => pairCells_one hu) (by unfold maxLen; omega) (by omega) hs8 ?_
          intro vo1 V43 own gr _
          replace BX := Lib.hid (Blk.grown BX.out OWN.out (by decide) gr)
          replace BL := Lib.hid (below_owns OWN.out gr BL.out hs8)
          clear OWN
          rw [Nat.zero_add, List.nil_append] at own
          obtain ⟨xa1, xc1, rfl⟩ := owns_slice own
          have OWN := Lib.hid own
          clear own gr hs8
          refine hK.out _ _ (fun _ => ⟨cellB hq0 BL.out, cellB hq1 BL.out, cellB hq2 BL.out, cellB hq3 BL.out⟩) (fun _ => ?_)
          clear hK K
          replace inv := HeadM.step inv 5 (by kernel_rfl) (by omega)
          clear hS
          have hS : V43.cell? ⟨w.heap.size, 0, none⟩ = some (.int .i64 y.load) ∧ V43.cell? ⟨w.heap.size, 1, none⟩ = some (.slice sa y.logs.length cap) ∧ V43.cell? ⟨w.heap.size + 1, 0, none⟩ = some (.int .i64 a) ∧ V43.cell? ⟨w.heap.size + 1, 1, none⟩ = some (.int .i64 b) := ⟨cellB hq0 BL.out, cellB hq1 BL.out, cellB hq2 BL.out, cellB hq3 BL.out⟩
          try simp only [Act.put]
          refine wpAnyT_ready [7] (by kernel_rfl) (by simp) ?_
          refine AllReadyT.cons rfl (fun K hK => ?_) AllReadyT.nil
          go_simp
          have hb4 := below1 V43 (.cells #[.int .i64 a, .int .i64 b] 27)
          have BN := Lib.hid (Blk.new V43 (.cells #[.int .i64 a, .int .i64 b] 27))
          have BNl := BL.out.size
          replace BX := Lib.hid (BX.out.below hb4)
          replace OWN := Lib.hid (owns_below OWN.out hb4)
          replace BL := Lib.hid (bC BL.out hb4)
          generalize V43.heap.size = BNg at *
          generalize V43.alloc (.cells #[.int .i64 a, .int .i64 b] 27) = V44 at *
          clear hb4
          refine hK.out _ _ (fun _ => ⟨cellB hq0 BL.out, cellB hq1 BL.out, cellB hq2 BL.out, cellB hq3 BL.out⟩) (fun _ => ?_)
          clear hK K
          replace inv := HeadM.step inv 7 (by kernel_rfl) (by omega)
          clear hS
          have hS : V44.cell? ⟨w.heap.size, 0, none⟩ = some (.int .i64 y.load) ∧ V44.cell? ⟨w.heap.size, 1, none⟩ = some (.slice sa y.logs.length cap) ∧ V44.cell? ⟨w.heap.size + 1, 0, none⟩ = some (.int .i64 a) ∧ V44.cell? ⟨w.heap.size + 1, 1, none⟩ = some (.int .i64 b) := ⟨cellB hq0 BL.out, cellB hq1 BL.out, cellB hq2 BL.out, cellB hq3 BL.out⟩
          try simp only [Act.put]
          refine wpAnyT_ready [8] (by kernel_rfl) (by simp) ?_
          refine AllReadyT.cons rfl (fun K hK => ?_) AllReadyT.nil
          refine Eq.mpr (if_pos ?_) ?_
          · rfl
          have hs8 := BL.out.size
          refine wp_append_src _ _ _ 22 rfl v2.heap.size 27 tj (.agg #[.int .i64 0, .int .i64 0]) 2 16 undAR HJF.out HY0.out HY1.out HY2.out rfl (by decide) _ _ _ rfl OWN.out (some ⟨BNg, 0, none⟩) 1 1 [.int .i64 a, .int .i64 b] rfl ⟨rfl, .inr ⟨_, rfl, fun jj uu hu => by rw [addr_add, Nat.zero_add, BN.out.cell]; simpa using hu⟩⟩ (one2' a b) (by unfold maxLen; omega) (by omega) hs8 ?_
          intro vo2 V45 own gr _
          replace BX := Lib.hid (Blk.grown BX.out OWN.out (by decide) gr)
          replace BL := Lib.hid (below_owns OWN.out gr BL.out hs8)
          clear OWN
          obtain ⟨xa2, xc2, rfl⟩ := owns_slice own
          have OWN := Lib.hid own
          clear own gr hs8
          refine hK.out _ _ (fun _ => ⟨cellB hq0 BL.out, cellB hq1 BL.out, cellB hq2 BL.out, cellB hq3 BL.out⟩) (fun _ => ?_)
          clear hK K
          replace inv := HeadM.step inv 8 (by kernel_rfl) (by omega)
          clear hS
          have hS : V45.cell? ⟨w.heap.size, 0, none⟩ = some (.int .i64 y.load) ∧ V45.cell? ⟨w.heap.size, 1, none⟩ = some (.slice sa y.logs.length cap) ∧ V45.cell? ⟨w.heap.size + 1, 0, none⟩ = some (.int .i64 a) ∧ V45.cell? ⟨w.heap.size + 1, 1, none⟩ = some (.int .i64 b) := ⟨cellB hq0 BL.out, cellB hq1 BL.out, cellB hq2 BL.out, cellB hq3 BL.out⟩
          try simp only [Act.put]
          refine wpAnyT_take inv (by kernel_rfl) (by omega) (i := 9) (v := .agg #[.int .i64 y.load, .slice xa2 (y.logs.length + 1) xc2]) rfl (by kernel_rfl) (by kernel_rfl) (fun _ _ _ h => h) (Or.inl ⟨by kernel_rfl, ?_⟩) (by assumption) ?_
          · rintro W' ⟨q0, q1, q2, q3⟩
            go_simp
          intro inv2
          clear inv
          have inv := inv2
          clear inv2
          simp only [Act.put]
          refine wpAnyT_chain (fuel := 1) rfl (by kernel_rfl) ?_
          simp only [List.drop_succ_cons, List.drop_zero]
          clear inv hS HQX
          have x0 := BX.out.cell 0
          have x1 := BX.out.cell 1
          have xf := BX.out.frozen
          have xl := BX.out.lt
          simp at x0 x1
          go_wp2_with fail
          go_meet
          have BX2 := (BX.out.set (j := 0) (.int .i64 y.load)).set (j := 1) (.slice xa2 (y.logs.length + 1) xc2)
          refine ⟨BXg, xa2, xc2, rfl, BXl, BX2, ?_, (BL.out.setCell BXl (p := ⟨BXg, 0, none⟩) _).setCell BXl (p := ⟨BXg, 1, none⟩) _⟩
          have ho := Row.of_owns (owns_set (owns_set OWN.out BX.out (by decide) 0 (.int .i64 y.load)) (BX.out.set (j := 0) (.int .i64 y.load)) (by decide) 1 (.slice xa2 (y.logs.length + 1) xc2))
          exact by rw [pairCells_app]; exact ho
        refine AllReadyT.cons rfl (fun K hK => ?_) AllReadyT.nil
        go_simp
        have hb4 := below1 V41 (.cells #[.int .i64 a, .int .i64 b] 27)
        have BN := Lib.hid (Blk.new V41 (.cells #[.int .i64 a, .int .i64 b] 27))
        have BNl := BL.out.size
        replace BX := Lib.hid (BX.out.below hb4)
        replace OWN := Lib.hid (owns_below OWN.out hb4)
        replace BL := Lib.hid (bC BL.out hb4)
        generalize V41.heap.size = BNg at *
        generalize V41.alloc (.cells #[.int .i64 a, .int .i64 b] 27) = V46 at *
        clear hb4
        refine hK.out _ _ (fun _ => ⟨cellB hq0 BL.out, cellB hq1 BL.out, cellB hq2 BL.out, cellB hq3 BL.out⟩) (fun _ => ?_)
        clear hK K
        replace inv := HeadM.step inv 7 (by kernel_rfl) (by omega)
        clear hS
        have hS : V46.cell? ⟨w.heap.size, 0, none⟩ = some (.int .i64 y.load) ∧ V46.cell? ⟨w.heap.size, 1, none⟩ = some (.slice sa y.logs.length cap) ∧ V46.cell? ⟨w.heap.size + 1, 0, none⟩ = some (.int .i64 a) ∧ V46.cell? ⟨w.heap.size + 1, 1, none⟩ = some (.int .i64 b) := ⟨cellB hq0 BL.out, cellB hq1 BL.out, cellB hq2 BL.out, cellB hq3 BL.out⟩
        try simp only [Act.put]
        refine wpAnyT_ready [5] (by kernel_rfl) (by simp) ?_
        refine AllReadyT.cons rfl (fun K hK => ?_) AllReadyT.nil
        refine Eq.mpr (if_pos ?_) ?_
        · rfl
        have hs8 := BL.out.size
        refine wp_append_src _ _ _ 22 rfl v2.heap.size 27 tj (.agg #[.int .i64 0, .int .i64 0]) 2 16 undAR HJF.out HY0.out HY1.out HY2.out rfl (by decide) _ _ _ rfl OWN.out sa y.logs.length cap (pairCells y.logs) rfl (src_pairs (HPS.out.below BL.out)) (fun u hu => pairCells_one hu) (by unfold maxLen; omega) (by omega) hs8 ?_
        intro vo1 V47 own gr _
        replace BN := Lib.hid (show Blk _ BNg (.cells #[.int .i64 a, .int .i64 b] 27) from (gr.block BNg BN.out.lt (fun h => by cases (show (some BNg : Option Nat) = none from h))).trans BN.out)
        replace BX := Lib.hid (Blk.grown BX.out OWN.out (by decide) gr)
        replace BL := Lib.hid (below_owns OWN.out gr BL.out hs8)
        clear OWN
        rw [Nat.zero_add, List.nil_append] at own
        obtain ⟨xa1, xc1, rfl⟩ := owns_slice own
        have OWN := Lib.hid own
        clear own gr hs8
        refine hK.out _ _ (fun _ => ⟨cellB hq0 BL.out, cellB hq1 BL.out, cellB hq2 BL.out, cellB hq3 BL.out⟩) (fun _ => ?_)
        clear hK K
        replace inv := HeadM.step inv 5 (by kernel_rfl) (by omega)
        clear hS
        have hS : V47.cell? ⟨w.heap.size, 0, none⟩ = some (.int .i64 y.load) ∧ V47.cell? ⟨w.heap.size, 1, none⟩ = some (.slice sa y.logs.length cap) ∧ V47.cell? ⟨w.heap.size + 1, 0, none⟩ = some (.int .i64 a) ∧ V47.cell? ⟨w.heap.size + 1, 1, none⟩ = some (.int .i64 b) := ⟨cellB hq0 BL.out, cellB hq1 BL.out, cellB hq2 BL.out, cellB hq3 BL.out⟩
        try simp only [Act.put]
        refine wpAnyT_ready [8] (by kernel_rfl) (by simp) ?_
        refine AllReadyT.cons rfl (fun K hK => ?_) AllReadyT.nil
        refine Eq.mpr (if_pos ?_) ?_
        · rfl
        have hs8 := BL.out.size
        refine wp_append_src _ _ _ 22 rfl v2.heap.size 27 tj (.agg #[.int .i64 0, .int .i64 0]) 2 16 undAR HJF.out HY0.out HY1.out HY2.out rfl (by decide) _ _ _ rfl OWN.out (some ⟨BNg, 0, none⟩) 1 1 [.int .i64 a, .int .i64 b] rfl ⟨rfl, .inr ⟨_, rfl, fun jj uu hu => by rw [addr_add, Nat.zero_add, BN.out.cell]; simpa using hu⟩⟩ (one2' a b) (by unfold maxLen; omega) (by omega) hs8 ?_
        intro vo2 V48 own gr _
        replace BX := Lib.hid (Blk.grown BX.out OWN.out (by decide) gr)
        replace BL := Lib.hid (below_owns OWN.out gr BL.out hs8)
        clear OWN
        obtain ⟨xa2, xc2, rfl⟩ := owns_slice own
        have OWN := Lib.hid own
        clear own gr hs8
        refine hK.out _ _ (fun _ => ⟨cellB hq0 BL.out, cellB hq1 BL.out, cellB hq2 BL.out, cellB hq3 BL.out⟩) (fun _ => ?_)
        clear hK K
        replace inv := HeadM.step inv 8 (by kernel_rfl) (by omega)
        clear hS
        have hS : V48.cell? ⟨w.heap.size, 0, none⟩ = some (.int .i64 y.load) ∧ V48.cell? ⟨w.heap.size, 1, none⟩ = some (.slice sa y.logs.length cap) ∧ V48.cell? ⟨w.heap.size + 1, 0, none⟩ = some (.int .i64 a) ∧ V48.cell? ⟨w.heap.size + 1, 1, none⟩ = some (.int .i64 b) := ⟨cellB hq0 BL.out, cellB hq1 BL.out, cellB hq2 BL.out, cellB hq3 BL.out⟩
        try simp only [Act.put]
        refine wpAnyT_take inv (by kernel_rfl) (by omega) (i := 9) (v := .agg #[.int .i64 y.load, .slice xa2 (y.logs.length + 1) xc2]) rfl (by kernel_rfl) (by kernel_rfl) (fun _ _ _ h => h) (Or.inl ⟨by kernel_rfl, ?_⟩) (by assumption) ?_
        · rintro W' ⟨q0, q1, q2, q3⟩
          go_simp
        intro inv2
        clear inv
        have inv := inv2
        clear inv2
        simp only [Act.put]
        refine wpAnyT_chain (fuel := 1) rfl (by kernel_rfl) ?_
        simp only [List.drop_succ_cons, List.drop_zero]
        clear inv hS HQX
        have x0 := BX.out.cell 0
        have x1 := BX.out.cell 1
        have xf := BX.out.frozen
        have xl := BX.out.lt
        simp at x0 x1
        go_wp2_with fail
        go_meet
        have BX2 := (BX.out.set (j := 0) (.int .i64 y.load)).set (j := 1) (.slice xa2 (y.logs.length + 1) xc2)
        refine ⟨BXg, xa2, xc2, rfl, BXl, BX2, ?_, (BL.out.setCell BXl (p := ⟨BXg, 0, none⟩) _).setCell BXl (p := ⟨BXg, 1, none⟩) _⟩
        have ho := Row.of_owns (owns_set (owns_set OWN.out BX.out (by decide) 0 (.int .i64 y.load)) (BX.out.set (j := 0) (.int .i64 y.load)) (by decide) 1 (.slice xa2 (y.logs.length + 1) xc2))
        exact by rw [pairCells_app]; exact ho
      refine AllReadyT.cons rfl (fun K hK => ?_) AllReadyT.nil
      go_simp
      have hb4 := below1 V41 (.cells #[.int .i64 a, .int .i64 b] 27)
      have BN := Lib.hid (Blk.new V41 (.cells #[.int .i64 a, .int .i64 b] 27))
      have BNl := BL.out.size
      replace BX := Lib.hid (BX.out.below hb4)
      replace BL := Lib.hid (bC BL.out hb4)
      generalize V41.heap.size = BNg at *
      generalize V41.alloc (.cells #[.int .i64 a, .int .i64 b] 27) = V49 at *
      clear hb4
      refine hK.out _ _ (fun _ => ⟨cellB hq0 BL.out, cellB hq1 BL.out, cellB hq2 BL.out, cellB hq3 BL.out⟩) (fun _ => ?_)
      clear hK K
      replace inv := HeadM.step inv 7 (by kernel_rfl) (by omega)
      clear hS
      have hS : V49.cell? ⟨w.heap.size, 0, none⟩ = some (.int .i64 y.load) ∧ V49.cell? ⟨w.heap.size, 1, none⟩ = some (.slice sa y.logs.length cap) ∧ V49.cell? ⟨w.heap.size + 1, 0, none⟩ = some (.int .i64 a) ∧ V49.cell? ⟨w.heap.size + 1, 1, none⟩ = some (.int .i64 b) := ⟨cellB hq0 BL.out, cellB hq1 BL.out, cellB hq2 BL.out, cellB hq3 BL.out⟩
      try simp only [Act.put]
      refine wpAnyT_ready [2] (by kernel_rfl) (by simp) ?_
      refine AllReadyT.cons rfl (fun K hK => ?_) AllReadyT.nil
      go_simp
      refine (ranges_any _ _).mono ?_
      rintro e V50 ⟨rfl, rfl⟩
      have OWN := Lib.hid (owns_nil V49 v2.heap.size 27 2)
      refine hK.out _ _ (fun _ => ⟨cellB hq0 BL.out, cellB hq1 BL.out, cellB hq2 BL.out, cellB hq3 BL.out⟩) (fun _ => ?_)
      clear hK K
      replace inv := HeadM.step inv 2 (by kernel_rfl) (by omega)
      clear hS
      have hS : V49.cell? ⟨w.heap.size, 0, none⟩ = some (.int .i64 y.load) ∧ V49.cell? ⟨w.heap.size, 1, none⟩ = some (.slice sa y.logs.length cap) ∧ V49.cell? ⟨w.heap.size + 1, 0, none⟩ = some (.int .i64 a) ∧ V49.cell? ⟨w.heap.size + 1, 1, none⟩ = some (.int .i64 b) := ⟨cellB hq0 BL.out, cellB hq1 BL.out, cellB hq2 BL.out, cellB hq3 BL.out⟩
      try simp only [Act.put]
      refine wpAnyT_ready [5] (by kernel_rfl) (by simp) ?_
      refine AllReadyT.cons rfl (fun K hK => ?_) AllReadyT.nil
      refine Eq.mpr (if_pos ?_) ?_
      · rfl
      have hs8 := BL.out.size
      refine wp_append_src _ _ _ 22 rfl v2.heap.size 27 tj (.agg #[.int .i64 0, .int .i64 0]) 2 16 undAR HJF.out HY0.out HY1.out HY2.out rfl (by decide) _ _ _ rfl OWN.out sa y.logs.length cap (pairCells y.logs) rfl (src_pairs (HPS.out.below BL.out)) (fun u hu => pairCells_one hu) (by unfold maxLen; omega) (by omega) hs8 ?_
      intro vo1 V51 own gr _
      replace BN := Lib.hid (show Blk _ BNg (.cells #[.int .i64 a, .int .i64 b] 27) from (gr.block BNg BN.out.lt (fun h => by cases (show (some BNg : Option Nat) = none from h))).trans BN.out)
      replace BX := Lib.hid (Blk.grown BX.out OWN.out (by decide) gr)
      replace BL := Lib.hid (below_owns OWN.out gr BL.out hs8)
      clear OWN
      rw [Nat.zero_add, List.nil_append] at own
      obtain ⟨xa1, xc1, rfl⟩ := owns_slice own
      have OWN := Lib.hid own
      clear own gr hs8
      refine hK.out _ _ (fun _ => ⟨cellB hq0 BL.out, cellB hq1 BL.out, cellB hq2 BL.out, cellB hq3 BL.out⟩) (fun _ => ?_)
      clear hK K
      replace inv := HeadM.step inv 5 (by kernel_rfl) (by omega)
      clear hS
      have hS : V51.cell? ⟨w.heap.size, 0, none⟩ = some (.int .i64 y.load) ∧ V51.cell? ⟨w.heap.size, 1, none⟩ = some (.slice sa y.logs.length cap) ∧ V51.cell? ⟨w.heap.size + 1, 0, none⟩ = some (.int .i64 a) ∧ V51.cell? ⟨w.heap.size + 1, 1, none⟩ = some (.int .i64 b) := ⟨cellB hq0 BL.out, cellB hq1 BL.out, cellB hq2 BL.out, cellB hq3 BL.out⟩
      try simp only [Act.put]
      refine wpAnyT_ready [8] (by kernel_rfl) (by simp) ?_
      refine AllReadyT.cons rfl (fun K hK => ?_) AllReadyT.nil
      refine Eq.mpr (if_pos ?_) ?_
      · rfl
      have hs8 := BL.out.size
      refine wp_append_src _ _ _ 22 rfl v2.heap.size 27 tj (.agg #[.int .i64 0, .int .i64 0]) 2 16 undAR HJF.out HY0.out HY1.out HY2.out rfl (by decide) _ _ _ rfl OWN.out (some ⟨BNg, 0, none⟩) 1 1 [.int .i64 a, .int .i64 b] rfl ⟨rfl, .inr ⟨_, rfl, fun jj uu hu => by rw [addr_add, Nat.zero_add, BN.out.cell]; simpa using hu⟩⟩ (one2' a b) (by unfold maxLen; omega) (by omega) hs8 ?_
      intro vo2 V52 own gr _
      replace BX := Lib.hid (Blk.grown BX.out OWN.out (by decide) gr)
      replace BL := Lib.hid (below_owns OWN.out gr BL.out hs8)
      clear OWN
      obtain ⟨xa2, xc2, rfl⟩ := owns_slice own
      have OWN := Lib.hid own
      clear own gr hs8
      refine hK.out _ _ (fun _ => ⟨cellB hq0 BL.out, cellB hq1 BL.out, cellB hq2 BL.out, cellB hq3 BL.out⟩) (fun _ => ?_)
      clear hK K
      replace inv := HeadM.step inv 8 (by kernel_rfl) (by omega)
      clear hS
      have hS : V52.cell? ⟨w.heap.size, 0, none⟩ = some (.int .i64 y.load) ∧ V52.cell? ⟨w.heap.size, 1, none⟩ = some (.slice sa y.logs.length cap) ∧ V52.cell? ⟨w.heap.size + 1, 0, none⟩ = some (.int .i64 a) ∧ V52.cell? ⟨w.heap.size + 1, 1, none⟩ = some (.int .i64 b) := ⟨cellB hq0 BL.out, cellB hq1 BL.out, cellB hq2 BL.out, cellB hq3 BL.out⟩
      try simp only [Act.put]
      refine wpAnyT_take inv (by kernel_rfl) (by omega) (i := 9) (v := .agg #[.int .i64 y.load, .slice xa2 (y.logs.length + 1) xc2]) rfl (by kernel_rfl) (by kernel_rfl) (fun _ _ _ h => h) (Or.inl ⟨by kernel_rfl, ?_⟩) (by assumption) ?_
      · rintro W' ⟨q0, q1, q2, q3⟩
        go_simp
      intro inv2
      clear inv
      have inv := inv2
      clear inv2
      simp only [Act.put]
      refine wpAnyT_chain (fuel := 1) rfl (by kernel_rfl) ?_
      simp only [List.drop_succ_cons, List.drop_zero]
      clear inv hS HQX
      have x0 := BX.out.cell 0
      have x1 := BX.out.cell 1
      have xf := BX.out.frozen
      have xl := BX.out.lt
      simp at x0 x1
      go_wp2_with fail
      go_meet
      have BX2 := (BX.out.set (j := 0) (.int .i64 y.load)).set (j := 1) (.slice xa2 (y.logs.length + 1) xc2)
      refine ⟨BXg, xa2, xc2, rfl, BXl, BX2, ?_, (BL.out.setCell BXl (p := ⟨BXg, 0, none⟩) _).setCell BXl (p := ⟨BXg, 1, none⟩) _⟩
      have ho := Row.of_owns (owns_set (owns_set OWN.out BX.out (by decide) 0 (.int .i64 y.load)) (BX.out.set (j := 0) (.int .i64 y.load)) (by decide) 1 (.slice xa2 (y.logs.length + 1) xc2))
      exact by rw [pairCells_app]; exact ho
  case rest =>
    obtain ⟨g, xa, xc, rfl, hgl, hbx, hrow, hb⟩ := hcut
    clear hq0 hq1 hq2 hq3 HQX
    have BX := Lib.hid hbx
    have HX := Lib.hid (show YardAt wc (.agg #[.int .i64 y.load, .slice xa (y.logs.length + 1) xc]) (more y (a, b)) from ⟨_, rfl, Row.pairsN hrow (by show (y.logs ++ [(a, b)]).length = _; simp)⟩)
    clear hbx hrow hgl
    generalize wc = v9 at *
    replace HV := Lib.hid (HV.out.below hb)
    replace B0 := Lib.hid (B0.out.below hb)
    replace B1 := Lib.hid (B1.out.below hb)
    replace HB := Lib.hid (bC HB.out hb)
    clear hb
    have B0c0 := B0.out.cell 0
    have B0c1 := B0.out.cell 1
    have B1c0 := B1.out.cell 0
    have B1c1 := B1.out.cell 1
    have BXc0 := BX.out.cell 0
    have BXc1 := BX.out.cell 1
    simp at B0c0 B0c1 B1c0 B1c1 BXc0 BXc1
    go_upto_if 53 with (fail)
    clear B0c0 B0c1 B1c0 B1c1 BXc0 BXc1
    refine (fine_b _ (more y (a, b)) _ HX.out).mono ?_
    rintro e v10 ⟨bx, rfl, hbx, hb⟩
    replace HV := Lib.hid (HV.out.below hb)
    replace HX := Lib.hid (HX.out.below hb)
    replace B0 := Lib.hid (B0.out.below hb)
    replace B1 := Lib.hid (B1.out.below hb)
    replace BX := Lib.hid (BX.out.below hb)
    replace HB := Lib.hid (bC HB.out hb)
    clear hb
    have HBX := Lib.hid hbx
    clear hbx
    have B0c0 := B0.out.cell 0
    have B0c1 := B0.out.cell 1
    have B1c0 := B1.out.cell 0
    have B1c1 := B1.out.cell 1
    have BXc0 := BX.out.cell 0
    have BXc1 := BX.out.cell 1
    simp at B0c0 B0c1 B1c0 B1c1 BXc0 BXc1
    go_upto_if 53 with (fail)
    clear B0c0 B0c1 B1c0 B1c1 BXc0 BXc1
    go_cut [13] (fun _ wx => Below v10.heap.size v10 wx)
    case first =>
      have HB1 := HB
      clear HB
      have HB := Lib.hid (Below.refl v10.heap.size v10)
      cases bx
      · have B0c0 := B0.out.cell 0
        have B0c1 := B0.out.cell 1
        have B1c0 := B1.out.cell 0
        have B1c1 := B1.out.cell 1
        have BXc0 := BX.out.cell 0
        have BXc1 := BX.out.cell 1
        simp at B0c0 B0c1 B1c0 B1c1 BXc0 BXc1
        go_wp2_with fail
        clear B0c0 B0c1 B1c0 B1c1 BXc0 BXc1
        go_meet
        exact HB.out
      · have HXO := Lib.hid (HBX.out.1 rfl)
        obtain ⟨hu1, hu2⟩ := HUX.out HXO.out
        obtain ⟨FX, hFX⟩ : ∃ FX, U (more y (a, b)) 101 = FX := ⟨_, rfl⟩
        rw [hFX] at hu1 hu2
        have HFX := Lib.hid hFX
        have l1 : decide (FX < F) = false := decide_eq_false (by omega)
        have l2 : decide (FX > F + 1) = false := decide_eq_false (by omega)
        have l3 : decide (F + 1 < FX) = false := decide_eq_false (by omega)
        have l4 : IntKind.i64.wrap (F + 1) = F + 1 := IntWalk.i64_in _ (by have := HUN.out; have := HUL.out; omega)
        clear hFX hu1 hu2
        have B0c0 := B0.out.cell 0
        have B0c1 := B0.out.cell 1
        have B1c0 := B1.out.cell 0
        have B1c1 := B1.out.cell 1
        have BXc0 := BX.out.cell 0
        have BXc1 := BX.out.cell 1
        simp at B0c0 B0c1 B1c0 B1c1 BXc0 BXc1
        go_wp2_with fail
        clear B0c0 B0c1 B1c0 B1c1 BXc0 BXc1
        refine (fewest_law _ (more y (a, b)) _ HX.out HXO.out).mono ?_
        rintro e v31 ⟨vh2, xs2, rfl, hi2, hf2, hn2, hb⟩
        replace HV := Lib.hid (HV.out.below hb)
        replace HX := Lib.hid (HX.out.below hb)
        replace B0 := Lib.hid (B0.out.below hb)
        replace B1 := Lib.hid (B1.out.below hb)
        replace BX := Lib.hid (BX.out.below hb)
        replace HB := Lib.hid (bC HB.out hb)
        clear hb
        clear hi2 hf2 hn2
        rw [HFX.out]
        have B0c0 := B0.out.cell 0
        have B0c1 := B0.out.cell 1
        have B1c0 := B1.out.cell 0
        have B1c1 := B1.out.cell 1
        have BXc0 := BX.out.cell 0
        have BXc1 := BX.out.cell 1
        simp at B0c0 B0c1 B1c0 B1c1 BXc0 BXc1
        go_wp2_with fail
        clear B0c0 B0c1 B1c0 B1c1 BXc0 BXc1
        go_meet
        exact HB.out
    case rest =>
      have hb := hcut
      clear HBX HUX hcut
      generalize wc = v40 at *
      clear HX BX
      replace HV := Lib.hid (HV.out.below hb)
      replace B0 := Lib.hid (B0.out.below hb)
      replace B1 := Lib.hid (B1.out.below hb)
      replace HB := Lib.hid (bC HB.out hb)
      clear hb
      have B0c0 := B0.out.cell 0
      have B0c1 := B0.out.cell 1
      have B1c0 := B1.out.cell 0
      have B1c1 := B1.out.cell 1
      simp at B0c0 B0c1 B1c0 B1c1
      go_upto_if 75 with (fail)
      clear B0c0 B0c1 B1c0 B1c1
      go_cut [16] (fun _ wx => Below v40.heap.size v40 wx)
      case first =>
        have HB1 := HB
        clear HB
        have HB := Lib.hid (Below.refl v40.heap.size v40)
        by_cases hld : y.load < 10
        case neg =>
          have d1 : decide (y.load < 10) = false := decide_eq_false hld
          rw [d1]
          clear hld d1
          have B0c0 := B0.out.cell 0
          have B0c1 := B0.out.cell 1
          have B1c0 := B1.out.cell 0
          have B1c1 := B1.out.cell 1
          simp at B0c0 B0c1 B1c0 B1c1
          go_wp2_with fail
          clear B0c0 B0c1 B1c0 B1c1
          go_meet
          exact HB.out
        have d1 : decide (y.load < 10) = true := decide_eq_true hld
        rw [d1]
        clear d1
        have hur := HUR.out (by omega)
        have HM := Lib.hid (show YardD.Ok ⟨y.load + 1, y.logs⟩ from ⟨by have := HYD.out.l1; show (1 : Int) ≤ y.load + 1; omega, by show y.load + 1 ≤ 10; omega, HYD.out.count, HYD.out.log⟩)
        have hl1 := HYD.out.l1
        have l4 : IntKind.i64.wrap (y.load + 1) = y.load + 1 := IntWalk.i64_in _ (by omega)
        obtain ⟨FM, hFM⟩ : ∃ FM, U ⟨y.load + 1, y.logs⟩ 101 = FM := ⟨_, rfl⟩
        rw [hFM] at hur
        have HFM := Lib.hid hFM
        have l1 : decide (FM > F) = false := decide_eq_false (by omega)
        have l2 : decide (F < FM) = false := decide_eq_false (by omega)
        clear hld hFM hur
        have B0c0 := B0.out.cell 0
        have B0c1 := B0.out.cell 1
        have B1c0 := B1.out.cell 0
        have B1c1 := B1.out.cell 1
        simp at B0c0 B0c1 B1c0 B1c1
        go_wp2_with fail
        clear B0c0 B0c1 B1c0 B1c1
        refine (fewest_law _ ⟨y.load + 1, y.logs⟩ _ (yard_re HV.out (y.load + 1)) HM.out).mono ?_
        rintro e v61 ⟨vh3, xs3, rfl, hi3, hf3, hn3, hb⟩
        replace HV := Lib.hid (HV.out.below hb)
        replace B0 := Lib.hid (B0.out.below hb)
        replace B1 := Lib.hid (B1.out.below hb)
        replace HB := Lib.hid (bC HB.out hb)
        clear hb
        clear hi3 hf3 hn3
        rw [HFM.out]
        have B0c0 := B0.out.cell 0
        have B0c1 := B0.out.cell 1
        have B1c0 := B1.out.cell 0
        have B1c1 := B1.out.cell 1
        simp at B0c0 B0c1 B1c0 B1c1
        go_wp2_with fail
        clear B0c0 B0c1 B1c0 B1c1
        go_meet
        exact HB.out
      case rest =>
        have hb := hcut
        clear HUR hcut
        generalize wc = v70 at *
        replace HV := Lib.hid (HV.out.below hb)
        replace B0 := Lib.hid (B0.out.below hb)
        replace B1 := Lib.hid (B1.out.below hb)
        replace HB := Lib.hid (bC HB.out hb)
        clear hb
        by_cases hl0 : y.logs.length = 0
        · have hF0 := HU0.out (List.length_eq_zero_iff.1 hl0)
          have e1 : ((y.logs.length : Int) == 0) = true := by rw [hl0]; rfl
          have e2 : decide ((y.logs.length : Int) = 0) = true := by rw [hl0]; rfl
          have e4 : decide (y.logs.length = 0) = true := decide_eq_true hl0
          have e3 : (F == 0) = true := by rw [hF0]; rfl
          have e5 : decide (F = 0) = true := decide_eq_true hF0
          clear hl0 hF0
          have B0c0 := B0.out.cell 0
          have B0c1 := B0.out.cell 1
          have B1c0 := B1.out.cell 0
          have B1c1 := B1.out.cell 1
          simp at B0c0 B0c1 B1c0 B1c1
          go_wp2_with fail
          clear B0c0 B0c1 B1c0 B1c1
          refine (Works_any _).mono ?_
          rintro e v71 ⟨rfl, hb⟩
          replace HV := Lib.hid (HV.out.below hb)
          replace B0 := Lib.hid (B0.out.below hb)
          replace B1 := Lib.hid (B1.out.below hb)
          replace HB := Lib.hid (bC HB.out hb)
          clear hb
          go_wp2
          go_ret
          exact ⟨rfl, HB.out⟩
        have e1 : ((y.logs.length : Int) == 0) = false := by rw [beq_eq_false_iff_ne]; omega
        have e2 : decide ((y.logs.length : Int) = 0) = false := decide_eq_false (by omega)
        have e4 : decide (y.logs.length = 0) = false := decide_eq_false hl0
        clear HU0
        have B0c0 := B0.out.cell 0
        have B0c1 := B0.out.cell 1
        have B1c0 := B1.out.cell 0
        have B1c1 := B1.out.cell 1
        simp at B0c0 B0c1 B1c0 B1c1
        go_upto_region 18 with (fail)
        clear e1 e2 e4
        have hln : 0 < y.logs.length := by omega
        obtain ⟨i, hi⟩ : ∃ i : Nat, which % (y.logs.length : Int) = (i : Int) := ⟨(which % (y.logs.length : Int)).toNat, by have := Int.emod_nonneg which (b := (y.logs.length : Int)) (by omega); omega⟩
        have hil : i < y.logs.length := by have := Int.emod_lt_of_pos which (b := (y.logs.length : Int)) (by omega); omega
        rw [hi]
        clear hi hm
        have hq0 := B0.out.cell 0
        have hq1 := B0.out.cell 1
        simp at hq0 hq1
        clear B0c0 B0c1 B1c0 B1c1
        have HQX := Lib.hid True.intro
        go_cut [21] (fun s wx => ∃ g xa xc, s = .pointer (some ⟨g, 0, none⟩) ∧ v70.heap.size ≤ g ∧ Blk wx g (.cells #[.int .i64 y.load, .slice xa y.logs.length xc] 24) ∧ wx.ownsRow v70.heap.size 27 2 (.slice xa y.logs.length xc) y.logs.length (pairCells y.logs) ∧ Below v70.heap.size v70 wx)
        case first =>
          as_aux_lemma =>
            have HPS := Lib.hid (yard_ps HV.out)
            refine wp_region_T 8 (fun W' => W'.cell? ⟨w.heap.size, 0, none⟩ = some (.int .i64 y.load) ∧ W'.cell? ⟨w.heap.size, 1, none⟩ = some (.slice sa y.logs.length cap)) (by kernel_rfl) (by kernel_rfl) ⟨hq0, hq1⟩ ?_
            intro inv hS
            have BL := Lib.hid (show Below v70.heap.size v70 v70.drew from (Below.refl _ _).drew)
            generalize v70.drew = V0 at *
            refine wpAnyT_take inv (by kernel_rfl) (by omega) (i := 0) (v := .pointer (some ⟨w.heap.size, 0, none⟩)) rfl (by kernel_rfl) (by kernel_rfl) (fun _ _ _ h => h) (Or.inl ⟨by kernel_rfl, ?_⟩) (by assumption) ?_
            · rintro W' ⟨q0, q1⟩
              go_simp
            intro inv2
            clear inv
            have inv := inv2
            clear inv2
            simp only [Act.put, List.setIfInBounds_toArray]
            refine wpAnyT_take inv (by kernel_rfl) (by omega) (i := 1) (v := .int .i64 y.load) rfl (by kernel_rfl) (by kernel_rfl) (fun _ _ _ h => h) (Or.inl ⟨by kernel_rfl, ?_⟩) (by assumption) ?_
            · rintro W' ⟨q0, q1⟩
              go_simp
            intro inv2
            clear inv
            have inv := inv2
            clear inv2
            simp only [Act.put]
            refine wpAnyT_take inv (by kernel_rfl) (by omega) (i := 3) (v := .pointer (some ⟨w.heap.size, 1, none⟩)) rfl (by kernel_rfl) (by kernel_rfl) (fun _ _ _ h => h) (Or.inl ⟨by kernel_rfl, ?_⟩) (by assumption) ?_
            · rintro W' ⟨q0, q1⟩
              go_simp
            intro inv2
            clear inv
            have inv := inv2
            clear inv2
            simp only [Act.put]
            refine wpAnyT_take inv (by kernel_rfl) (by omega) (i := 4) (v := .slice sa y.logs.length cap) rfl (by kernel_rfl) (by kernel_rfl) (fun _ _ _ h => h) (Or.inl ⟨by kernel_rfl, ?_⟩) (by assumption) ?_
            · rintro W' ⟨q0, q1⟩
              go_simp
            intro inv2
            clear inv
            have inv := inv2
            clear inv2
            simp only [Act.put]
            refine wpAnyT_ready [2, 7] (by kernel_rfl) (by simp) ?_
            refine AllReadyT.cons rfl (fun K hK => ?_) ?_
            ·
              go_simp
              refine (ranges_any _ _).mono ?_
              rintro e V1 ⟨rfl, rfl⟩
              have OWN := Lib.hid (owns_nil V0 v70.heap.size 27 2)
              refine hK.out _ _ (fun _ => ⟨cellB hq0 BL.out, cellB hq1 BL.out⟩) (fun _ => ?_)
              clear hK K
              replace inv := HeadM.step inv 2 (by kernel_rfl) (by omega)
              clear hS
              have hS : V0.cell? ⟨w.heap.size, 0, none⟩ = some (.int .i64 y.load) ∧ V0.cell? ⟨w.heap.size, 1, none⟩ = some (.slice sa y.logs.length cap) := ⟨cellB hq0 BL.out, cellB hq1 BL.out⟩
              try simp only [Act.put]
              refine wpAnyT_ready [5, 7] (by kernel_rfl) (by simp) ?_
              refine AllReadyT.cons rfl (fun K hK => ?_) ?_
              ·
                refine Eq.mpr (if_pos ?_) ?_
                · rfl
                have hs8 := BL.out.size
                refine wp_append_src _ _ _ 22 rfl v70.heap.size 27 tj (.agg #[.int .i64 0, .int .i64 0]) 2 16 undAR HJF.out HY0.out HY1.out HY2.out rfl (by decide) _ _ _ rfl OWN.out sa y.logs.length cap (pairCells y.logs) rfl (src_pairs (HPS.out.below BL.out)) (fun u hu => pairCells_one hu) (by unfold maxLen; omega) (by omega) hs8 ?_
                intro vo1 V2 own gr _
                replace BL := Lib.hid (below_owns OWN.out gr BL.out hs8)
                clear OWN
                rw [Nat.zero_add, List.nil_append] at own
                obtain ⟨xa1, xc1, rfl⟩ := owns_slice own
                have OWN := Lib.hid own
                clear own gr hs8
                refine hK.out _ _ (fun _ => ⟨cellB hq0 BL.out, cellB hq1 BL.out⟩) (fun _ => ?_)
                clear hK K
                replace inv := HeadM.step inv 5 (by kernel_rfl) (by omega)
                clear hS
                have hS : V2.cell? ⟨w.heap.size, 0, none⟩ = some (.int .i64 y.load) ∧ V2.cell? ⟨w.heap.size, 1, none⟩ = some (.slice sa y.logs.length cap) := ⟨cellB hq0 BL.out, cellB hq1 BL.out⟩
                try simp only [Act.put]
                refine wpAnyT_take inv (by kernel_rfl) (by omega) (i := 6) (v := .agg #[.int .i64 y.load, .slice xa1 y.logs.length xc1]) rfl (by kernel_rfl) (by kernel_rfl) (fun _ _ _ h => h) (Or.inl ⟨by kernel_rfl, ?_⟩) (by assumption) ?_
                · rintro W' ⟨q0, q1⟩
                  go_simp
                intro inv2
                clear inv
                have inv := inv2
                clear inv2
                simp only [Act.put]
                refine wpAnyT_ready [7] (by kernel_rfl) (by simp) ?_
                refine AllReadyT.cons rfl (fun K hK => ?_) AllReadyT.nil
                go_simp
                have hb4 := below1 V2 (.cells #[.int .i64 0, .slice none 0 0] 24)
                have BX := Lib.hid (Blk.new V2 (.cells #[.int .i64 0, .slice none 0 0] 24))
                have BXl := BL.out.size
                replace OWN := Lib.hid (owns_below OWN.out hb4)
                replace BL := Lib.hid (bC BL.out hb4)
                generalize V2.heap.size = BXg at *
                generalize V2.alloc (.cells #[.int .i64 0, .slice none 0 0] 24) = V3 at *
                clear hb4
                refine hK.out _ _ (fun _ => ⟨cellB hq0 BL.out, cellB hq1 BL.out⟩) (fun _ => ?_)
                clear hK K
                replace inv := HeadM.step inv 7 (by kernel_rfl) (by omega)
                clear hS
                have hS : V3.cell? ⟨w.heap.size, 0, none⟩ = some (.int .i64 y.load) ∧ V3.cell? ⟨w.heap.size, 1, none⟩ = some (.slice sa y.logs.length cap) := ⟨cellB hq0 BL.out, cellB hq1 BL.out⟩
                try simp only [Act.put]
                refine wpAnyT_chain (fuel := 1) rfl (by kernel_rfl) ?_
                simp only [List.drop_succ_cons, List.drop_zero]
                clear inv hS HQX
                have x0 := BX.out.cell 0
                have x1 := BX.out.cell 1
                have xf := BX.out.frozen
                have xl := BX.out.lt
                simp at x0 x1
                go_wp2_with fail
                go_meet
                have BX2 := (BX.out.set (j := 0) (.int .i64 y.load)).set (j := 1) (.slice xa1 y.logs.length xc1)
                refine ⟨BXg, xa1, xc1, rfl, BXl, BX2, ?_, (BL.out.setCell BXl (p := ⟨BXg, 0, none⟩) _).setCell BXl (p := ⟨BXg, 1, none⟩) _⟩
                have ho := (owns_set (owns_set OWN.out BX.out (by decide) 0 (.int .i64 y.load)) (BX.out.set (j := 0) (.int .i64 y.load)) (by decide) 1 (.slice xa1 y.logs.length xc1))
                exact ho
              refine AllReadyT.cons rfl (fun K hK => ?_) AllReadyT.nil
              go_simp
              have hb4 := below1 V0 (.cells #[.int .i64 0, .slice none 0 0] 24)
              have BX := Lib.hid (Blk.new V0 (.cells #[.int .i64 0, .slice none 0 0] 24))
              have BXl := BL.out.size
              replace OWN := Lib.hid (owns_below OWN.out hb4)
              replace BL := Lib.hid (bC BL.out hb4)
              generalize V0.heap.size = BXg at *
              generalize V0.alloc (.cells #[.int .i64 0, .slice none 0 0] 24) = V4 at *
              clear hb4
              refine hK.out _ _ (fun _ => ⟨cellB hq0 BL.out, cellB hq1 BL.out⟩) (fun _ => ?_)
              clear hK K
              replace inv := HeadM.step inv 7 (by kernel_rfl) (by omega)
              clear hS
              have hS : V4.cell? ⟨w.heap.size, 0, none⟩ = some (.int .i64 y.load) ∧ V4.cell? ⟨w.heap.size, 1, none⟩ = some (.slice sa y.logs.length cap) := ⟨cellB hq0 BL.out, cellB hq1 BL.out⟩
              try simp only [Act.put]
              refine wpAnyT_ready [5] (by kernel_rfl) (by simp) ?_
              refine AllReadyT.cons rfl (fun K hK => ?_) AllReadyT.nil
              refine Eq.mpr (if_pos ?_) ?_
              · rfl
              have hs8 := BL.out.size
              refine wp_append_src _ _ _ 22 rfl v70.heap.size 27 tj (.agg #[.int .i64 0, .int .i64 0]) 2 16 undAR HJF.out HY0.out HY1.out HY2.out rfl (by decide) _ _ _ rfl OWN.out sa y.logs.length cap (pairCells y.logs) rfl (src_pairs (HPS.out.below BL.out)) (fun u hu => pairCells_one hu) (by unfold maxLen; omega) (by omega) hs8 ?_
              intro vo1 V5 own gr _
              replace BX := Lib.hid (Blk.grown BX.out OWN.out (by decide) gr)
              replace BL := Lib.hid (below_owns OWN.out gr BL.out hs8)
              clear OWN
              rw [Nat.zero_add, List.nil_append] at own
              obtain ⟨xa1, xc1, rfl⟩ := owns_slice own
              have OWN := Lib.hid own
              clear own gr hs8
              refine hK.out _ _ (fun _ => ⟨cellB hq0 BL.out, cellB hq1 BL.out⟩) (fun _ => ?_)
              clear hK K
              replace inv := HeadM.step inv 5 (by kernel_rfl) (by omega)
              clear hS
              have hS : V5.cell? ⟨w.heap.size, 0, none⟩ = some (.int .i64 y.load) ∧ V5.cell? ⟨w.heap.size, 1, none⟩ = some (.slice sa y.logs.length cap) := ⟨cellB hq0 BL.out, cellB hq1 BL.out⟩
              try simp only [Act.put]
              refine wpAnyT_take inv (by kernel_rfl) (by omega) (i := 6) (v := .agg #[.int .i64 y.load, .slice xa1 y.logs.length xc1]) rfl (by kernel_rfl) (by kernel_rfl) (fun _ _ _ h => h) (Or.inl ⟨by kernel_rfl, ?_⟩) (by assumption) ?_
              · rintro W' ⟨q0, q1⟩
                go_simp
              intro inv2
              clear inv
              have inv := inv2
              clear inv2
              simp only [Act.put]
              refine wpAnyT_chain (fuel := 1) rfl (by kernel_rfl) ?_
              simp only [List.drop_succ_cons, List.drop_zero]
              clear inv hS HQX
              have x0 := BX.out.cell 0
              have x1 := BX.out.cell 1
              have xf := BX.out.frozen
              have xl := BX.out.lt
              simp at x0 x1
              go_wp2_with fail
              go_meet
              have BX2 := (BX.out.set (j := 0) (.int .i64 y.load)).set (j := 1) (.slice xa1 y.logs.length xc1)
              refine ⟨BXg, xa1, xc1, rfl, BXl, BX2, ?_, (BL.out.setCell BXl (p := ⟨BXg, 0, none⟩) _).setCell BXl (p := ⟨BXg, 1, none⟩) _⟩
              have ho := (owns_set (owns_set OWN.out BX.out (by decide) 0 (.int .i64 y.load)) (BX.out.set (j := 0) (.int .i64 y.load)) (by decide) 1 (.slice xa1 y.logs.length xc1))
              exact ho
            refine AllReadyT.cons rfl (fun K hK => ?_) AllReadyT.nil
            go_simp
            have hb4 := below1 V0 (.cells #[.int .i64 0, .slice none 0 0] 24)
            have BX := Lib.hid (Blk.new V0 (.cells #[.int .i64 0, .slice none 0 0] 24))
            have BXl := BL.out.size
            replace BL := Lib.hid (bC BL.out hb4)
            generalize V0.heap.size = BXg at *
            generalize V0.alloc (.cells #[.int .i64 0, .slice none 0 0] 24) = V6 at *
            clear hb4
            refine hK.out _ _ (fun _ => ⟨cellB hq0 BL.out, cellB hq1 BL.out⟩) (fun _ => ?_)
            clear hK K
            replace inv := HeadM.step inv 7 (by kernel_rfl) (by omega)
            clear hS
            have hS : V6.cell? ⟨w.heap.size, 0, none⟩ = some (.int .i64 y.load) ∧ V6.cell? ⟨w.heap.size, 1, none⟩ = some (.slice sa y.logs.length cap) := ⟨cellB hq0 BL.out, cellB hq1 BL.out⟩
            try simp only [Act.put]
            refine wpAnyT_ready [2] (by kernel_rfl) (by simp) ?_
            refine AllReadyT.cons rfl (fun K hK => ?_) AllReadyT.nil
            go_simp
            refine (ranges_any _ _).mono ?_
            rintro e V7 ⟨rfl, rfl⟩
            have OWN := Lib.hid (owns_nil V6 v70.heap.size 27 2)
            refine hK.out _ _ (fun _ => ⟨cellB hq0 BL.out, cellB hq1 BL.out⟩) (fun _ => ?_)
            clear hK K
            replace inv := HeadM.step inv 2 (by kernel_rfl) (by omega)
            clear hS
            have hS : V6.cell? ⟨w.heap.size, 0, none⟩ = some (.int .i64 y.load) ∧ V6.cell? ⟨w.heap.size, 1, none⟩ = some (.slice sa y.logs.length cap) := ⟨cellB hq0 BL.out, cellB hq1 BL.out⟩
            try simp only [Act.put]
            refine wpAnyT_ready [5] (by kernel_rfl) (by simp) ?_
            refine AllReadyT.cons rfl (fun K hK => ?_) AllReadyT.nil
            refine Eq.mpr (if_pos ?_) ?_
            · rfl
            have hs8 := BL.out.size
            refine wp_append_src _ _ _ 22 rfl v70.heap.size 27 tj (.agg #[.int .i64 0, .int .i64 0]) 2 16 undAR HJF.out HY0.out HY1.out HY2.out rfl (by decide) _ _ _ rfl OWN.out sa y.logs.length cap (pairCells y.logs) rfl (src_pairs (HPS.out.below BL.out)) (fun u hu => pairCells_one hu) (by unfold maxLen; omega) (by omega) hs8 ?_
            intro vo1 V8 own gr _
            replace BX := Lib.hid (Blk.grown BX.out OWN.out (by decide) gr)
            replace BL := Lib.hid (below_owns OWN.out gr BL.out hs8)
            clear OWN
            rw [Nat.zero_add, List.nil_append] at own
            obtain ⟨xa1, xc1, rfl⟩ := owns_slice own
            have OWN := Lib.hid own
            clear own gr hs8
            refine hK.out _ _ (fun _ => ⟨cellB hq0 BL.out, cellB hq1 BL.out⟩) (fun _ => ?_)
            clear hK K
            replace inv := HeadM.step inv 5 (by kernel_rfl) (by omega)
            clear hS
            have hS : V8.cell? ⟨w.heap.size, 0, none⟩ = some (.int .i64 y.load) ∧ V8.cell? ⟨w.heap.size, 1, none⟩ = some (.slice sa y.logs.length cap) := ⟨cellB hq0 BL.out, cellB hq1 BL.out⟩
            try simp only [Act.put]
            refine wpAnyT_take inv (by kernel_rfl) (by omega) (i := 6) (v := .agg #[.int .i64 y.load, .slice xa1 y.logs.length xc1]) rfl (by kernel_rfl) (by kernel_rfl) (fun _ _ _ h => h) (Or.inl ⟨by kernel_rfl, ?_⟩) (by assumption) ?_
            · rintro W' ⟨q0, q1⟩
              go_simp
            intro inv2
            clear inv
            have inv := inv2
            clear inv2
            simp only [Act.put]
            refine wpAnyT_chain (fuel := 1) rfl (by kernel_rfl) ?_
            simp only [List.drop_succ_cons, List.drop_zero]
            clear inv hS HQX
            have x0 := BX.out.cell 0
            have x1 := BX.out.cell 1
            have xf := BX.out.frozen
            have xl := BX.out.lt
            simp at x0 x1
            go_wp2_with fail
            go_meet
            have BX2 := (BX.out.set (j := 0) (.int .i64 y.load)).set (j := 1) (.slice xa1 y.logs.length xc1)
            refine ⟨BXg, xa1, xc1, rfl, BXl, BX2, ?_, (BL.out.setCell BXl (p := ⟨BXg, 0, none⟩) _).setCell BXl (p := ⟨BXg, 1, none⟩) _⟩
            have ho := (owns_set (owns_set OWN.out BX.out (by decide) 0 (.int .i64 y.load)) (BX.out.set (j := 0) (.int .i64 y.load)) (by decide) 1 (.slice xa1 y.logs.length xc1))
            exact ho
        case rest =>
          obtain ⟨zg, xa, xc, rfl, hzg, hbz, hown, hb⟩ := hcut
          clear hq0 hq1 HQX
          obtain ⟨lg, lc, e, hlg, hop⟩ := OwnP.of hown (by omega)
          injection e with e1 _ e3
          subst e1
          subst e3
          have BZ := Lib.hid hbz
          have HOP := Lib.hid hop
          have HLG := Lib.hid (show w.heap.size ≤ lg from by have := HB.out.size; omega)
          have HZG := Lib.hid (hop.ne hbz (by decide))
          obtain ⟨b', o', c', e, k0, k1⟩ := hop.row.get i hil
          cases e
          rw [Nat.zero_add] at k0 k1
          have hlo := HYD.out.log _ (List.getElem_mem hil)
          have HLE := Lib.hid (fun p q hp => wider_le (y := y) (i := i) (p := p) (q := q) hp)
          clear hown hbz hop hzg hlg
          generalize wc = v80 at *
          replace k0 := k0
          replace k1 := k1
          replace HV := Lib.hid (HV.out.below hb)
          replace B0 := Lib.hid (B0.out.below hb)
          replace B1 := Lib.hid (B1.out.below hb)
          replace HB := Lib.hid (bC HB.out hb)
          clear hb
          obtain ⟨l1, hl1⟩ : ∃ x, y.logs[i].1 = x := ⟨_, rfl⟩
          obtain ⟨l2, hl2⟩ : ∃ x, y.logs[i].2 = x := ⟨_, rfl⟩
          rw [hl1] at k0 hlo
          rw [hl2] at k1 hlo
          obtain ⟨hlo0, hlo1, hlo2⟩ := hlo
          obtain ⟨p, hp⟩ : ∃ p, max 0 (l1 - wider) = p := ⟨_, rfl⟩
          obtain ⟨q, hq⟩ : ∃ q, min 100 (l2 + wider / 2) = q := ⟨_, rfl⟩
          have HPB := Lib.hid (show 0 ≤ p ∧ p ≤ l1 ∧ l2 ≤ q ∧ q ≤ 100 by omega)
          have HP2 := Lib.hid (HLE.out p q (fun _ => by rw [hl1, hl2]; exact ⟨HPB.out.2.1, HPB.out.2.2.1⟩))
          have HZO := Lib.hid (wider_ok (y := y) (i := i) (p := p) (q := q) HYD.out HPB.out.1 (by have := HPB.out; omega) HPB.out.2.2.2)
          have HUZ := Lib.hid (HUW.out ⟨y.load, y.logs.set i (p, q)⟩ HZO.out rfl (List.length_set ..) HP2.out)
          have hmax : ∀ w ts t, (Builtin.max_ ts t #[.int .i64 0, .int .i64 (l1 - wider)]).run Try.prog w = .ok (.int .i64 p) w := fun w ts t => by rw [run_max_w, hp]
          have hmin : ∀ w ts t, (Builtin.min_ ts t #[.int .i64 100, .int .i64 (l2 + wider / 2)]).run Try.prog w = .ok (.int .i64 q) w := fun w ts t => by rw [run_min_w, hq]
          clear hl1 hl2 hp hq HLE HUW HP2
          have z1 := BZ.out.cell 1
          have z0 := BZ.out.cell 0
          simp at z1 z0
          have B0c0 := B0.out.cell 0
          have B0c1 := B0.out.cell 1
          have B1c0 := B1.out.cell 0
          have B1c1 := B1.out.cell 1
          simp at B0c0 B0c1 B1c0 B1c1
          go_upto_region 19 with (fail)
          clear B0c0 B0c1 B1c0 B1c1
          have y0 : v80.drew.cell? ⟨zg, 1, none⟩ = some (.slice (some ⟨lg, 0, none⟩) y.logs.length xc) := z1
          have y1 : v80.drew.cell? ⟨lg, i * 2, none⟩ = some (.int .i64 l1) := k0
          have y2 : v80.drew.cell? ⟨lg, i * 2 + 1, none⟩ = some (.int .i64 l2) := k1
          have HOQ : OwnP v80.drew lg xc y.logs := HOP.out.below ((Below.refl _ _).drew)
          have BZQ : Blk v80.drew zg (.cells #[.int .i64 y.load, .slice (some ⟨lg, 0, none⟩) y.logs.length xc] 24) := BZ.out.drew
          have BLQ : Below v80.heap.size v80 v80.drew := (Below.refl _ _).drew
          clear z1 k0 k1 z0 HOP BZ
          refine (wp_region_T 23 (fun W' => W'.cell? ⟨zg, 1, none⟩ = some (.slice (some ⟨lg, 0, none⟩) y.logs.length xc) ∧ W'.cell? ⟨lg, i * 2, none⟩ = some (.int .i64 l1) ∧ W'.cell? ⟨lg, i * 2 + 1, none⟩ = some (.int .i64 l2)) (by kernel_rfl) (by kernel_rfl) ⟨y0, y1, y2⟩ ?_)
          intro inv hS
          clear y0 y1 y2
          generalize v80.drew = V0 at *
          refine wpAnyT_take inv (by kernel_rfl) (by omega) (i := 0) (v := .pointer (some ⟨zg, 1, none⟩)) rfl (by kernel_rfl) (by kernel_rfl) (fun _ _ _ h => h) (Or.inl ⟨by kernel_rfl, ?_⟩) (by assumption) ?_
          · rintro W' ⟨q0, q1, q2⟩
            go_simp
          intro inv2
          clear inv
          have inv := inv2
          clear inv2
          simp only [Act.put, List.setIfInBounds_toArray]
          refine wpAnyT_take inv (by kernel_rfl) (by omega) (i := 1) (v := .slice (some ⟨lg, 0, none⟩) y.logs.length xc) rfl (by kernel_rfl) (by kernel_rfl) (fun _ _ _ h => h) (Or.inl ⟨by kernel_rfl, ?_⟩) (by assumption) ?_
          · rintro W' ⟨q0, q1, q2⟩
            go_simp
          intro inv2
          clear inv
          have inv := inv2
          clear inv2
          simp only [Act.put]
          refine wpAnyT_take inv (by kernel_rfl) (by omega) (i := 2) (v := .int .i64 (i : Int)) rfl (by kernel_rfl) (by kernel_rfl) (fun _ _ _ h => h) (Or.inl ⟨by kernel_rfl, ?_⟩) (by assumption) ?_
          · rintro W' ⟨q0, q1, q2⟩
            go_simp
          intro inv2
          clear inv
          have inv := inv2
          clear inv2
          simp only [Act.put]
          refine wpAnyT_take inv (by kernel_rfl) (by omega) (i := 3) (v := .pointer (some ⟨zg, 1, none⟩)) rfl (by kernel_rfl) (by kernel_rfl) (fun _ _ _ h => h) (Or.inl ⟨by kernel_rfl, ?_⟩) (by assumption) ?_
          · rintro W' ⟨q0, q1, q2⟩
            go_simp
          intro inv2
          clear inv
          have inv := inv2
          clear inv2
          simp only [Act.put]
          refine wpAnyT_take inv (by kernel_rfl) (by omega) (i := 4) (v := .slice (some ⟨lg, 0, none⟩) y.logs.length xc) rfl (by kernel_rfl) (by kernel_rfl) (fun _ _ _ h => h) (Or.inl ⟨by kernel_rfl, ?_⟩) (by assumption) ?_
          · rintro W' ⟨q0, q1, q2⟩
            go_simp
          intro inv2
          clear inv
          have inv := inv2
          clear inv2
          simp only [Act.put]
          refine wpAnyT_take inv (by kernel_rfl) (by omega) (i := 5) (v := .int .i64 (i : Int)) rfl (by kernel_rfl) (by kernel_rfl) (fun _ _ _ h => h) (Or.inl ⟨by kernel_rfl, ?_⟩) (by assumption) ?_
          · rintro W' ⟨q0, q1, q2⟩
            go_simp
          intro inv2
          clear inv
          have inv := inv2
          clear inv2
          simp only [Act.put]
          refine wpAnyT_take inv (by kernel_rfl) (by omega) (i := 6) (v := .pointer (some ⟨lg, i * 2, none⟩)) rfl (by kernel_rfl) (by kernel_rfl) (fun _ _ _ h => h) (Or.inl ⟨by kernel_rfl, ?_⟩) (by assumption) ?_
          · rintro W' ⟨q0, q1, q2⟩
            go_simp
          intro inv2
          clear inv
          have inv := inv2
          clear inv2
          simp only [Act.put]
          refine wpAnyT_take inv (by kernel_rfl) (by omega) (i := 7) (v := .pointer (some ⟨lg, i * 2, none⟩)) rfl (by kernel_rfl) (by kernel_rfl) (fun _ _ _ h => h) (Or.inl ⟨by kernel_rfl, ?_⟩) (by assumption) ?_
          · rintro W' ⟨q0, q1, q2⟩
            go_simp
          intro inv2
          clear inv
          have inv := inv2
          clear inv2
          simp only [Act.put]
          refine wpAnyT_take inv (by kernel_rfl) (by omega) (i := 8) (v := .int .i64 l1) rfl (by kernel_rfl) (by kernel_rfl) (fun _ _ _ h => h) (Or.inl ⟨by kernel_rfl, ?_⟩) (by assumption) ?_
          · rintro W' ⟨q0, q1, q2⟩
            go_simp
          intro inv2
          clear inv
          have inv := inv2
          clear inv2
          simp only [Act.put]
          refine wpAnyT_take inv (by kernel_rfl) (by omega) (i := 9) (v := .int .i64 wider) rfl (by kernel_rfl) (by kernel_rfl) (fun _ _ _ h => h) (Or.inl ⟨by kernel_rfl, ?_⟩) (by assumption) ?_
          · rintro W' ⟨q0, q1, q2⟩
            go_simp
          intro inv2
          clear inv
          have inv := inv2
          clear inv2
          simp only [Act.put]
          refine wpAnyT_take inv (by kernel_rfl) (by omega) (i := 10) (v := .int .i64 (l1 - wider)) rfl (by kernel_rfl) (by kernel_rfl) (fun _ _ _ h => h) (Or.inl ⟨by kernel_rfl, ?_⟩) (by assumption) ?_
          · rintro W' ⟨q0, q1, q2⟩
            go_simp
            exact IntWalk.i64_in _ (by omega)
          intro inv2
          clear inv
          have inv := inv2
          clear inv2
          simp only [Act.put]
          refine wpAnyT_take inv (by kernel_rfl) (by omega) (i := 11) (v := .int .i64 p) rfl (by kernel_rfl) (by kernel_rfl) (fun _ _ _ h => h) (Or.inl ⟨by kernel_rfl, ?_⟩) (by assumption) ?_
          · rintro W' ⟨q0, q1, q2⟩
            go_simp
          intro inv2
          clear inv
          have inv := inv2
          clear inv2
          simp only [Act.put]
          refine wpAnyT_take inv (by kernel_rfl) (by omega) (i := 12) (v := .pointer (some ⟨zg, 1, none⟩)) rfl (by kernel_rfl) (by kernel_rfl) (fun _ _ _ h => h) (Or.inl ⟨by kernel_rfl, ?_⟩) (by assumption) ?_
          · rintro W' ⟨q0, q1, q2⟩
            go_simp
          intro inv2
          clear inv
          have inv := inv2
          clear inv2
          simp only [Act.put]
          refine wpAnyT_take inv (by kernel_rfl) (by omega) (i := 13) (v := .slice (some ⟨lg, 0, none⟩) y.logs.length xc) rfl (by kernel_rfl) (by kernel_rfl) (fun _ _ _ h => h) (Or.inl ⟨by kernel_rfl, ?_⟩) (by assumption) ?_
          · rintro W' ⟨q0, q1, q2⟩
            go_simp
          intro inv2
          clear inv
          have inv := inv2
          clear inv2
          simp only [Act.put]
          refine wpAnyT_take inv (by kernel_rfl) (by omega) (i := 14) (v := .int .i64 (i : Int)) rfl (by kernel_rfl) (by kernel_rfl) (fun _ _ _ h => h) (Or.inl ⟨by kernel_rfl, ?_⟩) (by assumption) ?_
          · rintro W' ⟨q0, q1, q2⟩
            go_simp
          intro inv2
          clear inv
          have inv := inv2
          clear inv2
          simp only [Act.put]
          refine wpAnyT_take inv (by kernel_rfl) (by omega) (i := 15) (v := .pointer (some ⟨lg, i * 2, none⟩)) rfl (by kernel_rfl) (by kernel_rfl) (fun _ _ _ h => h) (Or.inl ⟨by kernel_rfl, ?_⟩) (by assumption) ?_
          · rintro W' ⟨q0, q1, q2⟩
            go_simp
          intro inv2
          clear inv
          have inv := inv2
          clear inv2
          simp only [Act.put]
          refine wpAnyT_take inv (by kernel_rfl) (by omega) (i := 16) (v := .pointer (some ⟨lg, i * 2 + 1, none⟩)) rfl (by kernel_rfl) (by kernel_rfl) (fun _ _ _ h => h) (Or.inl ⟨by kernel_rfl, ?_⟩) (by assumption) ?_
          · rintro W' ⟨q0, q1, q2⟩
            go_simp
          intro inv2
          clear inv
          have inv := inv2
          clear inv2
          simp only [Act.put]
          refine wpAnyT_take inv (by kernel_rfl) (by omega) (i := 17) (v := .int .i64 l2) rfl (by kernel_rfl) (by kernel_rfl) (fun _ _ _ h => h) (Or.inl ⟨by kernel_rfl, ?_⟩) (by assumption) ?_
          · rintro W' ⟨q0, q1, q2⟩
            go_simp
          intro inv2
          clear inv
          have inv := inv2
          clear inv2
          simp only [Act.put]
          refine wpAnyT_take inv (by kernel_rfl) (by omega) (i := 18) (v := .int .i64 wider) rfl (by kernel_rfl) (by kernel_rfl) (fun _ _ _ h => h) (Or.inl ⟨by kernel_rfl, ?_⟩) (by assumption) ?_
          · rintro W' ⟨q0, q1, q2⟩
            go_simp
          intro inv2
          clear inv
          have inv := inv2
          clear inv2
          simp only [Act.put]
          refine wpAnyT_take inv (by kernel_rfl) (by omega) (i := 19) (v := .int .i64 (wider / 2)) rfl (by kernel_rfl) (by kernel_rfl) (fun _ _ _ h => h) (Or.inl ⟨by kernel_rfl, ?_⟩) (by assumption) ?_
          · rintro W' ⟨q0, q1, q2⟩
            go_simp
            rw [Int.tdiv_eq_ediv_of_nonneg hd.1]
            exact IntWalk.i64_in _ (by omega)
          intro inv2
          clear inv
          have inv := inv2
          clear inv2
          simp only [Act.put]
          refine wpAnyT_take inv (by kernel_rfl) (by omega) (i := 20) (v := .int .i64 (l2 + wider / 2)) rfl (by kernel_rfl) (by kernel_rfl) (fun _ _ _ h => h) (Or.inl ⟨by kernel_rfl, ?_⟩) (by assumption) ?_
          · rintro W' ⟨q0, q1, q2⟩
            go_simp
            exact IntWalk.i64_in _ (by omega)
          intro inv2
          clear inv
          have inv := inv2
          clear inv2
          simp only [Act.put]
          refine wpAnyT_take inv (by kernel_rfl) (by omega) (i := 21) (v := .int .i64 q) rfl (by kernel_rfl) (by kernel_rfl) (fun _ _ _ h => h) (Or.inl ⟨by kernel_rfl, ?_⟩) (by assumption) ?_
          · rintro W' ⟨q0, q1, q2⟩
            go_simp
          intro inv2
          clear inv
          have inv := inv2
          clear inv2
          simp only [Act.put]
          refine wpAnyT_ready [22] (by kernel_rfl) (by simp) ?_
          refine AllReadyT.cons rfl (fun K hK => ?_) AllReadyT.nil
          go_simp
          refine (to_any p q _).mono ?_
          rintro e z1 ⟨rfl, hb⟩
          refine hK.out _ _ (fun _ => ⟨cellB hS.1 hb, cellB hS.2.1 hb, cellB hS.2.2 hb⟩) (fun _ => ?_)
          replace inv := HeadM.step inv 22 (by kernel_rfl) (by omega)
          clear hK K
          try simp only [Act.put]
          replace hS := And.intro (cellB hS.1 hb) (And.intro (cellB hS.2.1 hb) (cellB hS.2.2 hb))
          replace HOQ := HOQ.below hb
          replace BZQ := BZQ.below hb
          replace BLQ := BLQ.trans (hb.mono (by have := BLQ.size; omega))
          clear hb
          clear inv hS
          refine wpAnyT_chain (fuel := 2) rfl (by kernel_rfl) ?_
          simp only [List.drop_succ_cons, List.drop_zero]
          have HOP := Lib.hid HOQ
          have BZ := Lib.hid BZQ
          have HBL := Lib.hid BLQ
          clear HOQ BZQ BLQ
          obtain ⟨b', o', c', e, x0, x1⟩ := HOP.out.row.get i hil
          cases e
          rw [Nat.zero_add] at x0 x1
          have xf0 := HOP.out.frozen (i * 2)
          have xf1 := HOP.out.frozen (i * 2 + 1)
          have xl := HOP.out.lt
          have zc0 := BZ.out.cell 0
          have zc1 := BZ.out.cell 1
          simp at zc0 zc1
          have hne := HZG.out
          go_upto_region 20 with (fail)
          clear x0 x1 xf0 xf1 xl zc0 zc1
          have hys := (HOP.out.set hil p q).row
          rw [List.length_set] at hys
          have HZ := Lib.hid (show YardAt ((z1.setCell ⟨lg, i * 2, none⟩ (.int .i64 p)).setCell ⟨lg, i * 2 + 1, none⟩ (.int .i64 q)) (.agg #[.int .i64 y.load, .slice (some ⟨lg, 0, none⟩) y.logs.length xc]) ⟨y.load, y.logs.set i (p, q)⟩ from ⟨_, rfl, hys⟩)
          have HBZ := Lib.hid ((BZ.out.other hne (j := i * 2) (.int .i64 p)).other hne (j := i * 2 + 1) (.int .i64 q))
          have HBN := Lib.hid (((bC HB.out HBL.out).setCell HLG.out (p := ⟨lg, i * 2, none⟩) (.int .i64 p)).setCell HLG.out (p := ⟨lg, i * 2 + 1, none⟩) (.int .i64 q))
          clear hys hne HOP HV B0 B1 HB BZ HBL HZG
          generalize (z1.setCell ⟨lg, i * 2, none⟩ (.int .i64 p)).setCell ⟨lg, i * 2 + 1, none⟩ (.int .i64 q) = v90 at *
          have HB := Lib.hid HBN.out
          have BZ := Lib.hid HBZ.out
          clear HBN HBZ
          obtain ⟨FZ, hFZ⟩ : ∃ FZ, U ⟨y.load, y.logs.set i (p, q)⟩ 101 = FZ := ⟨_, rfl⟩
          rw [hFZ] at HUZ
          have HFZ := Lib.hid hFZ
          have huz := HUZ.out
          have l1' : decide (FZ ≤ F) = true := decide_eq_true huz
          clear hFZ
          have BZc0 := BZ.out.cell 0
          have BZc1 := BZ.out.cell 1
          simp at BZc0 BZc1
          go_wp2_with fail
          clear BZc0 BZc1
          refine (fewest_law _ ⟨y.load, y.logs.set i (p, q)⟩ _ HZ.out HZO.out).mono ?_
          rintro e v91 ⟨vh4, xs4, rfl, hi4, hf4, hn4, hb⟩
          replace HZ := Lib.hid (HZ.out.below hb)
          replace BZ := Lib.hid (BZ.out.below hb)
          replace HB := Lib.hid (bC HB.out hb)
          clear hb
          clear hi4 hf4 hn4
          rw [HFZ.out]
          have BZc0 := BZ.out.cell 0
          have BZc1 := BZ.out.cell 1
          simp at BZc0 BZc1
          go_wp2_with fail
          clear BZc0 BZc1
          refine (Works_any _).mono ?_
          rintro e v92 ⟨rfl, hb⟩
          replace HZ := Lib.hid (HZ.out.below hb)
          replace BZ := Lib.hid (BZ.out.below hb)
          replace HB := Lib.hid (bC HB.out hb)
          clear hb
          go_wp2
          go_ret
          exact ⟨rfl, HB.out⟩
end Go.Proofs.Ytjbeoakikdkdaaa
