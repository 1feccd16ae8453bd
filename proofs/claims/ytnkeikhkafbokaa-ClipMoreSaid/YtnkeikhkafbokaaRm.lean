import Derived.Test.YtnkeikhkafbokaaRn
namespace Go.Proofs.Ytnkeikhkafbokaa
open Go.RowKit Go.Dag Go.Sort Go.Shelf
attribute [local go_sem] Oper.semAt_some

/-! ## One more kind, a greater price, all prices times a number -/
theorem more_rem (wn q i : Nat) (h : wn ≤ 255) (hi : wn % q = i) : (wrap64 (wn : Int)).tmod (q : Int) = (i : Int) := by
  rw [IntWalk.wrap64_in _ (by omega), Int.tmod_eq_emod_of_nonneg (by omega), ← hi]
  simp
theorem infoK : (Try.prog.info? 67).map (fun i => (i.zero, i.size, i.bytes)) = some (some (.agg #[.int .i64 0, .int .i64 0, .int .i64 0]), 3, 24) := by kernel_rfl
theorem undK : Try.prog.underlying 25 = some (.slice 67) := by kernel_rfl
theorem run_min_w {P : Program} (w : World) (ts : Array TypeId) (t : TypeId) (k k' : IntKind) (x y : Int) : (Builtin.min_ ts t #[.int k x, .int k' y]).run P w = .ok (.int k (min x y)) w := by
  have e : (if y < x then y else x) = min x y := by
    rw [Int.min_def]
    split <;> split <;> omega
  simp [Builtin.min_, Builtin.min2, e]
def kindCells (l : List KindD) : List Value := l.flatMap fun k => [.int .i64 k.w, .int .i64 k.p, .int .i64 k.m]
theorem kindCells_length (l : List KindD) : (kindCells l).length = l.length * 3 := by
  induction l with
  | nil => rfl
  | cons a l ih => unfold kindCells at ih ⊢; rw [List.flatMap_cons, List.length_append, ih, List.length_cons]; simp; omega
theorem kindCells_one {l : List KindD} : ∀ u ∈ kindCells l, u.oneCell' = true := by
  intro u hu
  obtain ⟨k, _, hk⟩ := List.mem_flatMap.1 hu
  simp only [List.mem_cons, List.not_mem_nil, or_false] at hk
  rcases hk with rfl | rfl | rfl <;> rfl
theorem kindCells_get : ∀ (l : List KindD) (j : Nat) (hj : j < l.length), (kindCells l)[j * 3]? = some (.int .i64 l[j].w) ∧ (kindCells l)[j * 3 + 1]? = some (.int .i64 l[j].p) ∧ (kindCells l)[j * 3 + 2]? = some (.int .i64 l[j].m)
  | a :: l, 0, _ => ⟨rfl, rfl, rfl⟩
  | a :: l, j + 1, hj => by
    have ih := kindCells_get l j (by simpa using hj)
    have e : kindCells (a :: l) = .int .i64 a.w :: .int .i64 a.p :: .int .i64 a.m :: kindCells l := rfl
    rw [e, show (j + 1) * 3 = j * 3 + 1 + 1 + 1 by omega, show j * 3 + 1 + 1 + 1 + 1 = (j * 3 + 1) + 1 + 1 + 1 by omega, show j * 3 + 1 + 1 + 1 + 2 = (j * 3 + 2) + 1 + 1 + 1 by omega]
    simpa using ih
theorem Row.kinds {w : World} {v : Value} {l : List KindD} (h : Row w v l.length 3 (kindCells l)) : KindsAt w v l := by
  obtain ⟨h1, ⟨h2, h3⟩ | ⟨g, cap, cur, e, e1, e3, e4, e5, e6, e7⟩⟩ := h
  · exact ⟨none, 0, by rw [h2, h3], fun hn => absurd (List.length_eq_zero_iff.1 h3) hn⟩
  · refine ⟨some ⟨g, 0, none⟩, cap, e1, fun _ => ⟨g, 0, rfl, fun j hj => ?_⟩⟩
    obtain ⟨c1, c2, c3⟩ := kindCells_get l j hj
    rw [← e7] at c1 c2 c3
    rw [e3.cell, e3.cell, e3.cell, Nat.zero_add]
    simp only [List.getElem?_take, Array.getElem?_toList] at c1 c2 c3
    rw [if_pos (by omega)] at c1 c2 c3
    exact ⟨c1, c2, c3⟩
theorem src_kinds {w : World} {a : Option Addr} {c : Nat} {l : List KindD} (h : KindsAt w (.slice a l.length c) l) : SrcAt w a l.length 3 (kindCells l) := by
  refine ⟨kindCells_length l, ?_⟩
  by_cases hl : l.length = 0
  · exact .inl hl
  · right
    obtain ⟨a', c', e, hc⟩ := h
    cases e
    obtain ⟨b, off, rfl, hd⟩ := hc (fun h => hl (by rw [h]; rfl))
    refine ⟨_, rfl, fun j u hu => ?_⟩
    have hj : j < l.length * 3 := by rw [← kindCells_length]; exact (List.getElem?_eq_some_iff.1 hu).1
    obtain ⟨q1, q2, q3⟩ := hd (j / 3) (by omega)
    obtain ⟨c1, c2, c3⟩ := kindCells_get l (j / 3) (by omega)
    rw [addr_add]
    have hm : j % 3 = 0 ∨ j % 3 = 1 ∨ j % 3 = 2 := by omega
    rcases hm with h0 | h0 | h0
    · rw [show j / 3 * 3 = j by omega, hu] at c1; rw [show off + j / 3 * 3 = off + j by omega] at q1; rw [q1, c1]
    · rw [show j / 3 * 3 + 1 = j by omega, hu] at c2; rw [show off + j / 3 * 3 + 1 = off + j by omega] at q2; rw [q2, c2]
    · rw [show j / 3 * 3 + 2 = j by omega, hu] at c3; rw [show off + j / 3 * 3 + 2 = off + j by omega] at q3; rw [q3, c3]
/-- Kinds in a block of the call's own. -/
def OwnK (W : World) (g c : Nat) (l : List KindD) : Prop := ∃ cur : Array Value, Blk W g (.cells cur 67 (0, 0)) ∧ l.length ≤ c ∧ cur.size = c * 3 ∧ cur.toList.take (l.length * 3) = kindCells l
theorem OwnK.at {W : World} {g c : Nat} {l : List KindD} (h : OwnK W g c l) : KindsAt W (.slice (some ⟨g, 0, none⟩) l.length c) l := by
  obtain ⟨cur, h1, h2, h3, h4⟩ := h
  refine ⟨_, _, rfl, fun _ => ⟨g, 0, rfl, fun j hj => ?_⟩⟩
  obtain ⟨c1, c2, c3⟩ := kindCells_get l j hj
  rw [← h4] at c1 c2 c3
  rw [h1.cell, h1.cell, h1.cell, Nat.zero_add]
  simp only [List.getElem?_take, Array.getElem?_toList] at c1 c2 c3
  rw [if_pos (by omega)] at c1 c2 c3
  exact ⟨c1, c2, c3⟩
theorem OwnK.below {W W' : World} {g c : Nat} {l : List KindD} (h : OwnK W g c l) (hb : Below W.heap.size W W') : OwnK W' g c l := by
  obtain ⟨cur, h1, h2⟩ := h
  exact ⟨cur, h1.below hb, h2⟩
theorem OwnK.frozen {W : World} {g c : Nat} {l : List KindD} (h : OwnK W g c l) (j : Nat) : W.frozen? ⟨g, j, none⟩ = false := by
  obtain ⟨cur, h1, h2⟩ := h
  exact h1.frozen j
theorem OwnK.lt {W : World} {g c : Nat} {l : List KindD} (h : OwnK W g c l) : g < W.heap.size := by
  obtain ⟨cur, h1, h2⟩ := h
  exact h1.lt
theorem OwnK.of {W : World} {base : Nat} {v : Value} {l : List KindD} (h : W.ownsRow base 67 3 v l.length (kindCells l)) (hne : l.length ≠ 0) : ∃ g c, v = .slice (some ⟨g, 0, none⟩) l.length c ∧ base ≤ g ∧ OwnK W g c l := by
  obtain ⟨h1, ⟨h2, h3⟩ | ⟨g, cap, cur, e1, e2, e3, e4, e5, e6, e7⟩⟩ := h
  · exact absurd h3 hne
  · exact ⟨g, cap, e1, e2, cur, e3, e4, e6, e7⟩
theorem kindCells_set : ∀ (l : List KindD) (i : Nat) (q : Int), i < l.length → kindCells (dearK l i q) = (kindCells l).set (i * 3 + 1) (.int .i64 q)
  | a :: l, 0, q, _ => by simp [dearK, kd, kindCells]
  | a :: l, i + 1, q, hi => by
    have ih := kindCells_set l i q (by simpa using hi)
    have e1 : dearK (a :: l) (i + 1) q = a :: dearK l i q := by simp [dearK, kd]
    have e2 : ∀ l, kindCells (a :: l) = .int .i64 a.w :: .int .i64 a.p :: .int .i64 a.m :: kindCells l := fun _ => rfl
    rw [e1, e2, e2, ih, show (i + 1) * 3 + 1 = i * 3 + 1 + 1 + 1 + 1 by omega]
    simp
theorem OwnK.set {W : World} {g c : Nat} {l : List KindD} (h : OwnK W g c l) {i : Nat} (hi : i < l.length) (q : Int) : OwnK (W.setCell ⟨g, i * 3 + 1, none⟩ (.int .i64 q)) g c (dearK l i q) := by
  obtain ⟨cur, h1, h2, h3, h4⟩ := h
  have hl : (dearK l i q).length = l.length := by unfold dearK; rw [List.length_set]
  refine ⟨_, h1.set _, by rw [hl]; exact h2, by simp [h3], ?_⟩
  rw [hl, kindCells_set l i q hi, ← h4]
  simp only [Array.toList_setIfInBounds]
  rw [List.take_set]
/-- The prices of the first kinds times a number. -/
def partK (T : Int) (l : List KindD) (j : Nat) : List KindD := timesK T (l.take j) ++ l.drop j
theorem partK_zero (T : Int) (l : List KindD) : partK T l 0 = l := by simp [partK, timesK]
theorem partK_all (T : Int) (l : List KindD) : partK T l l.length = timesK T l := by simp [partK]
theorem partK_len (T : Int) (l : List KindD) (j : Nat) : (partK T l j).length = l.length := by simp [partK, timesK]; omega
theorem partK_get {T : Int} {l : List KindD} {j : Nat} (hj : j < l.length) : (partK T l j)[j]'(by rw [partK_len]; exact hj) = l[j] := by
  unfold partK
  rw [List.getElem_append_right (by simp [timesK]; omega)]
  simp [timesK, Nat.min_eq_left (Nat.le_of_lt hj)]
theorem partK_succ {T : Int} {l : List KindD} {j : Nat} (hj : j < l.length) : dearK (partK T l j) j (l[j].p * T) = partK T l (j + 1) := by
  have h1 : kd (partK T l j) j = l[j] := by rw [kd_get (by rw [partK_len]; exact hj), partK_get hj]
  unfold dearK
  rw [h1]
  unfold partK
  rw [List.take_succ_eq_append_getElem hj, List.drop_eq_getElem_cons hj]
  have hlen : (timesK T (l.take j)).length = j := by simp [timesK]; omega
  rw [List.set_append_right _ _ (by omega), hlen, Nat.sub_self, List.set_cons_zero]
  unfold timesK
  rw [List.map_append, List.append_assoc]
  rfl
theorem wpList_append_src {P : Program} (w : World) {ops : Array Oper} {rest : List Oper} {o : Oper} {a : Act} {Q : Exit → Act → World → Prop} (hgd : o.guard = none) (s x : Operand) (t : TypeId)
    (ho : o.op = .call { callee := .builtin .append, args := #[s, x], argTypes := #[t, t] })
    (base : Nat) (e : TypeId) (i : TypeInfo) (z : Value) (size bytes : Nat) (ht : P.underlying t = some (.slice e)) (hi : P.info? e = some i) (hz : i.zero = some z)
    (hsize : i.size = size) (hby : i.bytes = bytes) (hzs : z.cells.size = size) (hsz : 0 < size)
    (v : Value) (n : Nat) (xs : List Value) (hs : a.eval s = v) (hown : w.ownsRow base e size v n xs)
    (A : Option Addr) (m c : Nat) (news : List Value) (hx : a.eval x = .slice A m c) (hr : SrcAt w A m size news) (h1 : ∀ u ∈ news, u.oneCell' = true)
    (h63 : n + m ≤ maxLen) (hbytes : (n + m) * bytes ≤ 140737488355328) (hbase : base ≤ w.heap.size)
    (h : ∀ v' w', w'.ownsRow base e size v' (n + m) (xs ++ news) → w.grownBy w' v.ownBlock → (v'.ownBlock = v.ownBlock ∨ v'.ownBlock = some w.heap.size) → wpList P ops Q rest (a.put o.dst v') w') : wpList P ops Q (o :: rest) a w :=
  wpList_plain hgd fun _ hK => wp_append_src w s x t ho base e i z size bytes ht hi hz hsize hby hzs hsz v n xs hs hown A m c news hx hr h1 h63 hbytes hbase fun v' w' h2 h3 h4 => hK _ _ (h v' w' h2 h3 h4)
theorem dearK_len (ks : List KindD) (i : Nat) (q : Int) : (dearK ks i q).length = ks.length := by unfold dearK; rw [List.length_set]
theorem fine_b (v kv : Value) (r : RibD) (ks : List KindD) (w : World) (hv : RibAt w v r) (hk : KindsAt w kv ks) :
    Calls Try.prog 38 #[v, kv] w fun e w' => ∃ b : Bool, e = .returned (.bool b) ∧ (b = true ↔ RibOk r ∧ KindsOk ks) ∧ Below w.heap.size w w' := by
  by_cases h : RibOk r ∧ KindsOk ks
  · exact (fine_yes v kv r ks w hv hk h.1 h.2).mono fun _ _ ⟨e, hb⟩ => ⟨true, e, by simp [h], hb⟩
  · exact (fine_no v kv r ks w hv hk h).mono fun _ _ ⟨e, hb⟩ => ⟨false, e, by simp [h], hb⟩
set_option maxRecDepth 100000 in
set_option maxHeartbeats 16000000 in
theorem ClipMore_any (v kv : Value) (kk : KindD) (wn mn : Int) (r : RibD) (ks : List KindD) (w : World) (hv : RibAt w v r) (hk : KindsAt w kv ks) (hwn : 0 ≤ wn ∧ wn ≤ 255) (hmn : 0 ≤ mn ∧ mn ≤ 255) :
    Calls Try.prog 13 #[v, kv, .agg #[.int .i64 kk.w, .int .i64 kk.p, .int .i64 kk.m], .int .u8 wn, .int .u8 mn] w fun e w' => e = .returned (.bool true) ∧ Below w.heap.size w w' := by
  obtain ⟨wn, rfl⟩ : ∃ n : Nat, wn = (n : Int) := ⟨wn.toNat, by omega⟩
  obtain ⟨mn, rfl⟩ : ∃ n : Nat, mn = (n : Int) := ⟨mn.toNat, by omega⟩
  obtain ⟨sv, rfl, hi⟩ := hv
  obtain ⟨sa, cap, rfl⟩ := hi.slice
  obtain ⟨ka, kcap, rfl⟩ := hk.slice
  have hB0 := below2 w (.cells #[.int .i64 r.len, .slice sa r.fs.length cap] 24) (.cells #[.int .i64 kk.w, .int .i64 kk.p, .int .i64 kk.m] 67)
  have HB := Lib.hid hB0
  have B0 := Lib.hid ((Blk.new w (.cells #[.int .i64 r.len, .slice sa r.fs.length cap] 24)).alloc (.cells #[.int .i64 kk.w, .int .i64 kk.p, .int .i64 kk.m] 67))
  have C0 := Lib.hid (Blk.new (w.alloc (.cells #[.int .i64 r.len, .slice sa r.fs.length cap] 24)) (.cells #[.int .i64 kk.w, .int .i64 kk.p, .int .i64 kk.m] 67))
  rw [World.size_alloc] at C0
  have HV := Lib.hid (show RibAt _ (.agg #[.int .i64 r.len, .slice sa r.fs.length cap]) r from ⟨_, rfl, hi.below hB0⟩)
  have HK := Lib.hid (hk.below hB0)
  clear hi hk hB0
  by_cases hok : RibOk r ∧ KindsOk ks
  case neg =>
    have HN := Lib.hid hok
    clear hok hwn hmn
    go_enter Try.func13, Try.ntmps13
    go_wp2_with fail
    generalize (w.alloc (.cells #[.int .i64 r.len, .slice sa r.fs.length cap] 24)).alloc (.cells #[.int .i64 kk.w, .int .i64 kk.p, .int .i64 kk.m] 67) = W0 at *
    refine (fine_no (.agg #[.int .i64 r.len, .slice sa r.fs.length cap]) (.slice ka ks.length kcap) r ks _ HV.out HK.out HN.out).mono ?_
    rintro e v1 ⟨rfl, hb⟩
    replace HV := Lib.hid (HV.out.below hb)
    replace HK := Lib.hid (HK.out.below hb)
    replace B0 := Lib.hid (B0.out.below hb)
    replace C0 := Lib.hid (C0.out.below hb)
    replace HB := Lib.hid (bC HB.out hb)
    clear hb
    have B0c0 := B0.out.cell 0
    have B0c1 := B0.out.cell 1
    have C0c0 := C0.out.cell 0
    have C0c1 := C0.out.cell 1
    have C0c2 := C0.out.cell 2
    simp at B0c0 B0c1 C0c0 C0c1 C0c2
    go_wp2_with fail
    clear B0c0 B0c1 C0c0 C0c1 C0c2
    refine (Works_any _).mono ?_
    rintro e v2 ⟨rfl, hb⟩
    replace HV := Lib.hid (HV.out.below hb)
    replace HK := Lib.hid (HK.out.below hb)
    replace B0 := Lib.hid (B0.out.below hb)
    replace C0 := Lib.hid (C0.out.below hb)
    replace HB := Lib.hid (bC HB.out hb)
    clear hb
    go_wp2
    go_ret
    exact ⟨rfl, HB.out⟩
  have HR := Lib.hid hok
  have hfc := hok.1.count
  have hk6 := hok.2.1.2
  have hk1 := hok.2.1.1
  obtain ⟨tj, hjf, hy0, hy1, hy2⟩ := info_parts infoK
  have HJF := Lib.hid hjf
  have HY0 := Lib.hid hy0
  have HY1 := Lib.hid hy1
  have HY2 := Lib.hid hy2
  have hl24 := firstL_len HR.out.1 HR.out.2
  obtain ⟨D, hD⟩ : ∃ D, dn (tabOf r ks) 0 = D := ⟨_, rfl⟩
  obtain ⟨M, hM⟩ : ∃ D, many (tabOf r ks) 0 = D := ⟨_, rfl⟩
  obtain ⟨cl, hcl⟩ : ∃ cl, firstL (tabOf r ks) = cl := ⟨_, rfl⟩
  have hd0 := tabOf_dn (r := r) (by have := hok.1.l1; omega) hok.1.l2 hok.2 0
  rw [hD] at hd0
  rw [hcl] at hl24
  obtain ⟨hd00, hd24⟩ := hd0
  have HD := Lib.hid hD
  have HM := Lib.hid hM
  have HCL := Lib.hid hcl
  obtain ⟨i, hi0⟩ : ∃ i, wn % ks.length = i := ⟨_, rfl⟩
  have hil : i < ks.length := by rw [← hi0]; exact Nat.mod_lt _ (by omega)
  have E2 := Lib.hid (more_rem wn ks.length i (by omega) hi0)
  have hko := kd_ok hok.2 hil
  have hkd := kd_get hil
  obtain ⟨p, hp⟩ : ∃ p, (kd ks i).p = p := ⟨_, rfl⟩
  have hpi : ks[i].p = p := by rw [← hkd, hp]
  have hp1 := hko.p1
  have hp2 := hko.p2
  rw [hp] at hp1 hp2
  obtain ⟨q, hq⟩ : ∃ q, min 1000 (p + (mn : Int)) = q := ⟨_, rfl⟩
  have hq1 : p ≤ q := by rw [← hq]; omega
  have hq2 : q ≤ 1000 := by rw [← hq]; omega
  obtain ⟨F1, F2⟩ := dear_facts HR.out.1 HR.out.2 hil (q := q) (by rw [hp]; exact hq1) hq2
  have hmin : ∀ w ts t, (Builtin.min_ ts t #[.int .i64 1000, .int .i64 (p + (mn : Int))]).run Try.prog w = .ok (.int .i64 q) w := fun w ts t => by rw [run_min_w, hq]
  obtain ⟨T, hT⟩ : ∃ T : Nat, 1 + mn % 4 = T := ⟨_, rfl⟩
  have hT4 : T ≤ 4 := by omega
  have hT1 : 1 ≤ T := by omega
  have hm255 : mn ≤ 255 := by omega
  have HPI := Lib.hid hpi
  have HDY := Lib.hid F2
  have HYO := Lib.hid F1
  have HT := Lib.hid hT
  have HMIN := Lib.hid hmin
  have HKP := Lib.hid (fun (j : Nat) (hj : j < ks.length) => hok.2.2 _ (List.getElem_mem hj))
  obtain ⟨kx, hkx⟩ : ∃ kx, ks ++ [kk] = kx := ⟨_, rfl⟩
  have hkxl : kx.length = ks.length + 1 := by rw [← hkx]; simp
  have HKX := Lib.hid hkx
  have hkx7 : kx.length ≤ 7 := by omega
  clear hok hkx hkxl hwn hmn hD hM hcl hi0 hko hkd hp hpi hq F1 F2 hmin hT hjf hy0 hy1 hy2
  go_enter Try.func13, Try.ntmps13
  go_wp2_with fail
  generalize (w.alloc (.cells #[.int .i64 r.len, .slice sa r.fs.length cap] 24)).alloc (.cells #[.int .i64 kk.w, .int .i64 kk.p, .int .i64 kk.m] 67) = W0 at *
  refine (fine_yes (.agg #[.int .i64 r.len, .slice sa r.fs.length cap]) (.slice ka ks.length kcap) r ks _ HV.out HK.out HR.out.1 HR.out.2).mono ?_
  rintro e v1 ⟨rfl, hb⟩
  replace HV := Lib.hid (HV.out.below hb)
  replace HK := Lib.hid (HK.out.below hb)
  replace B0 := Lib.hid (B0.out.below hb)
  replace C0 := Lib.hid (C0.out.below hb)
  replace HB := Lib.hid (bC HB.out hb)
  clear hb
  have B0c0 := B0.out.cell 0
  have B0c1 := B0.out.cell 1
  have C0c0 := C0.out.cell 0
  have C0c1 := C0.out.cell 1
  have C0c2 := C0.out.cell 2
  simp at B0c0 B0c1 C0c0 C0c1 C0c2
  go_wp2_with fail
  clear B0c0 B0c1 C0c0 C0c1 C0c2
  refine (best_any (.agg #[.int .i64 r.len, .slice sa r.fs.length cap]) (.slice ka ks.length kcap) r ks _ HV.out HK.out HR.out.1 HR.out.2).mono ?_
  rintro e v2 ⟨vb, rfl, hp, hb⟩
  replace HV := Lib.hid (HV.out.below hb)
  replace HK := Lib.hid (HK.out.below hb)
  replace B0 := Lib.hid (B0.out.below hb)
  replace C0 := Lib.hid (C0.out.below hb)
  replace HB := Lib.hid (bC HB.out hb)
  clear hb
  rw [HCL.out] at hp
  obtain ⟨ya, yc, rfl⟩ := hp.slice
  have HY := Lib.hid hp
  clear hp
  rw [HD.out]
  have B0c0 := B0.out.cell 0
  have B0c1 := B0.out.cell 1
  have C0c0 := C0.out.cell 0
  have C0c1 := C0.out.cell 1
  have C0c2 := C0.out.cell 2
  simp at B0c0 B0c1 C0c0 C0c1 C0c2
  go_wp2_with fail
  clear B0c0 B0c1 C0c0 C0c1 C0c2
  refine (count_any (.agg #[.int .i64 r.len, .slice sa r.fs.length cap]) (.slice ka ks.length kcap) r ks _ HV.out HK.out HR.out.1 HR.out.2).mono ?_
  rintro e v3 ⟨rfl, hb⟩
  replace HV := Lib.hid (HV.out.below hb)
  replace HK := Lib.hid (HK.out.below hb)
  replace HY := Lib.hid (HY.out.below hb)
  replace B0 := Lib.hid (B0.out.below hb)
  replace C0 := Lib.hid (C0.out.below hb)
  replace HB := Lib.hid (bC HB.out hb)
  clear hb
  rw [HM.out]
  have B0c0 := B0.out.cell 0
  have B0c1 := B0.out.cell 1
  have C0c0 := C0.out.cell 0
  have C0c1 := C0.out.cell 1
  have C0c2 := C0.out.cell 2
  simp at B0c0 B0c1 C0c0 C0c1 C0c2
  go_wp2_with fail
  clear B0c0 B0c1 C0c0 C0c1 C0c2
  have hq0 := C0.out.cell 0
  have hq1 := C0.out.cell 1
  have hq2 := C0.out.cell 2
  simp at hq0 hq1 hq2
  go_cut [16] (fun s wx => KindsAt wx s kx ∧ Below v3.heap.size v3 wx)
  case first =>
    refine wp_region_T 6 (fun W' => W'.cell? ⟨w.heap.size + 1, 0, none⟩ = some (.int .i64 kk.w) ∧ W'.cell? ⟨w.heap.size + 1, 1, none⟩ = some (.int .i64 kk.p) ∧ W'.cell? ⟨w.heap.size + 1, 2, none⟩ = some (.int .i64 kk.m)) (by kernel_rfl) (by kernel_rfl) ⟨hq0, hq1, hq2⟩ ?_
    intro inv hS
    have BL := Lib.hid (show Below v3.heap.size v3 v3.drew from (Below.refl _ _).drew)
    generalize v3.drew = V0 at *
    refine wpAnyT_take inv (by kernel_rfl) (by omega) (i := 1) (v := .slice ka ks.length kcap) rfl (by kernel_rfl) (by kernel_rfl) (fun _ _ _ h => h) (Or.inl ⟨by kernel_rfl, ?_⟩) (by assumption) ?_
    · rintro W' ⟨q0, q1, q2⟩
      go_simp
    intro inv2
    clear inv
    have inv := inv2
    clear inv2
    simp only [Act.put, List.setIfInBounds_toArray]
    refine wpAnyT_take inv (by kernel_rfl) (by omega) (i := 3) (v := .agg #[.int .i64 kk.w, .int .i64 kk.p, .int .i64 kk.m]) rfl (by kernel_rfl) (by kernel_rfl) (fun _ _ _ h => h) (Or.inl ⟨by kernel_rfl, ?_⟩) (by assumption) ?_
    · rintro W' ⟨q0, q1, q2⟩
      go_simp
    intro inv2
    clear inv
    have inv := inv2
    clear inv2
    simp only [Act.put]
    refine wpAnyT_ready [0, 4] (by kernel_rfl) (by simp) ?_
    refine AllReadyT.cons rfl (fun K hK => ?_) ?_
    ·
      go_simp
      have hs5 := BL.out.size
      have hb5 := below1 V0 (.cells #[] 67)
      have OWN := Lib.hid (owns_empty (e := 67) (size := 3) hs5)
      replace BL := Lib.hid (bC BL.out hb5)
      generalize V0.heap.size = go at *
      generalize V0.alloc (.cells #[] 67) = V1 at *
      clear hb5 hs5
      refine hK.out _ _ (fun _ => ⟨cellB hq0 BL.out, cellB hq1 BL.out, cellB hq2 BL.out⟩) (fun _ => ?_)
      clear hK K
      replace inv := HeadM.step inv 0 (by kernel_rfl) (by omega)
      clear hS
      have hS : V1.cell? ⟨w.heap.size + 1, 0, none⟩ = some (.int .i64 kk.w) ∧ V1.cell? ⟨w.heap.size + 1, 1, none⟩ = some (.int .i64 kk.p) ∧ V1.cell? ⟨w.heap.size + 1, 2, none⟩ = some (.int .i64 kk.m) := ⟨cellB hq0 BL.out, cellB hq1 BL.out, cellB hq2 BL.out⟩
      try simp only [Act.put]
      refine wpAnyT_ready [2, 4] (by kernel_rfl) (by simp) ?_
      refine AllReadyT.cons rfl (fun K hK => ?_) ?_
      ·
        refine Eq.mpr (if_pos ?_) ?_
        · rfl
        have hs8 := BL.out.size
        refine wp_append_src _ _ _ 25 rfl v3.heap.size 67 tj (.agg #[.int .i64 0, .int .i64 0, .int .i64 0]) 3 24 undK HJF.out HY0.out HY1.out HY2.out rfl (by decide) _ _ _ rfl OWN.out ka ks.length kcap (kindCells ks) rfl (src_kinds (HK.out.below BL.out)) kindCells_one (by unfold maxLen; omega) (by omega) hs8 ?_
        intro vo V2 own gr att
        replace BL := Lib.hid (below_owns OWN.out gr BL.out hs8)
        clear OWN
        rw [Nat.zero_add, List.nil_append] at own
        have OWN := Lib.hid own
        clear own gr att hs8
        refine hK.out _ _ (fun _ => ⟨cellB hq0 BL.out, cellB hq1 BL.out, cellB hq2 BL.out⟩) (fun _ => ?_)
        clear hK K
        replace inv := HeadM.step inv 2 (by kernel_rfl) (by omega)
        clear hS
        have hS : V2.cell? ⟨w.heap.size + 1, 0, none⟩ = some (.int .i64 kk.w) ∧ V2.cell? ⟨w.heap.size + 1, 1, none⟩ = some (.int .i64 kk.p) ∧ V2.cell? ⟨w.heap.size + 1, 2, none⟩ = some (.int .i64 kk.m) := ⟨cellB hq0 BL.out, cellB hq1 BL.out, cellB hq2 BL.out⟩
        try simp only [Act.put]
        refine wpAnyT_ready [4] (by kernel_rfl) (by simp) ?_
        refine AllReadyT.cons rfl (fun K hK => ?_) AllReadyT.nil
        go_simp
        have hb4 := below1 V2 (.cells #[.int .i64 kk.w, .int .i64 kk.p, .int .i64 kk.m] 67)
        have BN := Lib.hid (Blk.new V2 (.cells #[.int .i64 kk.w, .int .i64 kk.p, .int .i64 kk.m] 67))
        replace OWN := Lib.hid (owns_below OWN.out hb4)
        replace BL := Lib.hid (bC BL.out hb4)
        generalize V2.heap.size = gn at *
        generalize V2.alloc (.cells #[.int .i64 kk.w, .int .i64 kk.p, .int .i64 kk.m] 67) = V3 at *
        clear hb4
        refine hK.out _ _ (fun _ => ⟨cellB hq0 BL.out, cellB hq1 BL.out, cellB hq2 BL.out⟩) (fun _ => ?_)
        clear hK K
        replace inv := HeadM.step inv 4 (by kernel_rfl) (by omega)
        clear hS
        have hS : V3.cell? ⟨w.heap.size + 1, 0, none⟩ = some (.int .i64 kk.w) ∧ V3.cell? ⟨w.heap.size + 1, 1, none⟩ = some (.int .i64 kk.p) ∧ V3.cell? ⟨w.heap.size + 1, 2, none⟩ = some (.int .i64 kk.m) := ⟨cellB hq0 BL.out, cellB hq1 BL.out, cellB hq2 BL.out⟩
        try simp only [Act.put]
        refine wpAnyT_ready [5] (by kernel_rfl) (by simp) ?_
        refine AllReadyT.cons rfl (fun K hK => ?_) AllReadyT.nil
        refine Eq.mpr (if_pos ?_) ?_
        · rfl
        have hs8 := BL.out.size
        refine wp_append_src _ _ _ 25 rfl v3.heap.size 67 tj (.agg #[.int .i64 0, .int .i64 0, .int .i64 0]) 3 24 undK HJF.out HY0.out HY1.out HY2.out rfl (by decide) _ _ _ rfl OWN.out (some ⟨gn, 0, none⟩) 1 1 [.int .i64 kk.w, .int .i64 kk.p, .int .i64 kk.m] rfl ⟨rfl, .inr ⟨_, rfl, fun jj uu hu => by rw [addr_add, Nat.zero_add, BN.out.cell]; simpa using hu⟩⟩ (by intro u hu; simp only [List.mem_cons, List.not_mem_nil, or_false] at hu; rcases hu with rfl | rfl | rfl <;> rfl) (by unfold maxLen; omega) (by omega) hs8 ?_
        intro vo2 V4 own gr att
        replace BL := Lib.hid (below_owns OWN.out gr BL.out hs8)
        clear OWN
        have OWN := Lib.hid own
        clear own gr att hs8
        refine hK.out _ _ (fun _ => ⟨cellB hq0 BL.out, cellB hq1 BL.out, cellB hq2 BL.out⟩) (fun _ => ?_)
        clear hK K
        replace inv := HeadM.step inv 5 (by kernel_rfl) (by omega)
        clear hS
        have hS : V4.cell? ⟨w.heap.size + 1, 0, none⟩ = some (.int .i64 kk.w) ∧ V4.cell? ⟨w.heap.size + 1, 1, none⟩ = some (.int .i64 kk.p) ∧ V4.cell? ⟨w.heap.size + 1, 2, none⟩ = some (.int .i64 kk.m) := ⟨cellB hq0 BL.out, cellB hq1 BL.out, cellB hq2 BL.out⟩
        try simp only [Act.put]
        refine wpAnyT_chain (fuel := 1) rfl (by kernel_rfl) ?_
        simp only [List.drop_succ_cons, List.drop_zero]
        clear inv hS hq0 hq1 hq2
        go_wp2_with fail
        go_meet
        rw [← HKX.out]
        refine ⟨Row.kinds (l := ks ++ [kk]) ?_, BL.out⟩
        have ho := Row.of_owns OWN.out
        rw [show kindCells (ks ++ [kk]) = kindCells ks ++ [.int .i64 kk.w, .int .i64 kk.p, .int .i64 kk.m] by simp [kindCells], List.length_append, List.length_singleton]
        exact ho
      refine AllReadyT.cons rfl (fun K hK => ?_) AllReadyT.nil
      go_simp
      have hb4 := below1 V1 (.cells #[.int .i64 kk.w, .int .i64 kk.p, .int .i64 kk.m] 67)
      have BN := Lib.hid (Blk.new V1 (.cells #[.int .i64 kk.w, .int .i64 kk.p, .int .i64 kk.m] 67))
      have HNE := Lib.hid (show V1.heap.size ≠ go from by have := owns_block OWN.out (g := go) rfl; omega)
      replace OWN := Lib.hid (owns_below OWN.out hb4)
      replace BL := Lib.hid (bC BL.out hb4)
      generalize V1.heap.size = gn at *
      generalize V1.alloc (.cells #[.int .i64 kk.w, .int .i64 kk.p, .int .i64 kk.m] 67) = V5 at *
      clear hb4
      refine hK.out _ _ (fun _ => ⟨cellB hq0 BL.out, cellB hq1 BL.out, cellB hq2 BL.out⟩) (fun _ => ?_)
      clear hK K
      replace inv := HeadM.step inv 4 (by kernel_rfl) (by omega)
      clear hS
      have hS : V5.cell? ⟨w.heap.size + 1, 0, none⟩ = some (.int .i64 kk.w) ∧ V5.cell? ⟨w.heap.size + 1, 1, none⟩ = some (.int .i64 kk.p) ∧ V5.cell? ⟨w.heap.size + 1, 2, none⟩ = some (.int .i64 kk.m) := ⟨cellB hq0 BL.out, cellB hq1 BL.out, cellB hq2 BL.out⟩
      try simp only [Act.put]
      refine wpAnyT_ready [2] (by kernel_rfl) (by simp) ?_
      refine AllReadyT.cons rfl (fun K hK => ?_) AllReadyT.nil
      refine Eq.mpr (if_pos ?_) ?_
      · rfl
      have hs8 := BL.out.size
      refine wp_append_src _ _ _ 25 rfl v3.heap.size 67 tj (.agg #[.int .i64 0, .int .i64 0, .int .i64 0]) 3 24 undK HJF.out HY0.out HY1.out HY2.out rfl (by decide) _ _ _ rfl OWN.out ka ks.length kcap (kindCells ks) rfl (src_kinds (HK.out.below BL.out)) kindCells_one (by unfold maxLen; omega) (by omega) hs8 ?_
      intro vo V6 own gr att
      replace BN := Lib.hid (show Blk _ gn (.cells #[.int .i64 kk.w, .int .i64 kk.p, .int .i64 kk.m] 67) from (gr.block gn BN.out.lt (fun h => HNE.out (Option.some.inj (show some gn = some go from h)))).trans BN.out)
      replace BL := Lib.hid (below_owns OWN.out gr BL.out hs8)
      clear OWN
      rw [Nat.zero_add, List.nil_append] at own
      have OWN := Lib.hid own
      clear own gr att hs8
      refine hK.out _ _ (fun _ => ⟨cellB hq0 BL.out, cellB hq1 BL.out, cellB hq2 BL.out⟩) (fun _ => ?_)
      clear hK K
      replace inv := HeadM.step inv 2 (by kernel_rfl) (by omega)
      clear hS
      have hS : V6.cell? ⟨w.heap.size + 1, 0, none⟩ = some (.int .i64 kk.w) ∧ V6.cell? ⟨w.heap.size + 1, 1, none⟩ = some (.int .i64 kk.p) ∧ V6.cell? ⟨w.heap.size + 1, 2, none⟩ = some (.int .i64 kk.m) := ⟨cellB hq0 BL.out, cellB hq1 BL.out, cellB hq2 BL.out⟩
      try simp only [Act.put]
      refine wpAnyT_ready [5] (by kernel_rfl) (by simp) ?_
      refine AllReadyT.cons rfl (fun K hK => ?_) AllReadyT.nil
      refine Eq.mpr (if_pos ?_) ?_
      · rfl
      have hs8 := BL.out.size
      refine wp_append_src _ _ _ 25 rfl v3.heap.size 67 tj (.agg #[.int .i64 0, .int .i64 0, .int .i64 0]) 3 24 undK HJF.out HY0.out HY1.out HY2.out rfl (by decide) _ _ _ rfl OWN.out (some ⟨gn, 0, none⟩) 1 1 [.int .i64 kk.w, .int .i64 kk.p, .int .i64 kk.m] rfl ⟨rfl, .inr ⟨_, rfl, fun jj uu hu => by rw [addr_add, Nat.zero_add, BN.out.cell]; simpa using hu⟩⟩ (by intro u hu; simp only [List.mem_cons, List.not_mem_nil, or_false] at hu; rcases hu with rfl | rfl | rfl <;> rfl) (by unfold maxLen; omega) (by omega) hs8 ?_
      intro vo2 V7 own gr att
      replace BL := Lib.hid (below_owns OWN.out gr BL.out hs8)
      clear OWN
      have OWN := Lib.hid own
      clear own gr att hs8
      refine hK.out _ _ (fun _ => ⟨cellB hq0 BL.out, cellB hq1 BL.out, cellB hq2 BL.out⟩) (fun _ => ?_)
      clear hK K
      replace inv := HeadM.step inv 5 (by kernel_rfl) (by omega)
      clear hS
      have hS : V7.cell? ⟨w.heap.size + 1, 0, none⟩ = some (.int .i64 kk.w) ∧ V7.cell? ⟨w.heap.size + 1, 1, none⟩ = some (.int .i64 kk.p) ∧ V7.cell? ⟨w.heap.size + 1, 2, none⟩ = some (.int .i64 kk.m) := ⟨cellB hq0 BL.out, cellB hq1 BL.out, cellB hq2 BL.out⟩
      try simp only [Act.put]
      refine wpAnyT_chain (fuel := 1) rfl (by kernel_rfl) ?_
      simp only [List.drop_succ_cons, List.drop_zero]
      clear inv hS hq0 hq1 hq2
      go_wp2_with fail
      go_meet
      rw [← HKX.out]
      refine ⟨Row.kinds (l := ks ++ [kk]) ?_, BL.out⟩
      have ho := Row.of_owns OWN.out
      rw [show kindCells (ks ++ [kk]) = kindCells ks ++ [.int .i64 kk.w, .int .i64 kk.p, .int .i64 kk.m] by simp [kindCells], List.length_append, List.length_singleton]
      exact ho
    refine AllReadyT.cons rfl (fun K hK => ?_) AllReadyT.nil
    go_simp
    have hb4 := below1 V0 (.cells #[.int .i64 kk.w, .int .i64 kk.p, .int .i64 kk.m] 67)
    have BN := Lib.hid (Blk.new V0 (.cells #[.int .i64 kk.w, .int .i64 kk.p, .int .i64 kk.m] 67))
    replace BL := Lib.hid (bC BL.out hb4)
    generalize V0.heap.size = gn at *
    generalize V0.alloc (.cells #[.int .i64 kk.w, .int .i64 kk.p, .int .i64 kk.m] 67) = V8 at *
    clear hb4
    refine hK.out _ _ (fun _ => ⟨cellB hq0 BL.out, cellB hq1 BL.out, cellB hq2 BL.out⟩) (fun _ => ?_)
    clear hK K
    replace inv := HeadM.step inv 4 (by kernel_rfl) (by omega)
    clear hS
    have hS : V8.cell? ⟨w.heap.size + 1, 0, none⟩ = some (.int .i64 kk.w) ∧ V8.cell? ⟨w.heap.size + 1, 1, none⟩ = some (.int .i64 kk.p) ∧ V8.cell? ⟨w.heap.size + 1, 2, none⟩ = some (.int .i64 kk.m) := ⟨cellB hq0 BL.out, cellB hq1 BL.out, cellB hq2 BL.out⟩
    try simp only [Act.put]
    refine wpAnyT_ready [0] (by kernel_rfl) (by simp) ?_
    refine AllReadyT.cons rfl (fun K hK => ?_) AllReadyT.nil
    go_simp
    have hs5 := BL.out.size
    have hb5 := below1 V8 (.cells #[] 67)
    have OWN := Lib.hid (owns_empty (e := 67) (size := 3) hs5)
    have HNE := Lib.hid (show gn ≠ V8.heap.size from by have := BN.out.lt; omega)
    replace BN := Lib.hid (BN.out.below hb5)
    replace BL := Lib.hid (bC BL.out hb5)
    generalize V8.heap.size = go at *
    generalize V8.alloc (.cells #[] 67) = V9 at *
    clear hb5 hs5
    refine hK.out _ _ (fun _ => ⟨cellB hq0 BL.out, cellB hq1 BL.out, cellB hq2 BL.out⟩) (fun _ => ?_)
    clear hK K
    replace inv := HeadM.step inv 0 (by kernel_rfl) (by omega)
    clear hS
    have hS : V9.cell? ⟨w.heap.size + 1, 0, none⟩ = some (.int .i64 kk.w) ∧ V9.cell? ⟨w.heap.size + 1, 1, none⟩ = some (.int .i64 kk.p) ∧ V9.cell? ⟨w.heap.size + 1, 2, none⟩ = some (.int .i64 kk.m) := ⟨cellB hq0 BL.out, cellB hq1 BL.out, cellB hq2 BL.out⟩
    try simp only [Act.put]
    refine wpAnyT_ready [2] (by kernel_rfl) (by simp) ?_
    refine AllReadyT.cons rfl (fun K hK => ?_) AllReadyT.nil
    refine Eq.mpr (if_pos ?_) ?_
    · rfl
    have hs8 := BL.out.size
    refine wp_append_src _ _ _ 25 rfl v3.heap.size 67 tj (.agg #[.int .i64 0, .int .i64 0, .int .i64 0]) 3 24 undK HJF.out HY0.out HY1.out HY2.out rfl (by decide) _ _ _ rfl OWN.out ka ks.length kcap (kindCells ks) rfl (src_kinds (HK.out.below BL.out)) kindCells_one (by unfold maxLen; omega) (by omega) hs8 ?_
    intro vo V10 own gr att
    replace BN := Lib.hid (show Blk _ gn (.cells #[.int .i64 kk.w, .int .i64 kk.p, .int .i64 kk.m] 67) from (gr.block gn BN.out.lt (fun h => HNE.out (Option.some.inj (show some gn = some go from h)))).trans BN.out)
    replace BL := Lib.hid (below_owns OWN.out gr BL.out hs8)
    clear OWN
    rw [Nat.zero_add, List.nil_append] at own
    have OWN := Lib.hid own
    clear own gr att hs8
    refine hK.out _ _ (fun _ => ⟨cellB hq0 BL.out, cellB hq1 BL.out, cellB hq2 BL.out⟩) (fun _ => ?_)
    clear hK K
    replace inv := HeadM.step inv 2 (by kernel_rfl) (by omega)
    clear hS
    have hS : V10.cell? ⟨w.heap.size + 1, 0, none⟩ = some (.int .i64 kk.w) ∧ V10.cell? ⟨w.heap.size + 1, 1, none⟩ = some (.int .i64 kk.p) ∧ V10.cell? ⟨w.heap.size + 1, 2, none⟩ = some (.int .i64 kk.m) := ⟨cellB hq0 BL.out, cellB hq1 BL.out, cellB hq2 BL.out⟩
    try simp only [Act.put]
    refine wpAnyT_ready [5] (by kernel_rfl) (by simp) ?_
    refine AllReadyT.cons rfl (fun K hK => ?_) AllReadyT.nil
    refine Eq.mpr (if_pos ?_) ?_
    · rfl
    have hs8 := BL.out.size
    refine wp_append_src _ _ _ 25 rfl v3.heap.size 67 tj (.agg #[.int .i64 0, .int .i64 0, .int .i64 0]) 3 24 undK HJF.out HY0.out HY1.out HY2.out rfl (by decide) _ _ _ rfl OWN.out (some ⟨gn, 0, none⟩) 1 1 [.int .i64 kk.w, .int .i64 kk.p, .int .i64 kk.m] rfl ⟨rfl, .inr ⟨_, rfl, fun jj uu hu => by rw [addr_add, Nat.zero_add, BN.out.cell]; simpa using hu⟩⟩ (by intro u hu; simp only [List.mem_cons, List.not_mem_nil, or_false] at hu; rcases hu with rfl | rfl | rfl <;> rfl) (by unfold maxLen; omega) (by omega) hs8 ?_
    intro vo2 V11 own gr att
    replace BL := Lib.hid (below_owns OWN.out gr BL.out hs8)
    clear OWN
    have OWN := Lib.hid own
    clear own gr att hs8
    refine hK.out _ _ (fun _ => ⟨cellB hq0 BL.out, cellB hq1 BL.out, cellB hq2 BL.out⟩) (fun _ => ?_)
    clear hK K
    replace inv := HeadM.step inv 5 (by kernel_rfl) (by omega)
    clear hS
    have hS : V11.cell? ⟨w.heap.size + 1, 0, none⟩ = some (.int .i64 kk.w) ∧ V11.cell? ⟨w.heap.size + 1, 1, none⟩ = some (.int .i64 kk.p) ∧ V11.cell? ⟨w.heap.size + 1, 2, none⟩ = some (.int .i64 kk.m) := ⟨cellB hq0 BL.out, cellB hq1 BL.out, cellB hq2 BL.out⟩
    try simp only [Act.put]
    refine wpAnyT_chain (fuel := 1) rfl (by kernel_rfl) ?_
    simp only [List.drop_succ_cons, List.drop_zero]
    clear inv hS hq0 hq1 hq2
    go_wp2_with fail
    go_meet
    rw [← HKX.out]
    refine ⟨Row.kinds (l := ks ++ [kk]) ?_, BL.out⟩
    have ho := Row.of_owns OWN.out
    rw [show kindCells (ks ++ [kk]) = kindCells ks ++ [.int .i64 kk.w, .int .i64 kk.p, .int .i64 kk.m] by simp [kindCells], List.length_append, List.length_singleton]
    exact ho
  clear hq0 hq1 hq2
  obtain ⟨hx, hb⟩ := hcut
  rename World => W5
  obtain ⟨xa, xc, hxe⟩ := hx.slice
  subst hxe
  have HX := Lib.hid hx
  clear hx
  replace HV := Lib.hid (HV.out.below hb)
  replace HK := Lib.hid (HK.out.below hb)
  replace HY := Lib.hid (HY.out.below hb)
  replace B0 := Lib.hid (B0.out.below hb)
  replace C0 := Lib.hid (C0.out.below hb)
  replace HB := Lib.hid (bC HB.out hb)
  clear hb
  have B0c0 := B0.out.cell 0
  have B0c1 := B0.out.cell 1
  have C0c0 := C0.out.cell 0
  have C0c1 := C0.out.cell 1
  have C0c2 := C0.out.cell 2
  simp at B0c0 B0c1 C0c0 C0c1 C0c2
  go_upto_if 62 with (fail)
  clear B0c0 B0c1 C0c0 C0c1 C0c2
  refine (fine_b (.agg #[.int .i64 r.len, .slice sa r.fs.length cap]) (.slice xa kx.length xc) r kx _ HV.out HX.out).mono ?_
  rintro e v4 ⟨bx, rfl, hbx, hb⟩
  replace HV := Lib.hid (HV.out.below hb)
  replace HK := Lib.hid (HK.out.below hb)
  replace HY := Lib.hid (HY.out.below hb)
  replace HX := Lib.hid (HX.out.below hb)
  replace B0 := Lib.hid (B0.out.below hb)
  replace C0 := Lib.hid (C0.out.below hb)
  replace HB := Lib.hid (bC HB.out hb)
  clear hb
  have HBX := Lib.hid hbx
  clear hbx
  have B0c0 := B0.out.cell 0
  have B0c1 := B0.out.cell 1
  have C0c0 := C0.out.cell 0
  have C0c1 := C0.out.cell 1
  have C0c2 := C0.out.cell 2
  simp at B0c0 B0c1 C0c0 C0c1 C0c2
  go_upto_if 62 with (fail)
  clear B0c0 B0c1 C0c0 C0c1 C0c2
  go_cut [16] (fun s wx => s = (.slice xa kx.length xc) ∧ Below v4.heap.size v4 wx)
  case first =>
    have HB1 := HB
    clear HB
    have HB := Lib.hid (Below.refl v4.heap.size v4)
    cases bx
    · have B0c0 := B0.out.cell 0
      have B0c1 := B0.out.cell 1
      have C0c0 := C0.out.cell 0
      have C0c1 := C0.out.cell 1
      have C0c2 := C0.out.cell 2
      simp at B0c0 B0c1 C0c0 C0c1 C0c2
      go_wp2_with fail
      clear B0c0 B0c1 C0c0 C0c1 C0c2
      go_meet
      exact ⟨rfl, HB.out⟩
    · have hx := (HBX.out.1 rfl).2
      have hmk := more_kinds (r := r) (k := kk) (by have := HR.out.1.l1; omega) HR.out.2 (by rw [HKX.out]; exact hx) 0
      rw [HKX.out] at hmk
      obtain ⟨DX, hDX⟩ : ∃ D, dn (tabOf r kx) 0 = D := ⟨_, rfl⟩
      rw [hDX, HD.out] at hmk
      have HDX := Lib.hid hDX
      have HXO := Lib.hid hx
      have l1 : decide (DX < D) = false := by simp; omega
      have l2 : decide (D > DX) = false := by simp; omega
      clear hx hDX
      have B0c0 := B0.out.cell 0
      have B0c1 := B0.out.cell 1
      have C0c0 := C0.out.cell 0
      have C0c1 := C0.out.cell 1
      have C0c2 := C0.out.cell 2
      simp at B0c0 B0c1 C0c0 C0c1 C0c2
      go_wp2_with fail
      clear B0c0 B0c1 C0c0 C0c1 C0c2
      refine (best_any (.agg #[.int .i64 r.len, .slice sa r.fs.length cap]) (.slice xa kx.length xc) r kx _ HV.out HX.out HR.out.1 HXO.out).mono ?_
      rintro e v21 ⟨vb2, rfl, -, hb⟩
      replace HV := Lib.hid (HV.out.below hb)
      replace HK := Lib.hid (HK.out.below hb)
      replace HX := Lib.hid (HX.out.below hb)
      replace B0 := Lib.hid (B0.out.below hb)
      replace C0 := Lib.hid (C0.out.below hb)
      replace HB := Lib.hid (bC HB.out hb)
      clear hb
      rw [HDX.out]
      have B0c0 := B0.out.cell 0
      have B0c1 := B0.out.cell 1
      have C0c0 := C0.out.cell 0
      have C0c1 := C0.out.cell 1
      have C0c2 := C0.out.cell 2
      simp at B0c0 B0c1 C0c0 C0c1 C0c2
      go_wp2_with fail
      clear B0c0 B0c1 C0c0 C0c1 C0c2
      go_meet
      exact ⟨rfl, HB.out⟩
  obtain ⟨-, hb⟩ := hcut
  rename World => W6
  replace HV := Lib.hid (HV.out.below hb)
  replace HK := Lib.hid (HK.out.below hb)
  replace HY := Lib.hid (HY.out.below hb)
  replace HX := Lib.hid (HX.out.below hb)
  replace B0 := Lib.hid (B0.out.below hb)
  replace C0 := Lib.hid (C0.out.below hb)
  replace HB := Lib.hid (bC HB.out hb)
  clear hb
  have e2 := E2.out
  have hmin := HMIN.out
  have B0c0 := B0.out.cell 0
  have B0c1 := B0.out.cell 1
  have C0c0 := C0.out.cell 0
  have C0c1 := C0.out.cell 1
  have C0c2 := C0.out.cell 2
  simp at B0c0 B0c1 C0c0 C0c1 C0c2
  go_upto_region 15 with (at_builtin; refine wpList_append_src _ rfl (.tmp 77) (.tmp 78) 25 rfl W6.heap.size 67 tj (.agg #[.int .i64 0, .int .i64 0, .int .i64 0]) 3 24 undK HJF.out HY0.out HY1.out HY2.out rfl (by decide) _ _ _ rfl (owns_empty (e := 67) (size := 3) (Nat.le_refl _)) ka ks.length kcap (kindCells ks) rfl (src_kinds (HK.out.below (below1 _ _))) kindCells_one (by unfold maxLen; omega) (by omega) (by simp) ?_; intro vy w3 own3 gr3 _; rw [Nat.zero_add, List.nil_append] at own3; obtain ⟨g, c, rfl, hg, hyk⟩ := OwnK.of own3 (by omega); have hb7 := below_owns (owns_empty (e := 67) (size := 3) (Nat.le_refl _)) gr3 (below1 _ _) (by simp); obtain ⟨kb, koff, hke, y0, y1, y2⟩ := hyk.at.get i hil; cases hke; rw [HPI.out, Nat.zero_add] at y1; have f1 := hyk.frozen (i * 3 + 1); have HYK := Lib.hid hyk; have HB7 := Lib.hid hb7; clear hyk hb7 own3 gr3 y0 y2)
  clear B0c0 B0c1 C0c0 C0c1 C0c2
  clear e2 hmin y1 f1
  have hb := HB7.out.setCell hg (p := ⟨g, i * 3 + 1, none⟩) (.int .i64 q)
  have hys := (HYK.out.set hil q).at
  rw [dearK_len] at hys
  have HYS := Lib.hid hys
  clear hys HYK HB7
  generalize w3.setCell ⟨g, i * 3 + 1, none⟩ (.int .i64 q) = W7 at *
  replace HV := Lib.hid (HV.out.below hb)
  replace HK := Lib.hid (HK.out.below hb)
  replace HY := Lib.hid (HY.out.below hb)
  replace B0 := Lib.hid (B0.out.below hb)
  replace C0 := Lib.hid (C0.out.below hb)
  replace HB := Lib.hid (bC HB.out hb)
  clear hb
  have B0c0 := B0.out.cell 0
  have B0c1 := B0.out.cell 1
  have C0c0 := C0.out.cell 0
  have C0c1 := C0.out.cell 1
  have C0c2 := C0.out.cell 2
  simp at B0c0 B0c1 C0c0 C0c1 C0c2
  go_wp2_with fail
  clear B0c0 B0c1 C0c0 C0c1 C0c2
  obtain ⟨DY, hDY⟩ : ∃ D, dn (tabOf r (dearK ks i q)) 0 = D := ⟨_, rfl⟩
  have hdy := HDY.out
  rw [hDY, HD.out] at hdy
  have HDYV := Lib.hid hDY
  have l1 : decide (DY < D) = false := by simp; omega
  have l2 : decide (D > DY) = false := by simp; omega
  clear hDY hdy
  refine (best_any (.agg #[.int .i64 r.len, .slice sa r.fs.length cap]) (.slice (some ⟨g, 0, none⟩) ks.length c) r (dearK ks i q) _ HV.out HYS.out HR.out.1 HYO.out).mono ?_
  rintro e v51 ⟨vb3, rfl, -, hb⟩
  replace HV := Lib.hid (HV.out.below hb)
  replace HK := Lib.hid (HK.out.below hb)
  replace HY := Lib.hid (HY.out.below hb)
  replace HYS := Lib.hid (HYS.out.below hb)
  replace B0 := Lib.hid (B0.out.below hb)
  replace C0 := Lib.hid (C0.out.below hb)
  replace HB := Lib.hid (bC HB.out hb)
  clear hb
  rw [HDYV.out]
  clear HYS
  have B0c0 := B0.out.cell 0
  have B0c1 := B0.out.cell 1
  have C0c0 := C0.out.cell 0
  have C0c1 := C0.out.cell 1
  have C0c2 := C0.out.cell 2
  simp at B0c0 B0c1 C0c0 C0c1 C0c2
  go_upto_region 19 with (fail)
  clear B0c0 B0c1 C0c0 C0c1 C0c2
  have eT : (1 + (mn : Int) % 4) = (T : Int) := by have := HT.out; omega
  rw [eT]
  clear eT
  go_wp2_with (at_builtin; refine wpList_append_src _ rfl (.tmp 116) (.tmp 117) 25 rfl v51.heap.size 67 tj (.agg #[.int .i64 0, .int .i64 0, .int .i64 0]) 3 24 undK HJF.out HY0.out HY1.out HY2.out rfl (by decide) _ _ _ rfl (owns_empty (e := 67) (size := 3) (Nat.le_refl _)) ka ks.length kcap (kindCells ks) rfl (src_kinds (HK.out.below (below1 _ _))) kindCells_one (by unfold maxLen; omega) (by omega) (by simp) ?_; intro vy w3 own3 gr3 _; rw [Nat.zero_add, List.nil_append] at own3; obtain ⟨g2, c2, rfl, hg, hyk⟩ := OwnK.of own3 (by omega); have hb7 := below_owns (owns_empty (e := 67) (size := 3) (Nat.le_refl _)) gr3 (below1 _ _) (by simp); have HYK := Lib.hid hyk; have HB7 := Lib.hid hb7; clear hyk hb7 own3 gr3)
  go_loopw [27] (fun s wr => ∃ j : Nat, j ≤ ks.length ∧ s = .int .i64 j ∧ OwnK wr g2 c2 (partK T ks j) ∧ Below v51.heap.size v51 wr) (fun s _ => ks.length - (intOf s).toNat)
  case atStart => exact ⟨0, Nat.zero_le _, by first | rfl | go_num, by rw [partK_zero]; exact HYK.out, HB7.out⟩
  case round =>
    clear HYK HB7
    obtain ⟨j, hj, rfl, hok, hbw⟩ := hrel
    have HOK := Lib.hid hok
    have HBW := Lib.hid hbw
    clear hok hbw
    by_cases hlt : j < ks.length
    · obtain ⟨kb, koff, hke, y0, y1, y2⟩ := HOK.out.at.get j (by rw [partK_len]; exact hlt)
      cases hke
      rw [partK_get hlt, Nat.zero_add] at y1
      have hkp := HKP.out j hlt
      have HSU := Lib.hid (partK_succ (T := (T : Int)) hlt)
      have k1 := hkp.p1
      have k2 := hkp.p2
      obtain ⟨pj, hpj⟩ : ∃ x, ks[j].p = x := ⟨_, rfl⟩
      rw [hpj] at y1 k1 k2
      have HPJ := Lib.hid hpj
      obtain ⟨m1, m2⟩ := mulN (a := pj) (b := (T : Int)) (A := 1000) (B := 4) (by omega) k2 (by omega) (by omega)
      obtain ⟨pt, hpt⟩ : ∃ x, pj * (T : Int) = x := ⟨_, rfl⟩
      rw [hpt] at m1 m2
      have ww : IntKind.i64.wrap (pj * (T : Int)) = pt := by rw [hpt]; exact IntWalk.i64_in _ (by omega)
      have HPT := Lib.hid hpt
      have f1 := HOK.out.frozen (j * 3 + 1)
      have hg2 := hg
      clear hkp hpj hpt y0 y2
      go_wp2
      rename_i wr8
      go_roundw
      case rel =>
        refine ⟨j + 1, by omega, by go_num, ?_, HBW.out.setCell hg _⟩
        rw [← HSU.out, HPJ.out, HPT.out]
        exact HOK.out.set (by rw [partK_len]; exact hlt) pt
      case measure => simp [intOf] <;> omega
    · obtain rfl : j = ks.length := by omega
      have hok := HOK.out
      rw [partK_all] at hok
      have hz := hok.at
      have hzl : (timesK (T : Int) ks).length = ks.length := by unfold timesK; rw [List.length_map]
      rw [hzl] at hz
      have HZ := Lib.hid hz
      have hb := HBW.out
      clear hok hz hzl HOK
      replace HV := Lib.hid (HV.out.below hb)
      replace HK := Lib.hid (HK.out.below hb)
      replace HY := Lib.hid (HY.out.below hb)
      replace B0 := Lib.hid (B0.out.below hb)
      replace C0 := Lib.hid (C0.out.below hb)
      replace HB := Lib.hid (bC HB.out hb)
      clear hb
      clear HBW
      have B0c0 := B0.out.cell 0
      have B0c1 := B0.out.cell 1
      have C0c0 := C0.out.cell 0
      have C0c1 := C0.out.cell 1
      have C0c2 := C0.out.cell 2
      simp at B0c0 B0c1 C0c0 C0c1 C0c2
      go_wp2_with fail
      clear B0c0 B0c1 C0c0 C0c1 C0c2
      refine (fine_b (.agg #[.int .i64 r.len, .slice sa r.fs.length cap]) (.slice (some ⟨g2, 0, none⟩) ks.length c2) r (timesK T ks) _ HV.out HZ.out).mono ?_
      rintro e v71 ⟨bz, rfl, hbz, hb⟩
      replace HV := Lib.hid (HV.out.below hb)
      replace HK := Lib.hid (HK.out.below hb)
      replace HY := Lib.hid (HY.out.below hb)
      replace HZ := Lib.hid (HZ.out.below hb)
      replace B0 := Lib.hid (B0.out.below hb)
      replace C0 := Lib.hid (C0.out.below hb)
      replace HB := Lib.hid (bC HB.out hb)
      clear hb
      have HBZ := Lib.hid hbz
      clear hbz
      cases bz
      · have B0c0 := B0.out.cell 0
        have B0c1 := B0.out.cell 1
        have C0c0 := C0.out.cell 0
        have C0c1 := C0.out.cell 1
        have C0c2 := C0.out.cell 2
        simp at B0c0 B0c1 C0c0 C0c1 C0c2
        go_wp2_with fail
        clear B0c0 B0c1 C0c0 C0c1 C0c2
        refine (Works_any _).mono ?_
        rintro e v81 ⟨rfl, hb⟩
        replace HV := Lib.hid (HV.out.below hb)
        replace HK := Lib.hid (HK.out.below hb)
        replace HY := Lib.hid (HY.out.below hb)
        replace HZ := Lib.hid (HZ.out.below hb)
        replace B0 := Lib.hid (B0.out.below hb)
        replace C0 := Lib.hid (C0.out.below hb)
        replace HB := Lib.hid (bC HB.out hb)
        clear hb
        go_wp2
        go_ret
        exact ⟨rfl, HB.out⟩
      · have hzo := (HBZ.out.1 rfl).2
        obtain ⟨z1, z2, z3⟩ := times_facts HR.out.1 HR.out.2 (c := (T : Int)) (by omega) hzo
        obtain ⟨m1, m2⟩ := mulN (a := (T : Int)) (b := D) (A := 4) (B := 24000) (by omega) (by omega) hd00 hd24
        obtain ⟨TD, hTD⟩ : ∃ x, (T : Int) * D = x := ⟨_, rfl⟩
        rw [HD.out, hTD] at z1
        rw [HM.out] at z2
        rw [HCL.out] at z3
        rw [hTD] at m1 m2
        have wt : IntKind.i64.wrap ((T : Int) * D) = TD := by rw [hTD]; exact IntWalk.i64_in _ (by omega)
        have HZO := Lib.hid hzo
        have Z1 := Lib.hid z1
        have Z2 := Lib.hid z2
        have Z3 := Lib.hid z3
        clear hzo z1 z2 z3 hTD
        have B0c0 := B0.out.cell 0
        have B0c1 := B0.out.cell 1
        have C0c0 := C0.out.cell 0
        have C0c1 := C0.out.cell 1
        have C0c2 := C0.out.cell 2
        simp at B0c0 B0c1 C0c0 C0c1 C0c2
        go_wp2_with fail
        clear B0c0 B0c1 C0c0 C0c1 C0c2
        refine (best_any (.agg #[.int .i64 r.len, .slice sa r.fs.length cap]) (.slice (some ⟨g2, 0, none⟩) ks.length c2) r (timesK T ks) _ HV.out HZ.out HR.out.1 HZO.out).mono ?_
        rintro e v91 ⟨vb4, rfl, hp, hb⟩
        replace HV := Lib.hid (HV.out.below hb)
        replace HK := Lib.hid (HK.out.below hb)
        replace HY := Lib.hid (HY.out.below hb)
        replace HZ := Lib.hid (HZ.out.below hb)
        replace B0 := Lib.hid (B0.out.below hb)
        replace C0 := Lib.hid (C0.out.below hb)
        replace HB := Lib.hid (bC HB.out hb)
        clear hb
        rw [Z3.out] at hp
        obtain ⟨za, zc, rfl⟩ := hp.slice
        have HZY := Lib.hid hp
        clear hp
        rw [Z1.out]
        have B0c0 := B0.out.cell 0
        have B0c1 := B0.out.cell 1
        have C0c0 := C0.out.cell 0
        have C0c1 := C0.out.cell 1
        have C0c2 := C0.out.cell 2
        simp at B0c0 B0c1 C0c0 C0c1 C0c2
        go_wp2_with fail
        clear B0c0 B0c1 C0c0 C0c1 C0c2
        refine (count_any (.agg #[.int .i64 r.len, .slice sa r.fs.length cap]) (.slice (some ⟨g2, 0, none⟩) ks.length c2) r (timesK T ks) _ HV.out HZ.out HR.out.1 HZO.out).mono ?_
        rintro e v92 ⟨rfl, hb⟩
        replace HV := Lib.hid (HV.out.below hb)
        replace HK := Lib.hid (HK.out.below hb)
        replace HY := Lib.hid (HY.out.below hb)
        replace HZ := Lib.hid (HZ.out.below hb)
        replace HZY := Lib.hid (HZY.out.below hb)
        replace B0 := Lib.hid (B0.out.below hb)
        replace C0 := Lib.hid (C0.out.below hb)
        replace HB := Lib.hid (bC HB.out hb)
        clear hb
        rw [Z2.out]
        have B0c0 := B0.out.cell 0
        have B0c1 := B0.out.cell 1
        have C0c0 := C0.out.cell 0
        have C0c1 := C0.out.cell 1
        have C0c2 := C0.out.cell 2
        simp at B0c0 B0c1 C0c0 C0c1 C0c2
        go_wp2_with fail
        clear B0c0 B0c1 C0c0 C0c1 C0c2
        refine (Sheets_any (.slice ya cl.length yc) (.slice za cl.length zc) cl cl _ HY.out HZY.out (by omega)).mono ?_
        rintro e v93 ⟨rfl, hb⟩
        replace HV := Lib.hid (HV.out.below hb)
        replace HK := Lib.hid (HK.out.below hb)
        replace HY := Lib.hid (HY.out.below hb)
        replace HZ := Lib.hid (HZ.out.below hb)
        replace HZY := Lib.hid (HZY.out.below hb)
        replace B0 := Lib.hid (B0.out.below hb)
        replace C0 := Lib.hid (C0.out.below hb)
        replace HB := Lib.hid (bC HB.out hb)
        clear hb
        rw [show decide (cl = cl) = true from decide_eq_true rfl]
        have B0c0 := B0.out.cell 0
        have B0c1 := B0.out.cell 1
        have C0c0 := C0.out.cell 0
        have C0c1 := C0.out.cell 1
        have C0c2 := C0.out.cell 2
        simp at B0c0 B0c1 C0c0 C0c1 C0c2
        go_wp2_with fail
        clear B0c0 B0c1 C0c0 C0c1 C0c2
        refine (Works_any _).mono ?_
        rintro e v94 ⟨rfl, hb⟩
        replace HV := Lib.hid (HV.out.below hb)
        replace HK := Lib.hid (HK.out.below hb)
        replace HY := Lib.hid (HY.out.below hb)
        replace HZ := Lib.hid (HZ.out.below hb)
        replace HZY := Lib.hid (HZY.out.below hb)
        replace B0 := Lib.hid (B0.out.below hb)
        replace C0 := Lib.hid (C0.out.below hb)
        replace HB := Lib.hid (bC HB.out hb)
        clear hb
        go_wp2
        go_ret
        exact ⟨rfl, HB.out⟩
end Go.Proofs.Ytnkeikhkafbokaa
