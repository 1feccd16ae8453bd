import Derived.Test.YtnkeikhkafbokaaRf
import Derived.Test.YtnkeikhkafbokaaRk
namespace Go.Proofs.Ytnkeikhkafbokaa
open Go.RowKit Go.Dag Go.Sort Go.Shelf
attribute [local go_sem] Oper.semAt_some

/-! ## Two ribbons, one behind the other -/
section
variable {P : Program} (w : World)
/-- The source of an append: nothing, or cells that read as the list. -/
def SrcAt (w : World) (A : Option Addr) (m size : Nat) (news : List Value) : Prop := news.length = m * size ∧ (m = 0 ∨ ∃ ad, A = some ad ∧ ∀ j u, news[j]? = some u → w.cell? (ad.add j) = some u)
theorem run_append_src (base : Nat) (t ty e : TypeId) (i : TypeInfo) (z : Value) (size bytes : Nat) (ht : P.underlying t = some (.slice e)) (hi : P.info? e = some i) (hz : i.zero = some z)
    (hsize : i.size = size) (hby : i.bytes = bytes) (hzs : z.cells.size = size) (hsz : 0 < size) (v : Value) (n : Nat) (xs : List Value) (hown : w.ownsRow base e size v n xs)
    (A : Option Addr) (m c : Nat) (news : List Value) (hr : SrcAt w A m size news) (h1 : ∀ u ∈ news, u.oneCell' = true)
    (h63 : n + m ≤ maxLen) (hbytes : (n + m) * bytes ≤ 140737488355328) (hbase : base ≤ w.heap.size) :
    ∃ v' w', (Builtin.append_ #[t, t] ty #[v, .slice A m c]).run P w = .ok v' w' ∧ w'.ownsRow base e size v' (n + m) (xs ++ news) ∧ w.grownBy w' v.ownBlock ∧ (v'.ownBlock = v.ownBlock ∨ v'.ownBlock = some w.heap.size) := by
  obtain ⟨hl, hc⟩ := hr
  cases A with
  | some ad =>
    have hcells : ∀ j u, news[j]? = some u → w.cell? (ad.add j) = some u := by
      rcases hc with rfl | ⟨ad', e1, hc⟩
      · have : news = [] := List.eq_nil_of_length_eq_zero (by simpa using hl)
        subst this
        intro j u hu
        simp at hu
      · cases e1
        exact hc
    obtain ⟨v', w', hrun, h2, h3, _, h5⟩ := run_append_own_at (P := P) w base t ty e i z size bytes ht hi hz hsize hby hzs hsz v n xs hown ad m c news hl hcells h1 h63 hbytes hbase
    exact ⟨v', w', hrun, h2, h3, h5⟩
  | none =>
    rcases hc with rfl | ⟨ad', e1, _⟩
    · have : news = [] := List.eq_nil_of_length_eq_zero (by simpa using hl)
      subst this
      refine ⟨v, w, ?_, by simpa using hown, World.grownBy.refl w _, .inl rfl⟩
      rcases hown.2 with ⟨rfl, rfl⟩ | ⟨g, cap, cur, rfl, _, _, hnc, _⟩
      · simp [Builtin.append_, run_underlying ht, sizeOf, typeInfo, hi, Builtin.lenOf, Builtin.firstCells]
      · simp [Builtin.append_, run_underlying ht, sizeOf, typeInfo, hi, Builtin.lenOf, Builtin.firstCells, hnc, storeCells]
    · cases e1
theorem wp_append_src {o : Oper} {a : Act} {K : Act → World → Prop} {Q : Exit → Act → World → Prop} (s x : Operand) (t : TypeId)
    (ho : o.op = .call { callee := .builtin .append, args := #[s, x], argTypes := #[t, t] })
    (base : Nat) (e : TypeId) (i : TypeInfo) (z : Value) (size bytes : Nat) (ht : P.underlying t = some (.slice e)) (hi : P.info? e = some i) (hz : i.zero = some z)
    (hsize : i.size = size) (hby : i.bytes = bytes) (hzs : z.cells.size = size) (hsz : 0 < size)
    (v : Value) (n : Nat) (xs : List Value) (hs : a.eval s = v) (hown : w.ownsRow base e size v n xs)
    (A : Option Addr) (m c : Nat) (news : List Value) (hx : a.eval x = .slice A m c) (hr : SrcAt w A m size news) (h1 : ∀ u ∈ news, u.oneCell' = true)
    (h63 : n + m ≤ maxLen) (hbytes : (n + m) * bytes ≤ 140737488355328) (hbase : base ≤ w.heap.size)
    (h : ∀ v' w', w'.ownsRow base e size v' (n + m) (xs ++ news) → w.grownBy w' v.ownBlock → (v'.ownBlock = v.ownBlock ∨ v'.ownBlock = some w.heap.size) → K (a.put o.dst v') w') : o.wp P a w K Q := by
  obtain ⟨v', w', hrun, h2, h3, h4⟩ := run_append_src (P := P) w base t o.type e i z size bytes ht hi hz hsize hby hzs hsz v n xs hown A m c news hr h1 h63 hbytes hbase
  unfold Oper.wp execOp
  simp only [ho, resolve, invoke, builtin, Sem.run_bind, Sem.run_pure, Result.andThen_ok, List.map_toArray, List.map_cons, List.map_nil, hs, hx, hrun]
  exact h v' w' h2 h3 h4
end
theorem src_ints {w : World} {a : Option Addr} {c : Nat} {l : List Int} (h : IntsAt w (.slice a l.length c) l) : SrcAt w a l.length 1 (l.map (Value.int .i64)) := by
  refine ⟨by simp, ?_⟩
  by_cases hl : l.length = 0
  · exact .inl hl
  · right
    obtain ⟨a', c', e, hc⟩ := h
    cases e
    obtain ⟨b, off, rfl, hd⟩ := hc (fun h => hl (by rw [h]; rfl))
    refine ⟨_, rfl, fun j u hu => ?_⟩
    obtain ⟨hj, rfl⟩ := List.getElem?_eq_some_iff.1 hu
    rw [addr_add]
    simpa using hd j (by simpa using hj)
theorem src_ones (l : List Int) : ∀ u ∈ l.map (Value.int .i64), u.oneCell' = true := by
  intro u hu
  obtain ⟨x, _, rfl⟩ := List.mem_map.1 hu
  rfl
theorem owns_empty {W : World} {base : Nat} {e : TypeId} {size : Nat} (h : base ≤ W.heap.size) : (W.alloc (.cells #[] e)).ownsRow base e size (.slice (some ⟨W.heap.size, 0, none⟩) 0 0) 0 [] :=
  ⟨by simp, .inr ⟨W.heap.size, 0, #[], rfl, h, World.alloc_heap_new W _, Nat.le_refl _, by unfold maxLen; omega, by simp, by simp⟩⟩
/-- A ribbon whose faults are appended one by one, in the block X. -/
def JoinSt (v : World) (X : Nat) (len : Int) (fl : List Int) (wr : World) : Prop :=
  (∃ ov, Blk wr X (.cells #[.int .i64 len, ov] 24) ∧ wr.ownsRow v.heap.size 3 1 ov fl.length (fl.map (Value.int .i64))) ∧ Below v.heap.size v wr ∧ v.heap.size ≤ X
theorem JoinSt.after {v : World} {X : Nat} {len : Int} {fl : List Int} {wr w' : World} (h : JoinSt v X len fl wr) (hb : Below wr.heap.size wr w') : JoinSt v X len fl w' := by
  obtain ⟨⟨ov, h1, h2⟩, h3, h4⟩ := h
  exact ⟨⟨ov, h1.below hb, owns_below h2 hb⟩, h3.trans (hb.mono h3.size), h4⟩
def jfl (a b : RibD) (k : Nat) : List Int := a.fs ++ (b.fs.take k).map (· + a.len)
theorem jfl_succ {a b : RibD} {k : Nat} (h : k < b.fs.length) : jfl a b (k + 1) = jfl a b k ++ [b.fs[k] + a.len] := by
  unfold jfl
  rw [List.take_succ_eq_append_getElem h, List.map_append, List.append_assoc]
  rfl
theorem jfl_zero (a b : RibD) : jfl a b 0 = a.fs := by unfold jfl; simp
theorem jfl_all (a b : RibD) : jfl a b b.fs.length = (joinR a b).fs := by unfold jfl joinR; rw [List.take_length]
set_option maxRecDepth 100000 in
set_option maxHeartbeats 16000000 in
theorem ClipJoined_any (va vb kv : Value) (a b : RibD) (ks : List KindD) (w : World) (hva : RibAt w va a) (hvb : RibAt w vb b) (hk : KindsAt w kv ks) :
    Calls Try.prog 14 #[va, vb, kv] w fun e w' => e = .returned (.bool true) ∧ Below w.heap.size w w' := by
  obtain ⟨sv, rfl, hia⟩ := hva
  obtain ⟨sa, cap, rfl⟩ := hia.slice
  obtain ⟨su, rfl, hib⟩ := hvb
  obtain ⟨sb, cap2, rfl⟩ := hib.slice
  obtain ⟨ka, kcap, rfl⟩ := hk.slice
  have hB0 := below2 w (.cells #[.int .i64 a.len, .slice sa a.fs.length cap] 24) (.cells #[.int .i64 b.len, .slice sb b.fs.length cap2] 24)
  have HB := Lib.hid hB0
  have A0 := Lib.hid ((Blk.new w (.cells #[.int .i64 a.len, .slice sa a.fs.length cap] 24)).alloc (.cells #[.int .i64 b.len, .slice sb b.fs.length cap2] 24))
  have B0 := Lib.hid (Blk.new (w.alloc (.cells #[.int .i64 a.len, .slice sa a.fs.length cap] 24)) (.cells #[.int .i64 b.len, .slice sb b.fs.length cap2] 24))
  rw [World.size_alloc] at B0
  have HA := Lib.hid (show RibAt _ (.agg #[.int .i64 a.len, .slice sa a.fs.length cap]) a from ⟨_, rfl, hia.below hB0⟩)
  have HBB := Lib.hid (show RibAt _ (.agg #[.int .i64 b.len, .slice sb b.fs.length cap2]) b from ⟨_, rfl, hib.below hB0⟩)
  have HK := Lib.hid (hk.below hB0)
  clear hia hib hk hB0
  by_cases hok : RibOk a ∧ KindsOk ks
  case neg =>
    have HN := Lib.hid hok
    clear hok
    go_enter Try.func14, Try.ntmps14
    go_wp2_with fail
    generalize (w.alloc (.cells #[.int .i64 a.len, .slice sa a.fs.length cap] 24)).alloc (.cells #[.int .i64 b.len, .slice sb b.fs.length cap2] 24) = W0 at *
    refine (fine_no (.agg #[.int .i64 a.len, .slice sa a.fs.length cap]) (.slice ka ks.length kcap) a ks _ HA.out HK.out HN.out).mono ?_
    rintro e v1 ⟨rfl, hb⟩
    replace HA := Lib.hid (HA.out.below hb)
    replace HBB := Lib.hid (HBB.out.below hb)
    replace HK := Lib.hid (HK.out.below hb)
    replace A0 := Lib.hid (A0.out.below hb)
    replace B0 := Lib.hid (B0.out.below hb)
    replace HB := Lib.hid (bC HB.out hb)
    clear hb
    have A0c0 := A0.out.cell 0
    have A0c1 := A0.out.cell 1
    have B0c0 := B0.out.cell 0
    have B0c1 := B0.out.cell 1
    simp at A0c0 A0c1 B0c0 B0c1
    go_wp2_with fail
    clear A0c0 A0c1 B0c0 B0c1
    refine (Works_any _).mono ?_
    rintro e v2 ⟨rfl, hb⟩
    replace HA := Lib.hid (HA.out.below hb)
    replace HBB := Lib.hid (HBB.out.below hb)
    replace HK := Lib.hid (HK.out.below hb)
    replace A0 := Lib.hid (A0.out.below hb)
    replace B0 := Lib.hid (B0.out.below hb)
    replace HB := Lib.hid (bC HB.out hb)
    clear hb
    go_wp2
    go_ret
    exact ⟨rfl, HB.out⟩
  by_cases hok2 : RibOk b
  case neg =>
    have HR := Lib.hid hok
    have HN := Lib.hid (show ¬ (RibOk b ∧ KindsOk ks) from fun h => hok2 h.1)
    clear hok hok2
    go_enter Try.func14, Try.ntmps14
    go_wp2_with fail
    generalize (w.alloc (.cells #[.int .i64 a.len, .slice sa a.fs.length cap] 24)).alloc (.cells #[.int .i64 b.len, .slice sb b.fs.length cap2] 24) = W0 at *
    refine (fine_yes (.agg #[.int .i64 a.len, .slice sa a.fs.length cap]) (.slice ka ks.length kcap) a ks _ HA.out HK.out HR.out.1 HR.out.2).mono ?_
    rintro e v1 ⟨rfl, hb⟩
    replace HA := Lib.hid (HA.out.below hb)
    replace HBB := Lib.hid (HBB.out.below hb)
    replace HK := Lib.hid (HK.out.below hb)
    replace A0 := Lib.hid (A0.out.below hb)
    replace B0 := Lib.hid (B0.out.below hb)
    replace HB := Lib.hid (bC HB.out hb)
    clear hb
    have A0c0 := A0.out.cell 0
    have A0c1 := A0.out.cell 1
    have B0c0 := B0.out.cell 0
    have B0c1 := B0.out.cell 1
    simp at A0c0 A0c1 B0c0 B0c1
    go_wp2_with fail
    clear A0c0 A0c1 B0c0 B0c1
    refine (fine_no (.agg #[.int .i64 b.len, .slice sb b.fs.length cap2]) (.slice ka ks.length kcap) b ks _ HBB.out HK.out HN.out).mono ?_
    rintro e v2 ⟨rfl, hb⟩
    replace HA := Lib.hid (HA.out.below hb)
    replace HBB := Lib.hid (HBB.out.below hb)
    replace HK := Lib.hid (HK.out.below hb)
    replace A0 := Lib.hid (A0.out.below hb)
    replace B0 := Lib.hid (B0.out.below hb)
    replace HB := Lib.hid (bC HB.out hb)
    clear hb
    have A0c0 := A0.out.cell 0
    have A0c1 := A0.out.cell 1
    have B0c0 := B0.out.cell 0
    have B0c1 := B0.out.cell 1
    simp at A0c0 A0c1 B0c0 B0c1
    go_wp2_with fail
    clear A0c0 A0c1 B0c0 B0c1
    refine (Works_any _).mono ?_
    rintro e v3 ⟨rfl, hb⟩
    replace HA := Lib.hid (HA.out.below hb)
    replace HBB := Lib.hid (HBB.out.below hb)
    replace HK := Lib.hid (HK.out.below hb)
    replace A0 := Lib.hid (A0.out.below hb)
    replace B0 := Lib.hid (B0.out.below hb)
    replace HB := Lib.hid (bC HB.out hb)
    clear hb
    go_wp2
    go_ret
    exact ⟨rfl, HB.out⟩
  have HR := Lib.hid hok
  have HR2 := Lib.hid hok2
  have hfa := hok.1.count
  have hfb := hok2.count
  have a1 := hok.1.l1
  have a2 := hok.1.l2
  have b1 := hok2.l1
  have b2 := hok2.l2
  have hk6 := hok.2.1.2
  have ww0 : IntKind.i64.wrap (a.len + b.len) = a.len + b.len := IntWalk.i64_in _ (by omega)
  clear hok hok2
  by_cases q : 24 < a.len + b.len
  · have d1 : decide (a.len + b.len > 24) = true := by simp; omega
    have d2 : decide (24 < a.len + b.len) = true := by simp; omega
    clear q
    go_enter Try.func14, Try.ntmps14
    go_wp2_with fail
    generalize (w.alloc (.cells #[.int .i64 a.len, .slice sa a.fs.length cap] 24)).alloc (.cells #[.int .i64 b.len, .slice sb b.fs.length cap2] 24) = W0 at *
    refine (fine_yes (.agg #[.int .i64 a.len, .slice sa a.fs.length cap]) (.slice ka ks.length kcap) a ks _ HA.out HK.out HR.out.1 HR.out.2).mono ?_
    rintro e v1 ⟨rfl, hb⟩
    replace HA := Lib.hid (HA.out.below hb)
    replace HBB := Lib.hid (HBB.out.below hb)
    replace HK := Lib.hid (HK.out.below hb)
    replace A0 := Lib.hid (A0.out.below hb)
    replace B0 := Lib.hid (B0.out.below hb)
    replace HB := Lib.hid (bC HB.out hb)
    clear hb
    have A0c0 := A0.out.cell 0
    have A0c1 := A0.out.cell 1
    have B0c0 := B0.out.cell 0
    have B0c1 := B0.out.cell 1
    simp at A0c0 A0c1 B0c0 B0c1
    go_wp2_with fail
    clear A0c0 A0c1 B0c0 B0c1
    refine (fine_yes (.agg #[.int .i64 b.len, .slice sb b.fs.length cap2]) (.slice ka ks.length kcap) b ks _ HBB.out HK.out HR2.out HR.out.2).mono ?_
    rintro e v2 ⟨rfl, hb⟩
    replace HA := Lib.hid (HA.out.below hb)
    replace HBB := Lib.hid (HBB.out.below hb)
    replace HK := Lib.hid (HK.out.below hb)
    replace A0 := Lib.hid (A0.out.below hb)
    replace B0 := Lib.hid (B0.out.below hb)
    replace HB := Lib.hid (bC HB.out hb)
    clear hb
    have A0c0 := A0.out.cell 0
    have A0c1 := A0.out.cell 1
    have B0c0 := B0.out.cell 0
    have B0c1 := B0.out.cell 1
    simp at A0c0 A0c1 B0c0 B0c1
    go_wp2_with fail
    clear A0c0 A0c1 B0c0 B0c1
    refine (Works_any _).mono ?_
    rintro e v3 ⟨rfl, hb⟩
    replace HA := Lib.hid (HA.out.below hb)
    replace HBB := Lib.hid (HBB.out.below hb)
    replace HK := Lib.hid (HK.out.below hb)
    replace A0 := Lib.hid (A0.out.below hb)
    replace B0 := Lib.hid (B0.out.below hb)
    replace HB := Lib.hid (bC HB.out hb)
    clear hb
    go_wp2
    go_ret
    exact ⟨rfl, HB.out⟩
  have d1 : decide (a.len + b.len > 24) = false := by simp; omega
  have d2 : decide (24 < a.len + b.len) = false := by simp; omega
  have HJ := Lib.hid (joined_facts HR.out.1 HR2.out HR.out.2 (by omega))
  have HFB := Lib.hid (fun (j : Nat) (hj : j < b.fs.length) => fsOk_bound HR2.out.fs _ (List.getElem_mem hj))
  obtain ⟨i0, hif, hz0, hz1, hz2⟩ := info_parts infoI
  have HIF := Lib.hid hif
  have HZ0 := Lib.hid hz0
  have HZ1 := Lib.hid hz1
  have HZ2 := Lib.hid hz2
  clear hif hz0 hz1 hz2
  go_enter Try.func14, Try.ntmps14
  go_wp2_with fail
  generalize (w.alloc (.cells #[.int .i64 a.len, .slice sa a.fs.length cap] 24)).alloc (.cells #[.int .i64 b.len, .slice sb b.fs.length cap2] 24) = W0 at *
  refine (fine_yes (.agg #[.int .i64 a.len, .slice sa a.fs.length cap]) (.slice ka ks.length kcap) a ks _ HA.out HK.out HR.out.1 HR.out.2).mono ?_
  rintro e v1 ⟨rfl, hb⟩
  replace HA := Lib.hid (HA.out.below hb)
  replace HBB := Lib.hid (HBB.out.below hb)
  replace HK := Lib.hid (HK.out.below hb)
  replace A0 := Lib.hid (A0.out.below hb)
  replace B0 := Lib.hid (B0.out.below hb)
  replace HB := Lib.hid (bC HB.out hb)
  clear hb
  have A0c0 := A0.out.cell 0
  have A0c1 := A0.out.cell 1
  have B0c0 := B0.out.cell 0
  have B0c1 := B0.out.cell 1
  simp at A0c0 A0c1 B0c0 B0c1
  go_wp2_with fail
  clear A0c0 A0c1 B0c0 B0c1
  refine (fine_yes (.agg #[.int .i64 b.len, .slice sb b.fs.length cap2]) (.slice ka ks.length kcap) b ks _ HBB.out HK.out HR2.out HR.out.2).mono ?_
  rintro e v2 ⟨rfl, hb⟩
  replace HA := Lib.hid (HA.out.below hb)
  replace HBB := Lib.hid (HBB.out.below hb)
  replace HK := Lib.hid (HK.out.below hb)
  replace A0 := Lib.hid (A0.out.below hb)
  replace B0 := Lib.hid (B0.out.below hb)
  replace HB := Lib.hid (bC HB.out hb)
  clear hb
  have A0c0 := A0.out.cell 0
  have A0c1 := A0.out.cell 1
  have B0c0 := B0.out.cell 0
  have B0c1 := B0.out.cell 1
  simp at A0c0 A0c1 B0c0 B0c1
  go_wp2_with fail
  clear A0c0 A0c1 B0c0 B0c1
  have hq0 := A0.out.cell 0
  have hq1 := A0.out.cell 1
  have hq2 := B0.out.cell 0
  simp at hq0 hq1 hq2
  go_cut [7] (fun s wx => ∃ X : Nat, s = .pointer (some ⟨X, 0, none⟩) ∧ JoinSt v2 X (a.len + b.len) a.fs wx)
  case first =>
    have HI := Lib.hid (show IntsAt v2 (.slice sa a.fs.length cap) a.fs from by obtain ⟨_, e, h⟩ := HA.out; cases e; exact h)
    refine wp_region_T 11 (fun W' => W'.cell? ⟨w.heap.size, 0, none⟩ = some (.int .i64 a.len) ∧ W'.cell? ⟨w.heap.size, 1, none⟩ = some (.slice sa a.fs.length cap) ∧ W'.cell? ⟨w.heap.size + 1, 0, none⟩ = some (.int .i64 b.len)) (by kernel_rfl) (by kernel_rfl) ⟨hq0, hq1, hq2⟩ ?_
    intro inv hS
    have BL := Lib.hid (show Below v2.heap.size v2 v2.drew from (Below.refl _ _).drew)
    generalize v2.drew = V0 at *
    refine wpAnyT_take inv (by kernel_rfl) (by omega) (i := 0) (v := .pointer (some ⟨w.heap.size, 0, none⟩)) rfl (by kernel_rfl) (by kernel_rfl) (fun _ _ _ h => h) (Or.inl ⟨by kernel_rfl, ?_⟩) (by assumption) ?_
    · rintro W' ⟨q0, q1, q2⟩
      go_simp
    intro inv2
    clear inv
    have inv := inv2
    clear inv2
    simp only [Act.put, List.setIfInBounds_toArray]
    refine wpAnyT_take inv (by kernel_rfl) (by omega) (i := 1) (v := .int .i64 a.len) rfl (by kernel_rfl) (by kernel_rfl) (fun _ _ _ h => h) (Or.inl ⟨by kernel_rfl, ?_⟩) (by assumption) ?_
    · rintro W' ⟨q0, q1, q2⟩
      go_simp
    intro inv2
    clear inv
    have inv := inv2
    clear inv2
    simp only [Act.put]
    refine wpAnyT_take inv (by kernel_rfl) (by omega) (i := 2) (v := .pointer (some ⟨w.heap.size + 1, 0, none⟩)) rfl (by kernel_rfl) (by kernel_rfl) (fun _ _ _ h => h) (Or.inl ⟨by kernel_rfl, ?_⟩) (by assumption) ?_
    · rintro W' ⟨q0, q1, q2⟩
      go_simp
    intro inv2
    clear inv
    have inv := inv2
    clear inv2
    simp only [Act.put]
    refine wpAnyT_take inv (by kernel_rfl) (by omega) (i := 3) (v := .int .i64 b.len) rfl (by kernel_rfl) (by kernel_rfl) (fun _ _ _ h => h) (Or.inl ⟨by kernel_rfl, ?_⟩) (by assumption) ?_
    · rintro W' ⟨q0, q1, q2⟩
      go_simp
    intro inv2
    clear inv
    have inv := inv2
    clear inv2
    simp only [Act.put]
    refine wpAnyT_take inv (by kernel_rfl) (by omega) (i := 4) (v := .int .i64 (a.len + b.len)) rfl (by kernel_rfl) (by kernel_rfl) (fun _ _ _ h => h) (Or.inl ⟨by kernel_rfl, ?_⟩) (by assumption) ?_
    · rintro W' ⟨q0, q1, q2⟩
      go_simp
    intro inv2
    clear inv
    have inv := inv2
    clear inv2
    simp only [Act.put]
    refine wpAnyT_take inv (by kernel_rfl) (by omega) (i := 6) (v := .pointer (some ⟨w.heap.size, 1, none⟩)) rfl (by kernel_rfl) (by kernel_rfl) (fun _ _ _ h => h) (Or.inl ⟨by kernel_rfl, ?_⟩) (by assumption) ?_
    · rintro W' ⟨q0, q1, q2⟩
      go_simp
    intro inv2
    clear inv
    have inv := inv2
    clear inv2
    simp only [Act.put]
    refine wpAnyT_take inv (by kernel_rfl) (by omega) (i := 7) (v := .slice sa a.fs.length cap) rfl (by kernel_rfl) (by kernel_rfl) (fun _ _ _ h => h) (Or.inl ⟨by kernel_rfl, ?_⟩) (by assumption) ?_
    · rintro W' ⟨q0, q1, q2⟩
      go_simp
    intro inv2
    clear inv
    have inv := inv2
    clear inv2
    simp only [Act.put]
    refine wpAnyT_ready [5, 10] (by kernel_rfl) (by simp) ?_
    refine AllReadyT.cons rfl (fun K hK => ?_) ?_
    ·
      go_simp
      have hs5 := BL.out.size
      have hb5 := below1 V0 (.cells #[] 3)
      have OWN := Lib.hid (owns_empty (e := 3) (size := 1) hs5)
      replace BL := Lib.hid (bC BL.out hb5)
      generalize hsv : Value.slice (some ⟨V0.heap.size, 0, none⟩) 0 0 = vo at *
      generalize V0.alloc (.cells #[] 3) = V1 at *
      clear hsv hb5 hs5
      refine hK.out _ _ (fun _ => ⟨cellB hq0 BL.out, cellB hq1 BL.out, cellB hq2 BL.out⟩) (fun _ => ?_)
      clear hK K
      replace inv := HeadM.step inv 5 (by kernel_rfl) (by omega)
      clear hS
      have hS : V1.cell? ⟨w.heap.size, 0, none⟩ = some (.int .i64 a.len) ∧ V1.cell? ⟨w.heap.size, 1, none⟩ = some (.slice sa a.fs.length cap) ∧ V1.cell? ⟨w.heap.size + 1, 0, none⟩ = some (.int .i64 b.len) := ⟨cellB hq0 BL.out, cellB hq1 BL.out, cellB hq2 BL.out⟩
      try simp only [Act.put]
      refine wpAnyT_ready [8, 10] (by kernel_rfl) (by simp) ?_
      refine AllReadyT.cons rfl (fun K hK => ?_) ?_
      ·
        refine Eq.mpr (if_pos ?_) ?_
        · rfl
        have hs8 := BL.out.size
        refine wp_append_src _ _ _ 22 rfl v2.heap.size 3 i0 (.int .i64 0) 1 8 undI HIF.out HZ0.out HZ1.out HZ2.out rfl (by decide) _ _ _ rfl OWN.out sa a.fs.length cap (a.fs.map (Value.int .i64)) rfl (src_ints (HI.out.below BL.out)) (src_ones _) (by unfold maxLen; omega) (by omega) hs8 ?_
        intro vo2 V2 own gr att
        replace BL := Lib.hid (below_owns OWN.out gr BL.out hs8)
        clear OWN
        rw [Nat.zero_add, List.nil_append] at own
        obtain ⟨o2a, o2n, o2c, rfl⟩ := (Row.of_owns own).slice
        have OWN := Lib.hid own
        clear own gr att hs8
        refine hK.out _ _ (fun _ => ⟨cellB hq0 BL.out, cellB hq1 BL.out, cellB hq2 BL.out⟩) (fun _ => ?_)
        clear hK K
        replace inv := HeadM.step inv 8 (by kernel_rfl) (by omega)
        clear hS
        have hS : V2.cell? ⟨w.heap.size, 0, none⟩ = some (.int .i64 a.len) ∧ V2.cell? ⟨w.heap.size, 1, none⟩ = some (.slice sa a.fs.length cap) ∧ V2.cell? ⟨w.heap.size + 1, 0, none⟩ = some (.int .i64 b.len) := ⟨cellB hq0 BL.out, cellB hq1 BL.out, cellB hq2 BL.out⟩
        try simp only [Act.put]
        skip
        refine wpAnyT_take inv (by kernel_rfl) (by omega) (i := 9) (v := .agg #[.int .i64 (a.len + b.len), .slice o2a o2n o2c]) rfl (by kernel_rfl) (by kernel_rfl) (fun _ _ _ h => h) (Or.inl ⟨by kernel_rfl, ?_⟩) (by assumption) ?_
        · rintro W' ⟨q0, q1, q2⟩
          go_simp
        intro inv2
        clear inv
        have inv := inv2
        clear inv2
        simp only [Act.put, List.setIfInBounds_toArray]
        refine wpAnyT_ready [10] (by kernel_rfl) (by simp) ?_
        refine AllReadyT.cons rfl (fun K hK => ?_) AllReadyT.nil
        go_simp
        have SX := Lib.hid BL.out.size
        have hb10 := below1 V2 (.cells #[.int .i64 0, .slice none 0 0] 24)
        have BX := Lib.hid (Blk.new V2 (.cells #[.int .i64 0, .slice none 0 0] 24))
        replace OWN := Lib.hid (owns_below OWN.out hb10)
        replace BL := Lib.hid (bC BL.out hb10)
        generalize V2.alloc (.cells #[.int .i64 0, .slice none 0 0] 24) = V3 at *
        generalize V2.heap.size = X at *
        clear hb10
        refine hK.out _ _ (fun _ => ⟨cellB hq0 BL.out, cellB hq1 BL.out, cellB hq2 BL.out⟩) (fun _ => ?_)
        clear hK K
        replace inv := HeadM.step inv 10 (by kernel_rfl) (by omega)
        clear hS
        have hS : V3.cell? ⟨w.heap.size, 0, none⟩ = some (.int .i64 a.len) ∧ V3.cell? ⟨w.heap.size, 1, none⟩ = some (.slice sa a.fs.length cap) ∧ V3.cell? ⟨w.heap.size + 1, 0, none⟩ = some (.int .i64 b.len) := ⟨cellB hq0 BL.out, cellB hq1 BL.out, cellB hq2 BL.out⟩
        try simp only [Act.put]
        refine wpAnyT_chain (fuel := 1) rfl (by kernel_rfl) ?_
        simp only [List.drop_succ_cons, List.drop_zero]
        clear inv hS hq0 hq1 hq2
        have x0 := BX.out.cell 0
        have x1 := BX.out.cell 1
        have x2 := BX.out.frozen 0
        have x3 := BX.out.frozen 1
        simp at x0 x1
        have hxl := BX.out.lt
        have hxs := SX.out
        go_wp2_with fail
        go_meet
        have hs1 := owns_set (owns_set OWN.out BX.out (by decide) 0 (.int .i64 (a.len + b.len))) (BX.out.set (j := 0) (.int .i64 (a.len + b.len))) (by decide) 1 (.slice o2a o2n o2c)
        exact ⟨_, rfl, ⟨_, (BX.out.set (j := 0) (.int .i64 (a.len + b.len))).set (j := 1) (.slice o2a o2n o2c), hs1⟩, (BL.out.setCell hxs _).setCell hxs _, hxs⟩
      refine AllReadyT.cons rfl (fun K hK => ?_) AllReadyT.nil
      go_simp
      have SX := Lib.hid BL.out.size
      have hb10 := below1 V1 (.cells #[.int .i64 0, .slice none 0 0] 24)
      have BX := Lib.hid (Blk.new V1 (.cells #[.int .i64 0, .slice none 0 0] 24))
      replace OWN := Lib.hid (owns_below OWN.out hb10)
      replace BL := Lib.hid (bC BL.out hb10)
      generalize V1.alloc (.cells #[.int .i64 0, .slice none 0 0] 24) = V4 at *
      generalize V1.heap.size = X at *
      clear hb10
      refine hK.out _ _ (fun _ => ⟨cellB hq0 BL.out, cellB hq1 BL.out, cellB hq2 BL.out⟩) (fun _ => ?_)
      clear hK K
      replace inv := HeadM.step inv 10 (by kernel_rfl) (by omega)
      clear hS
      have hS : V4.cell? ⟨w.heap.size, 0, none⟩ = some (.int .i64 a.len) ∧ V4.cell? ⟨w.heap.size, 1, none⟩ = some (.slice sa a.fs.length cap) ∧ V4.cell? ⟨w.heap.size + 1, 0, none⟩ = some (.int .i64 b.len) := ⟨cellB hq0 BL.out, cellB hq1 BL.out, cellB hq2 BL.out⟩
      try simp only [Act.put]
      refine wpAnyT_ready [8] (by kernel_rfl) (by simp) ?_
      refine AllReadyT.cons rfl (fun K hK => ?_) AllReadyT.nil
      refine Eq.mpr (if_pos ?_) ?_
      · rfl
      have hs8 := BL.out.size
      refine wp_append_src _ _ _ 22 rfl v2.heap.size 3 i0 (.int .i64 0) 1 8 undI HIF.out HZ0.out HZ1.out HZ2.out rfl (by decide) _ _ _ rfl OWN.out sa a.fs.length cap (a.fs.map (Value.int .i64)) rfl (src_ints (HI.out.below BL.out)) (src_ones _) (by unfold maxLen; omega) (by omega) hs8 ?_
      intro vo2 V5 own gr att
      replace BX := Lib.hid (BX.out.grown OWN.out (by decide) gr)
      replace BL := Lib.hid (below_owns OWN.out gr BL.out hs8)
      clear OWN
      rw [Nat.zero_add, List.nil_append] at own
      obtain ⟨o2a, o2n, o2c, rfl⟩ := (Row.of_owns own).slice
      have OWN := Lib.hid own
      clear own gr att hs8
      refine hK.out _ _ (fun _ => ⟨cellB hq0 BL.out, cellB hq1 BL.out, cellB hq2 BL.out⟩) (fun _ => ?_)
      clear hK K
      replace inv := HeadM.step inv 8 (by kernel_rfl) (by omega)
      clear hS
      have hS : V5.cell? ⟨w.heap.size, 0, none⟩ = some (.int .i64 a.len) ∧ V5.cell? ⟨w.heap.size, 1, none⟩ = some (.slice sa a.fs.length cap) ∧ V5.cell? ⟨w.heap.size + 1, 0, none⟩ = some (.int .i64 b.len) := ⟨cellB hq0 BL.out, cellB hq1 BL.out, cellB hq2 BL.out⟩
      try simp only [Act.put]
      skip
      refine wpAnyT_take inv (by kernel_rfl) (by omega) (i := 9) (v := .agg #[.int .i64 (a.len + b.len), .slice o2a o2n o2c]) rfl (by kernel_rfl) (by kernel_rfl) (fun _ _ _ h => h) (Or.inl ⟨by kernel_rfl, ?_⟩) (by assumption) ?_
      · rintro W' ⟨q0, q1, q2⟩
        go_simp
      intro inv2
      clear inv
      have inv := inv2
      clear inv2
      simp only [Act.put, List.setIfInBounds_toArray]
      refine wpAnyT_chain (fuel := 1) rfl (by kernel_rfl) ?_
      simp only [List.drop_succ_cons, List.drop_zero]
      clear inv hS hq0 hq1 hq2
      have x0 := BX.out.cell 0
      have x1 := BX.out.cell 1
      have x2 := BX.out.frozen 0
      have x3 := BX.out.frozen 1
      simp at x0 x1
      have hxl := BX.out.lt
      have hxs := SX.out
      go_wp2_with fail
      go_meet
      have hs1 := owns_set (owns_set OWN.out BX.out (by decide) 0 (.int .i64 (a.len + b.len))) (BX.out.set (j := 0) (.int .i64 (a.len + b.len))) (by decide) 1 (.slice o2a o2n o2c)
      exact ⟨_, rfl, ⟨_, (BX.out.set (j := 0) (.int .i64 (a.len + b.len))).set (j := 1) (.slice o2a o2n o2c), hs1⟩, (BL.out.setCell hxs _).setCell hxs _, hxs⟩
    refine AllReadyT.cons rfl (fun K hK => ?_) AllReadyT.nil
    go_simp
    have SX := Lib.hid BL.out.size
    have hb10 := below1 V0 (.cells #[.int .i64 0, .slice none 0 0] 24)
    have BX := Lib.hid (Blk.new V0 (.cells #[.int .i64 0, .slice none 0 0] 24))
    replace BL := Lib.hid (bC BL.out hb10)
    generalize V0.alloc (.cells #[.int .i64 0, .slice none 0 0] 24) = V6 at *
    generalize V0.heap.size = X at *
    clear hb10
    refine hK.out _ _ (fun _ => ⟨cellB hq0 BL.out, cellB hq1 BL.out, cellB hq2 BL.out⟩) (fun _ => ?_)
    clear hK K
    replace inv := HeadM.step inv 10 (by kernel_rfl) (by omega)
    clear hS
    have hS : V6.cell? ⟨w.heap.size, 0, none⟩ = some (.int .i64 a.len) ∧ V6.cell? ⟨w.heap.size, 1, none⟩ = some (.slice sa a.fs.length cap) ∧ V6.cell? ⟨w.heap.size + 1, 0, none⟩ = some (.int .i64 b.len) := ⟨cellB hq0 BL.out, cellB hq1 BL.out, cellB hq2 BL.out⟩
    try simp only [Act.put]
    refine wpAnyT_ready [5] (by kernel_rfl) (by simp) ?_
    refine AllReadyT.cons rfl (fun K hK => ?_) AllReadyT.nil
    go_simp
    have hs5 := BL.out.size
    have hb5 := below1 V6 (.cells #[] 3)
    have OWN := Lib.hid (owns_empty (e := 3) (size := 1) hs5)
    replace BL := Lib.hid (bC BL.out hb5)
    replace BX := Lib.hid (BX.out.below hb5)
    generalize hsv : Value.slice (some ⟨V6.heap.size, 0, none⟩) 0 0 = vo at *
    generalize V6.alloc (.cells #[] 3) = V7 at *
    clear hsv hb5 hs5
    refine hK.out _ _ (fun _ => ⟨cellB hq0 BL.out, cellB hq1 BL.out, cellB hq2 BL.out⟩) (fun _ => ?_)
    clear hK K
    replace inv := HeadM.step inv 5 (by kernel_rfl) (by omega)
    clear hS
    have hS : V7.cell? ⟨w.heap.size, 0, none⟩ = some (.int .i64 a.len) ∧ V7.cell? ⟨w.heap.size, 1, none⟩ = some (.slice sa a.fs.length cap) ∧ V7.cell? ⟨w.heap.size + 1, 0, none⟩ = some (.int .i64 b.len) := ⟨cellB hq0 BL.out, cellB hq1 BL.out, cellB hq2 BL.out⟩
    try simp only [Act.put]
    refine wpAnyT_ready [8] (by kernel_rfl) (by simp) ?_
    refine AllReadyT.cons rfl (fun K hK => ?_) AllReadyT.nil
    refine Eq.mpr (if_pos ?_) ?_
    · rfl
    have hs8 := BL.out.size
    refine wp_append_src _ _ _ 22 rfl v2.heap.size 3 i0 (.int .i64 0) 1 8 undI HIF.out HZ0.out HZ1.out HZ2.out rfl (by decide) _ _ _ rfl OWN.out sa a.fs.length cap (a.fs.map (Value.int .i64)) rfl (src_ints (HI.out.below BL.out)) (src_ones _) (by unfold maxLen; omega) (by omega) hs8 ?_
    intro vo2 V8 own gr att
    replace BX := Lib.hid (BX.out.grown OWN.out (by decide) gr)
    replace BL := Lib.hid (below_owns OWN.out gr BL.out hs8)
    clear OWN
    rw [Nat.zero_add, List.nil_append] at own
    obtain ⟨o2a, o2n, o2c, rfl⟩ := (Row.of_owns own).slice
    have OWN := Lib.hid own
    clear own gr att hs8
    refine hK.out _ _ (fun _ => ⟨cellB hq0 BL.out, cellB hq1 BL.out, cellB hq2 BL.out⟩) (fun _ => ?_)
    clear hK K
    replace inv := HeadM.step inv 8 (by kernel_rfl) (by omega)
    clear hS
    have hS : V8.cell? ⟨w.heap.size, 0, none⟩ = some (.int .i64 a.len) ∧ V8.cell? ⟨w.heap.size, 1, none⟩ = some (.slice sa a.fs.length cap) ∧ V8.cell? ⟨w.heap.size + 1, 0, none⟩ = some (.int .i64 b.len) := ⟨cellB hq0 BL.out, cellB hq1 BL.out, cellB hq2 BL.out⟩
    try simp only [Act.put]
    skip
    refine wpAnyT_take inv (by kernel_rfl) (by omega) (i := 9) (v := .agg #[.int .i64 (a.len + b.len), .slice o2a o2n o2c]) rfl (by kernel_rfl) (by kernel_rfl) (fun _ _ _ h => h) (Or.inl ⟨by kernel_rfl, ?_⟩) (by assumption) ?_
    · rintro W' ⟨q0, q1, q2⟩
      go_simp
    intro inv2
    clear inv
    have inv := inv2
    clear inv2
    simp only [Act.put, List.setIfInBounds_toArray]
    refine wpAnyT_chain (fuel := 1) rfl (by kernel_rfl) ?_
    simp only [List.drop_succ_cons, List.drop_zero]
    clear inv hS hq0 hq1 hq2
    have x0 := BX.out.cell 0
    have x1 := BX.out.cell 1
    have x2 := BX.out.frozen 0
    have x3 := BX.out.frozen 1
    simp at x0 x1
    have hxl := BX.out.lt
    have hxs := SX.out
    go_wp2_with fail
    go_meet
    have hs1 := owns_set (owns_set OWN.out BX.out (by decide) 0 (.int .i64 (a.len + b.len))) (BX.out.set (j := 0) (.int .i64 (a.len + b.len))) (by decide) 1 (.slice o2a o2n o2c)
    exact ⟨_, rfl, ⟨_, (BX.out.set (j := 0) (.int .i64 (a.len + b.len))).set (j := 1) (.slice o2a o2n o2c), hs1⟩, (BL.out.setCell hxs _).setCell hxs _, hxs⟩
  clear hq0 hq1 hq2
  obtain ⟨X, rfl, hst⟩ := hcut
  rename World => W5
  have HST := Lib.hid hst
  clear hst
  have A0c0 := A0.out.cell 0
  have A0c1 := A0.out.cell 1
  have B0c0 := B0.out.cell 0
  have B0c1 := B0.out.cell 1
  simp at A0c0 A0c1 B0c0 B0c1
  go_wp2_with fail
  clear A0c0 A0c1 B0c0 B0c1
  have HIB := Lib.hid (show IntsAt v2 (.slice sb b.fs.length cap2) b.fs from by obtain ⟨_, e, h⟩ := HBB.out; cases e; exact h)
  go_loopw [8] (fun s wr => ∃ k : Nat, k ≤ b.fs.length ∧ s = .int .i64 k ∧ JoinSt v2 X (a.len + b.len) (jfl a b k) wr) (fun s _ => b.fs.length - (intOf s).toNat)
  case atStart => exact ⟨0, Nat.zero_le _, rfl, by rw [jfl_zero]; exact HST.out⟩
  case round =>
    clear HST
    obtain ⟨k, hk, rfl, hst⟩ := hrel
    have HST := Lib.hid hst
    obtain ⟨⟨ov, hO, hown⟩, hbl, hXs⟩ := hst
    obtain ⟨oa, on, oc, rfl⟩ := (Row.of_owns hown).slice
    have HO := Lib.hid hO
    have HOWN := Lib.hid hown
    have HBL := Lib.hid hbl
    have A0w := A0.out.below hbl
    have B0w := B0.out.below hbl
    clear hO hown hbl
    have zb1 := B0w.cell 1
    simp at zb1
    by_cases hlt : k < b.fs.length
    · obtain ⟨cb, coff, hsa, x1⟩ := HIB.out.at.2 k hlt
      subst hsa
      have HFL := Lib.hid (jfl_succ (a := a) hlt)
      have hfb2 := HFB.out k hlt
      obtain ⟨fv, hfv⟩ : ∃ x, b.fs[k] = x := ⟨_, rfl⟩
      rw [hfv] at x1 hfb2
      have HFV := Lib.hid hfv
      clear hfv
      have x1 := cellB x1 HBL.out
      have wf : IntKind.i64.wrap (fv + a.len) = fv + a.len := IntWalk.i64_in _ (by omega)
      have hol : (jfl a b k).length ≤ 100 := by unfold jfl; rw [List.length_append, List.length_map, List.length_take]; omega
      have BO : Blk wr.drew X (.cells #[.int .i64 (a.len + b.len), .slice oa on oc] 24) := HO.out
      have bA : Blk wr.drew w.heap.size (.cells #[.int .i64 a.len, .slice sa a.fs.length cap] 24) := A0w
      have bB : Blk wr.drew (w.heap.size + 1) (.cells #[.int .i64 b.len, .slice (some ⟨cb, coff, none⟩) b.fs.length cap2] 24) := B0w
      have bel : Below v2.heap.size v2 wr.drew := HBL.out.drew
      have own : wr.drew.ownsRow v2.heap.size 3 1 (.slice oa on oc) (jfl a b k).length ((jfl a b k).map (Value.int .i64)) := HOWN.out
      have o1 : wr.drew.cell? ⟨X, 1, none⟩ = some (.slice oa on oc) := by have := BO.cell 1; simpa using this
      have b1 : wr.drew.cell? ⟨w.heap.size + 1, 1, none⟩ = some (.slice (some ⟨cb, coff, none⟩) b.fs.length cap2) := by have := bB.cell 1; simpa using this
      have y1 : wr.drew.cell? ⟨cb, coff + k, none⟩ = some (.int .i64 fv) := x1
      have y2 : wr.drew.cell? ⟨w.heap.size, 0, none⟩ = some (.int .i64 a.len) := by have := bA.cell 0; simpa using this
      clear x1
      go_wp2_with fail
      clear zb1
      refine wp_region_T 11 (fun W' => W'.cell? ⟨X, 1, none⟩ = some (.slice oa on oc) ∧ W'.cell? ⟨w.heap.size + 1, 1, none⟩ = some (.slice (some ⟨cb, coff, none⟩) b.fs.length cap2) ∧ W'.cell? ⟨cb, coff + k, none⟩ = some (.int .i64 fv) ∧ W'.cell? ⟨w.heap.size, 0, none⟩ = some (.int .i64 a.len)) (by kernel_rfl) (by kernel_rfl) ⟨o1, b1, y1, y2⟩ ?_
      intro inv hS
      generalize wr.drew = V0 at *
      clear HST HOWN HO HBL A0w B0w
      refine wpAnyT_take inv (by kernel_rfl) (by omega) (i := 0) (v := .pointer (some ⟨X, 1, none⟩)) rfl (by kernel_rfl) (by kernel_rfl) (fun _ _ _ h => h) (Or.inl ⟨by kernel_rfl, ?_⟩) (by assumption) ?_
      · rintro W' ⟨q0, q1, q2, q3⟩
        go_simp
      intro inv2
      clear inv
      have inv := inv2
      clear inv2
      simp only [Act.put, List.setIfInBounds_toArray]
      refine wpAnyT_take inv (by kernel_rfl) (by omega) (i := 1) (v := .slice oa on oc) rfl (by kernel_rfl) (by kernel_rfl) (fun _ _ _ h => h) (Or.inl ⟨by kernel_rfl, ?_⟩) (by assumption) ?_
      · rintro W' ⟨q0, q1, q2, q3⟩
        go_simp
      intro inv2
      clear inv
      have inv := inv2
      clear inv2
      simp only [Act.put]
      refine wpAnyT_take inv (by kernel_rfl) (by omega) (i := 2) (v := .pointer (some ⟨w.heap.size + 1, 1, none⟩)) rfl (by kernel_rfl) (by kernel_rfl) (fun _ _ _ h => h) (Or.inl ⟨by kernel_rfl, ?_⟩) (by assumption) ?_
      · rintro W' ⟨q0, q1, q2, q3⟩
        go_simp
      intro inv2
      clear inv
      have inv := inv2
      clear inv2
      simp only [Act.put]
      refine wpAnyT_take inv (by kernel_rfl) (by omega) (i := 3) (v := .slice (some ⟨cb, coff, none⟩) b.fs.length cap2) rfl (by kernel_rfl) (by kernel_rfl) (fun _ _ _ h => h) (Or.inl ⟨by kernel_rfl, ?_⟩) (by assumption) ?_
      · rintro W' ⟨q0, q1, q2, q3⟩
        go_simp
      intro inv2
      clear inv
      have inv := inv2
      clear inv2
      simp only [Act.put]
      refine wpAnyT_take inv (by kernel_rfl) (by omega) (i := 4) (v := .int .i64 (k : Int)) rfl (by kernel_rfl) (by kernel_rfl) (fun _ _ _ h => h) (Or.inl ⟨by kernel_rfl, ?_⟩) (by assumption) ?_
      · rintro W' ⟨q0, q1, q2, q3⟩
        go_simp
      intro inv2
      clear inv
      have inv := inv2
      clear inv2
      simp only [Act.put]
      refine wpAnyT_take inv (by kernel_rfl) (by omega) (i := 5) (v := .pointer (some ⟨cb, coff + k, none⟩)) rfl (by kernel_rfl) (by kernel_rfl) (fun _ _ _ h => h) (Or.inl ⟨by kernel_rfl, ?_⟩) (by assumption) ?_
      · rintro W' ⟨q0, q1, q2, q3⟩
        go_simp
      intro inv2
      clear inv
      have inv := inv2
      clear inv2
      simp only [Act.put]
      refine wpAnyT_take inv (by kernel_rfl) (by omega) (i := 6) (v := .int .i64 fv) rfl (by kernel_rfl) (by kernel_rfl) (fun _ _ _ h => h) (Or.inl ⟨by kernel_rfl, ?_⟩) (by assumption) ?_
      · rintro W' ⟨q0, q1, q2, q3⟩
        go_simp
      intro inv2
      clear inv
      have inv := inv2
      clear inv2
      simp only [Act.put]
      refine wpAnyT_take inv (by kernel_rfl) (by omega) (i := 7) (v := .pointer (some ⟨w.heap.size, 0, none⟩)) rfl (by kernel_rfl) (by kernel_rfl) (fun _ _ _ h => h) (Or.inl ⟨by kernel_rfl, ?_⟩) (by assumption) ?_
      · rintro W' ⟨q0, q1, q2, q3⟩
        go_simp
      intro inv2
      clear inv
      have inv := inv2
      clear inv2
      simp only [Act.put]
      refine wpAnyT_take inv (by kernel_rfl) (by omega) (i := 8) (v := .int .i64 a.len) rfl (by kernel_rfl) (by kernel_rfl) (fun _ _ _ h => h) (Or.inl ⟨by kernel_rfl, ?_⟩) (by assumption) ?_
      · rintro W' ⟨q0, q1, q2, q3⟩
        go_simp
      intro inv2
      clear inv
      have inv := inv2
      clear inv2
      simp only [Act.put]
      refine wpAnyT_take inv (by kernel_rfl) (by omega) (i := 9) (v := .int .i64 (fv + a.len)) rfl (by kernel_rfl) (by kernel_rfl) (fun _ _ _ h => h) (Or.inl ⟨by kernel_rfl, ?_⟩) (by assumption) ?_
      · rintro W' ⟨q0, q1, q2, q3⟩
        go_simp
      intro inv2
      clear inv
      have inv := inv2
      clear inv2
      simp only [Act.put]
      refine wpAnyT_ready [10] (by kernel_rfl) (by simp) ?_
      refine AllReadyT.cons rfl (fun K hK => ?_) AllReadyT.nil
      go_simp
      have hA := below1 V0 (.cells #[.int .i64 (fv + a.len)] 3)
      refine hK.out _ _ (fun _ => ⟨cellB o1 hA, cellB b1 hA, cellB y1 hA, cellB y2 hA⟩) (fun _ => ?_)
      clear hK K hS inv
      try simp only [Act.put]
      refine wpAnyT_chain (fuel := 3) rfl (by kernel_rfl) ?_
      simp only [List.drop_succ_cons, List.drop_zero]
      have HNEW := Lib.hid (new_cells V0 [.int .i64 (fv + a.len)] 3)
      have ownA := Lib.hid (owns_below own hA)
      have BO1 := Lib.hid (BO.below hA)
      have belA := Lib.hid (bel.trans (hA.mono bel.size))
      have hszA : v2.heap.size ≤ (V0.alloc (.cells #[.int .i64 (fv + a.len)] 3)).heap.size := by have := bel.size; simp; omega
      clear hA BO bA bB own bel o1 b1 y1 y2 wf
      generalize hVV : V0.alloc (.cells #[.int .i64 (fv + a.len)] 3) = V2 at *
      clear hVV
      go_wp2_with (at_builtin; refine wpList_append_own _ rfl (.tmp 57) (.tmp 66) 22 rfl v2.heap.size 3 i0 (.int .i64 0) 1 8 undI HIF.out HZ0.out HZ1.out HZ2.out rfl (by decide) _ _ _ rfl ownA.out ⟨V0.heap.size, 0, none⟩ 1 1 [.int .i64 (fv + a.len)] rfl rfl HNEW.out (one1 _) (by unfold maxLen; omega) (by omega) (by omega) ?_; intro v2 w3 own3 gr3 _; obtain ⟨a2, n2, c2, rfl⟩ := (Row.of_owns own3).slice; have BO3 := BO1.out.grown ownA.out (by decide) gr3; have o1 := BO3.cell 1; have of := BO3.frozen 1; have ol := BO3.lt; simp at o1)
      have bel3 := below_owns ownA.out gr3 belA.out hszA
      rename_i wr8
      go_roundw
      case rel =>
        refine ⟨k + 1, by omega, by go_num, ⟨_, BO3.set (j := 1) (.slice a2 n2 c2), ?_⟩, bel3.setCell hXs _, hXs⟩
        have h2 := owns_set own3 BO3 (by decide) 1 (.slice a2 n2 c2)
        rw [HFL.out, HFV.out, List.length_append, ints_snoc]
        exact h2
      case measure => simp [intOf] <;> omega
    · obtain rfl : k = b.fs.length := by omega
      clear zb1
      have HJF := Lib.hid (jfl_all a b)
      have ho := HOWN.out
      rw [HJF.out] at ho
      obtain ⟨oa', oc', ho'⟩ := (show IntsAt wr (.slice oa on oc) (joinR a b).fs from (Row.of_owns ho).ints).slice
      cases ho'
      have BM := HO
      have HMR := Lib.hid (show RibAt wr (.agg #[.int .i64 (a.len + b.len), .slice oa (joinR a b).fs.length oc]) (joinR a b) from ⟨_, rfl, (Row.of_owns ho).ints⟩)
      replace HA := Lib.hid (HA.out.below HBL.out)
      replace HBB := Lib.hid (HBB.out.below HBL.out)
      replace HK := Lib.hid (HK.out.below HBL.out)
      replace A0 := Lib.hid A0w
      replace B0 := Lib.hid B0w
      replace HB := Lib.hid (bC HB.out HBL.out)
      obtain ⟨J1, J2, J3, J4, J5, J6, J7⟩ := HJ.out
      obtain ⟨DA, hDA⟩ : ∃ D, dn (tabOf a ks) 0 = D := ⟨_, rfl⟩
      obtain ⟨DB, hDB⟩ : ∃ D, dn (tabOf b ks) 0 = D := ⟨_, rfl⟩
      obtain ⟨DZ, hDZ⟩ : ∃ D, dn (tabOf (joinR a b) ks) 0 = D := ⟨_, rfl⟩
      obtain ⟨pv, hpv⟩ : ∃ x, partedV (joinR a b) ks a.len = x := ⟨_, rfl⟩
      rw [hDA] at J3 J5 J7
      rw [hDB] at J4 J5 J7
      rw [hDZ] at J5 J6 J7
      rw [hpv] at J7
      have HJ1 := Lib.hid J1
      have HJ2 := Lib.hid J2
      have HDA := Lib.hid hDA
      have HDB := Lib.hid hDB
      have HDZ := Lib.hid hDZ
      have HPV := Lib.hid hpv
      have wz : IntKind.i64.wrap (DA + DB) = DA + DB := IntWalk.i64_in _ (by omega)
      have g1 : decide (DZ ≥ DA + DB) = true := by simp; omega
      have g2 : decide (DA + DB ≤ DZ) = true := by simp; omega
      have HJ7 := Lib.hid J7
      clear J1 J2 J7 hDA hDB hDZ hpv HO HOWN HST HBL A0w B0w ho HIB HFB HJ HJF HIF HZ0 HZ1 HZ2
      have A0c0 := A0.out.cell 0
      have A0c1 := A0.out.cell 1
      have B0c0 := B0.out.cell 0
      have B0c1 := B0.out.cell 1
      have BMc0 := BM.out.cell 0
      have BMc1 := BM.out.cell 1
      simp at A0c0 A0c1 B0c0 B0c1 BMc0 BMc1
      go_wp2_with fail
      clear A0c0 A0c1 B0c0 B0c1 BMc0 BMc1
      refine (best_any (.agg #[.int .i64 a.len, .slice sa a.fs.length cap]) (.slice ka ks.length kcap) a ks _ HA.out HK.out HR.out.1 HR.out.2).mono ?_
      rintro e v21 ⟨vb, rfl, -, hb⟩
      replace HA := Lib.hid (HA.out.below hb)
      replace HBB := Lib.hid (HBB.out.below hb)
      replace HK := Lib.hid (HK.out.below hb)
      replace HMR := Lib.hid (HMR.out.below hb)
      replace A0 := Lib.hid (A0.out.below hb)
      replace B0 := Lib.hid (B0.out.below hb)
      replace BM := Lib.hid (BM.out.below hb)
      replace HB := Lib.hid (bC HB.out hb)
      clear hb
      rw [HDA.out]
      have A0c0 := A0.out.cell 0
      have A0c1 := A0.out.cell 1
      have B0c0 := B0.out.cell 0
      have B0c1 := B0.out.cell 1
      have BMc0 := BM.out.cell 0
      have BMc1 := BM.out.cell 1
      simp at A0c0 A0c1 B0c0 B0c1 BMc0 BMc1
      go_wp2_with fail
      clear A0c0 A0c1 B0c0 B0c1 BMc0 BMc1
      refine (best_any (.agg #[.int .i64 b.len, .slice sb b.fs.length cap2]) (.slice ka ks.length kcap) b ks _ HBB.out HK.out HR2.out HR.out.2).mono ?_
      rintro e v22 ⟨vb2, rfl, -, hb⟩
      replace HA := Lib.hid (HA.out.below hb)
      replace HBB := Lib.hid (HBB.out.below hb)
      replace HK := Lib.hid (HK.out.below hb)
      replace HMR := Lib.hid (HMR.out.below hb)
      replace A0 := Lib.hid (A0.out.below hb)
      replace B0 := Lib.hid (B0.out.below hb)
      replace BM := Lib.hid (BM.out.below hb)
      replace HB := Lib.hid (bC HB.out hb)
      clear hb
      rw [HDB.out]
      have A0c0 := A0.out.cell 0
      have A0c1 := A0.out.cell 1
      have B0c0 := B0.out.cell 0
      have B0c1 := B0.out.cell 1
      have BMc0 := BM.out.cell 0
      have BMc1 := BM.out.cell 1
      simp at A0c0 A0c1 B0c0 B0c1 BMc0 BMc1
      go_wp2_with fail
      clear A0c0 A0c1 B0c0 B0c1 BMc0 BMc1
      refine (best_any (.agg #[.int .i64 (a.len + b.len), .slice oa (joinR a b).fs.length oc]) (.slice ka ks.length kcap) (joinR a b) ks _ HMR.out HK.out HJ1.out HR.out.2).mono ?_
      rintro e v23 ⟨vb3, rfl, -, hb⟩
      replace HA := Lib.hid (HA.out.below hb)
      replace HBB := Lib.hid (HBB.out.below hb)
      replace HK := Lib.hid (HK.out.below hb)
      replace HMR := Lib.hid (HMR.out.below hb)
      replace A0 := Lib.hid (A0.out.below hb)
      replace B0 := Lib.hid (B0.out.below hb)
      replace BM := Lib.hid (BM.out.below hb)
      replace HB := Lib.hid (bC HB.out hb)
      clear hb
      rw [HDZ.out]
      have A0c0 := A0.out.cell 0
      have A0c1 := A0.out.cell 1
      have B0c0 := B0.out.cell 0
      have B0c1 := B0.out.cell 1
      have BMc0 := BM.out.cell 0
      have BMc1 := BM.out.cell 1
      simp at A0c0 A0c1 B0c0 B0c1 BMc0 BMc1
      go_wp2_with fail
      clear A0c0 A0c1 B0c0 B0c1 BMc0 BMc1
      refine (Parted_ok (.agg #[.int .i64 (a.len + b.len), .slice oa (joinR a b).fs.length oc]) (.slice ka ks.length kcap) (joinR a b) ks a.len _ HMR.out HK.out HJ1.out HR.out.2).mono ?_
      rintro e v24 ⟨rfl, hb⟩
      replace HA := Lib.hid (HA.out.below hb)
      replace HBB := Lib.hid (HBB.out.below hb)
      replace HK := Lib.hid (HK.out.below hb)
      replace HMR := Lib.hid (HMR.out.below hb)
      replace A0 := Lib.hid (A0.out.below hb)
      replace B0 := Lib.hid (B0.out.below hb)
      replace BM := Lib.hid (BM.out.below hb)
      replace HB := Lib.hid (bC HB.out hb)
      clear hb
      rw [HJ2.out, HPV.out]
      rcases HJ7.out with ⟨e1, e2⟩ | ⟨e1 | e1, e2⟩
      · obtain rfl : pv = 0 := e1
        have g3 : (DZ == DA + DB) = false := by rw [beq_eq_false_iff_ne]; omega
        clear e2 HJ7
        have A0c0 := A0.out.cell 0
        have A0c1 := A0.out.cell 1
        have B0c0 := B0.out.cell 0
        have B0c1 := B0.out.cell 1
        have BMc0 := BM.out.cell 0
        have BMc1 := BM.out.cell 1
        simp at A0c0 A0c1 B0c0 B0c1 BMc0 BMc1
        go_wp2_with fail
        clear A0c0 A0c1 B0c0 B0c1 BMc0 BMc1
        refine (Works_any _).mono ?_
        rintro e v41 ⟨rfl, hb⟩
        replace HA := Lib.hid (HA.out.below hb)
        replace HBB := Lib.hid (HBB.out.below hb)
        replace HK := Lib.hid (HK.out.below hb)
        replace HMR := Lib.hid (HMR.out.below hb)
        replace A0 := Lib.hid (A0.out.below hb)
        replace B0 := Lib.hid (B0.out.below hb)
        replace BM := Lib.hid (BM.out.below hb)
        replace HB := Lib.hid (bC HB.out hb)
        clear hb
        go_wp2
        go_ret
        exact ⟨rfl, HB.out⟩
      · obtain rfl : pv = 1 := e1
        have g3 : (DZ == DA + DB) = true := by rw [beq_iff_eq]; omega
        clear e2 HJ7
        have A0c0 := A0.out.cell 0
        have A0c1 := A0.out.cell 1
        have B0c0 := B0.out.cell 0
        have B0c1 := B0.out.cell 1
        have BMc0 := BM.out.cell 0
        have BMc1 := BM.out.cell 1
        simp at A0c0 A0c1 B0c0 B0c1 BMc0 BMc1
        go_wp2_with fail
        clear A0c0 A0c1 B0c0 B0c1 BMc0 BMc1
        refine (Works_any _).mono ?_
        rintro e v51 ⟨rfl, hb⟩
        replace HA := Lib.hid (HA.out.below hb)
        replace HBB := Lib.hid (HBB.out.below hb)
        replace HK := Lib.hid (HK.out.below hb)
        replace HMR := Lib.hid (HMR.out.below hb)
        replace A0 := Lib.hid (A0.out.below hb)
        replace B0 := Lib.hid (B0.out.below hb)
        replace BM := Lib.hid (BM.out.below hb)
        replace HB := Lib.hid (bC HB.out hb)
        clear hb
        go_wp2
        go_ret
        exact ⟨rfl, HB.out⟩
      · obtain rfl : pv = 2 := e1
        have g3 : (DZ == DA + DB) = true := by rw [beq_iff_eq]; omega
        clear e2 HJ7
        have A0c0 := A0.out.cell 0
        have A0c1 := A0.out.cell 1
        have B0c0 := B0.out.cell 0
        have B0c1 := B0.out.cell 1
        have BMc0 := BM.out.cell 0
        have BMc1 := BM.out.cell 1
        simp at A0c0 A0c1 B0c0 B0c1 BMc0 BMc1
        go_wp2_with fail
        clear A0c0 A0c1 B0c0 B0c1 BMc0 BMc1
        refine (Works_any _).mono ?_
        rintro e v61 ⟨rfl, hb⟩
        replace HA := Lib.hid (HA.out.below hb)
        replace HBB := Lib.hid (HBB.out.below hb)
        replace HK := Lib.hid (HK.out.below hb)
        replace HMR := Lib.hid (HMR.out.below hb)
        replace A0 := Lib.hid (A0.out.below hb)
        replace B0 := Lib.hid (B0.out.below hb)
        replace BM := Lib.hid (BM.out.below hb)
        replace HB := Lib.hid (bC HB.out hb)
        clear hb
        go_wp2
        go_ret
        exact ⟨rfl, HB.out⟩
end Go.Proofs.Ytnkeikhkafbokaa
