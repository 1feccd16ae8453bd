import Derived.Test.YtjbeoakikdkdaaaSp
import Derived.Test.YtjbeoakikdkdaaaSa
import Derived.Maps.AppendAt
namespace Go.Proofs.Ytjbeoakikdkdaaa
open Go.RowKit Go.Vat Go.Sort Go.Shelf
attribute [local go_sem] Oper.semAt_some

/-! ## Lists that grow by others -/
section
variable {P : Program} (w : World)
/-- The source of an append: nothing, or cells that read as the list. -/
def SrcAt (w : World) (A : Option Addr) (m size : Nat) (news : List Value) : Prop := news.length = m * size ∧ (m = 0 ∨ ∃ ad, A = some ad ∧ ∀ j u, news[j]? = some u → w.cell? (ad.add j) = some u)
theorem run_append_src (base : Nat) (t ty e : TypeId) (i : TypeInfo) (z : Value) (size bytes : Nat) (ht : P.underlying t = some (.slice e)) (hi : P.info? e = some i) (hz : i.zero = some z)
    (hsize : i.size = size) (hby : i.bytes = bytes) (hzs : z.cells.size = size) (hsz : 0 < size) (v : Value) (n : Nat) (xs : List Value) (hown : w.ownsRow base e size v n xs)
    (A : Option Addr) (m c : Nat) (news : List Value) (hr : SrcAt w A m size news) (h1 : ∀ u ∈ news, u.oneCell' = true)
    (h63 : n + m ≤ maxLen) (hbytes : (n + m) * bytes ≤ 140737488355328) (hbase : base ≤ w.heap.size) :
    ∃ v' w', (Builtin.append_ #[t, t] ty #[v, .slice A m c]).run P w = .ok v' w' ∧ w'.ownsRow base e size v' (n + m) (xs ++ news) ∧ w.grownBy w' v.ownBlock ∧ (v'.ownBlock = v.ownBlock ∨ v'.ownBlock = some w.heap.size) := by
  obtain ⟨hl, hc⟩ := hr
  cases A with
  | some ad =>
    have hcells : ∀ j u, news[j]? = some u → w.cell? (ad.add j) = some u := by
      rcases hc with rfl | ⟨ad', e1, hc⟩
      · have : news = [] := List.eq_nil_of_length_eq_zero (by simpa using hl)
        subst this
        intro j u hu
        simp at hu
      · cases e1
        exact hc
    obtain ⟨v', w', hrun, h2, h3, _, h5⟩ := run_append_own_at (P := P) w base t ty e i z size bytes ht hi hz hsize hby hzs hsz v n xs hown ad m c news hl hcells h1 h63 hbytes hbase
    exact ⟨v', w', hrun, h2, h3, h5⟩
  | none =>
    rcases hc with rfl | ⟨ad', e1, _⟩
    · have : news = [] := List.eq_nil_of_length_eq_zero (by simpa using hl)
      subst this
      refine ⟨v, w, ?_, by simpa using hown, World.grownBy.refl w _, .inl rfl⟩
      rcases hown.2 with ⟨rfl, rfl⟩ | ⟨g, cap, cur, rfl, _, _, hnc, _⟩
      · simp [Builtin.append_, run_underlying ht, sizeOf, typeInfo, hi, Builtin.lenOf, Builtin.firstCells]
      · simp [Builtin.append_, run_underlying ht, sizeOf, typeInfo, hi, Builtin.lenOf, Builtin.firstCells, hnc, storeCells]
    · cases e1
theorem wp_append_src {o : Oper} {a : Act} {K : Act → World → Prop} {Q : Exit → Act → World → Prop} (s x : Operand) (t : TypeId)
    (ho : o.op = .call { callee := .builtin .append, args := #[s, x], argTypes := #[t, t] })
    (base : Nat) (e : TypeId) (i : TypeInfo) (z : Value) (size bytes : Nat) (ht : P.underlying t = some (.slice e)) (hi : P.info? e = some i) (hz : i.zero = some z)
    (hsize : i.size = size) (hby : i.bytes = bytes) (hzs : z.cells.size = size) (hsz : 0 < size)
    (v : Value) (n : Nat) (xs : List Value) (hs : a.eval s = v) (hown : w.ownsRow base e size v n xs)
    (A : Option Addr) (m c : Nat) (news : List Value) (hx : a.eval x = .slice A m c) (hr : SrcAt w A m size news) (h1 : ∀ u ∈ news, u.oneCell' = true)
    (h63 : n + m ≤ maxLen) (hbytes : (n + m) * bytes ≤ 140737488355328) (hbase : base ≤ w.heap.size)
    (h : ∀ v' w', w'.ownsRow base e size v' (n + m) (xs ++ news) → w.grownBy w' v.ownBlock → (v'.ownBlock = v.ownBlock ∨ v'.ownBlock = some w.heap.size) → K (a.put o.dst v') w') : o.wp P a w K Q := by
  obtain ⟨v', w', hrun, h2, h3, h4⟩ := run_append_src (P := P) w base t o.type e i z size bytes ht hi hz hsize hby hzs hsz v n xs hown A m c news hr h1 h63 hbytes hbase
  unfold Oper.wp execOp
  simp only [ho, resolve, invoke, builtin, Sem.run_bind, Sem.run_pure, Result.andThen_ok, List.map_toArray, List.map_cons, List.map_nil, hs, hx, hrun]
  exact h v' w' h2 h3 h4
end
theorem src_ints {w : World} {a : Option Addr} {c : Nat} {l : List Int} (h : IntsAt w (.slice a l.length c) l) : SrcAt w a l.length 1 (l.map (Value.int .i64)) := by
  refine ⟨by simp, ?_⟩
  by_cases hl : l.length = 0
  · exact .inl hl
  · right
    obtain ⟨a', c', e, hc⟩ := h
    cases e
    obtain ⟨b, off, rfl, hd⟩ := hc (fun h => hl (by rw [h]; rfl))
    refine ⟨_, rfl, fun j u hu => ?_⟩
    obtain ⟨hj, rfl⟩ := List.getElem?_eq_some_iff.1 hu
    rw [addr_add]
    simpa using hd j (by simpa using hj)
theorem src_ones (l : List Int) : ∀ u ∈ l.map (Value.int .i64), u.oneCell' = true := by
  intro u hu
  obtain ⟨x, _, rfl⟩ := List.mem_map.1 hu
  rfl
theorem wpList_append_src {P : Program} (w : World) {ops : Array Oper} {rest : List Oper} {o : Oper} {a : Act} {Q : Exit → Act → World → Prop} (hgd : o.guard = none) (s x : Operand) (t : TypeId)
    (ho : o.op = .call { callee := .builtin .append, args := #[s, x], argTypes := #[t, t] })
    (base : Nat) (e : TypeId) (i : TypeInfo) (z : Value) (size bytes : Nat) (ht : P.underlying t = some (.slice e)) (hi : P.info? e = some i) (hz : i.zero = some z)
    (hsize : i.size = size) (hby : i.bytes = bytes) (hzs : z.cells.size = size) (hsz : 0 < size)
    (v : Value) (n : Nat) (xs : List Value) (hs : a.eval s = v) (hown : w.ownsRow base e size v n xs)
    (A : Option Addr) (m c : Nat) (news : List Value) (hx : a.eval x = .slice A m c) (hr : SrcAt w A m size news) (h1 : ∀ u ∈ news, u.oneCell' = true)
    (h63 : n + m ≤ maxLen) (hbytes : (n + m) * bytes ≤ 140737488355328) (hbase : base ≤ w.heap.size)
    (h : ∀ v' w', w'.ownsRow base e size v' (n + m) (xs ++ news) → w.grownBy w' v.ownBlock → (v'.ownBlock = v.ownBlock ∨ v'.ownBlock = some w.heap.size) → wpList P ops Q rest (a.put o.dst v') w') : wpList P ops Q (o :: rest) a w :=
  wpList_plain hgd fun _ hK => wp_append_src w s x t ho base e i z size bytes ht hi hz hsize hby hzs hsz v n xs hs hown A m c news hx hr h1 h63 hbytes hbase fun v' w' h2 h3 h4 => hK _ _ (h v' w' h2 h3 h4)
theorem owns_empty {W : World} {base size : Nat} {e : TypeId} (h : base ≤ W.heap.size) : (W.alloc (.cells #[] e)).ownsRow base e size (.slice (some ⟨W.heap.size, 0, none⟩) 0 0) 0 [] :=
  ⟨by simp, .inr ⟨W.heap.size, 0, #[], rfl, h, Blk.new W (.cells #[] e), Nat.le_refl _, Nat.zero_le _, by simp, by simp⟩⟩
theorem src_pairs {w : World} {a : Option Addr} {c : Nat} {l : List (Int × Int)} (h : PairsAt w (.slice a l.length c) l) : SrcAt w a l.length 2 (pairCells l) := by
  refine ⟨by rw [pairCells_length], ?_⟩
  by_cases hl : l.length = 0
  · exact .inl hl
  · right
    obtain ⟨a', c', e, hc⟩ := h
    cases e
    obtain ⟨b, off, rfl, hd⟩ := hc (fun h => hl (by rw [h]; rfl))
    refine ⟨_, rfl, fun j u hu => ?_⟩
    obtain ⟨e1, e2⟩ := pairCells_src hd hu
    rw [e1]
    exact e2
section
variable {w w0 : World} {ops : Array Oper} {rest : List Oper} {o : Oper} {a : Act} {Q : Exit → Act → World → Prop}
theorem wp_appSI (hgd : o.guard = none) (s x : Operand) (ho : o.op = .call { callee := .builtin .append, args := #[s, x], argTypes := #[44, 44] })
    (base : Nat) (v : Value) (n : Nat) (xs : List Value) (hs : a.eval s = v) (hown : w.ownsRow base 3 1 v n xs)
    (A : Option Addr) (c : Nat) (l : List Int) (m : Nat) (hm : l.length = m) (hx : a.eval x = .slice A m c) (hl : IntsAt w (.slice A m c) l) (hn : n + m ≤ 100000) (hB : Below base w0 w) (hbase : base ≤ w.heap.size)
    (h : ∀ a2 c2 w', w'.ownsRow base 3 1 (.slice a2 (n + m) c2) (n + m) (xs ++ l.map (Value.int .i64)) → Below base w0 w' → w.grownBy w' v.ownBlock → wpList Try.prog ops Q rest (a.put o.dst (.slice a2 (n + m) c2)) w') : wpList Try.prog ops Q (o :: rest) a w := by
  subst hm
  obtain ⟨i0, hif, hz0, hz1, hz2⟩ := info_parts infoAI
  refine wpList_append_src w hgd s x 44 ho base 3 i0 (.int .i64 0) 1 8 undAI hif hz0 hz1 hz2 rfl (by decide) v n xs hs hown A l.length c (l.map (Value.int .i64)) hx (src_ints hl) (src_ones _) (by unfold maxLen; omega) (by omega) hbase ?_
  intro v' w' h1 h2 _
  obtain ⟨a2, c2, rfl⟩ := owns_slice h1
  exact h a2 c2 w' h1 (below_owns2 hown h2 hB (Nat.le_refl _) hbase) h2
theorem wp_appS64 (hgd : o.guard = none) (s x : Operand) (ho : o.op = .call { callee := .builtin .append, args := #[s, x], argTypes := #[25, 25] })
    (base : Nat) (v : Value) (n : Nat) (xs : List Value) (hs : a.eval s = v) (hown : w.ownsRow base 2 1 v n xs)
    (A : Option Addr) (c : Nat) (l : List Int) (m : Nat) (hm : l.length = m) (hx : a.eval x = .slice A m c) (hl : IntsAt w (.slice A m c) l) (hn : n + m ≤ 100000) (hB : Below base w0 w) (hbase : base ≤ w.heap.size)
    (h : ∀ a2 c2 w', w'.ownsRow base 2 1 (.slice a2 (n + m) c2) (n + m) (xs ++ l.map (Value.int .i64)) → Below base w0 w' → w.grownBy w' v.ownBlock → wpList Try.prog ops Q rest (a.put o.dst (.slice a2 (n + m) c2)) w') : wpList Try.prog ops Q (o :: rest) a w := by
  subst hm
  obtain ⟨i0, hif, hz0, hz1, hz2⟩ := info_parts infoA64
  refine wpList_append_src w hgd s x 25 ho base 2 i0 (.int .i64 0) 1 8 undA64 hif hz0 hz1 hz2 rfl (by decide) v n xs hs hown A l.length c (l.map (Value.int .i64)) hx (src_ints hl) (src_ones _) (by unfold maxLen; omega) (by omega) hbase ?_
  intro v' w' h1 h2 _
  obtain ⟨a2, c2, rfl⟩ := owns_slice h1
  exact h a2 c2 w' h1 (below_owns2 hown h2 hB (Nat.le_refl _) hbase) h2
theorem wp_appSR (hgd : o.guard = none) (s x : Operand) (ho : o.op = .call { callee := .builtin .append, args := #[s, x], argTypes := #[22, 22] })
    (base : Nat) (v : Value) (n : Nat) (xs : List Value) (hs : a.eval s = v) (hown : w.ownsRow base 27 2 v n xs)
    (A : Option Addr) (c : Nat) (l : List (Int × Int)) (m : Nat) (hm : l.length = m) (hx : a.eval x = .slice A m c) (hl : PairsAt w (.slice A m c) l) (hn : n + m ≤ 100000) (hB : Below base w0 w) (hbase : base ≤ w.heap.size)
    (h : ∀ a2 c2 w', w'.ownsRow base 27 2 (.slice a2 (n + m) c2) (n + m) (xs ++ pairCells l) → Below base w0 w' → w.grownBy w' v.ownBlock → wpList Try.prog ops Q rest (a.put o.dst (.slice a2 (n + m) c2)) w') : wpList Try.prog ops Q (o :: rest) a w := by
  subst hm
  obtain ⟨i0, hif, hz0, hz1, hz2⟩ := info_parts infoAR
  refine wpList_append_src w hgd s x 22 ho base 27 i0 (.agg #[.int .i64 0, .int .i64 0]) 2 16 undAR hif hz0 hz1 hz2 rfl (by decide) v n xs hs hown A l.length c (pairCells l) hx (src_pairs hl) (fun u hu => pairCells_one hu) (by unfold maxLen; omega) (by omega) hbase ?_
  intro v' w' h1 h2 _
  obtain ⟨a2, c2, rfl⟩ := owns_slice h1
  exact h a2 c2 w' h1 (below_owns2 hown h2 hB (Nat.le_refl _) hbase) h2
end
end Go.Proofs.Ytjbeoakikdkdaaa

namespace Go.Proofs.Ytjbeoakikdkdaaa
open Go.RowKit Go.Vat Go.Sort Go.Shelf
attribute [local go_sem] Oper.semAt_some

/-! ## The most logs for so many loads -/
def okK (y : YardD) (loads : Int) (ix : List Nat) : Bool := decide (U ⟨y.load, onlyL y ix⟩ 101 ≤ loads)
def keepL (y : YardD) (loads : Int) : List Nat := lng (okK y loads) y.logs.length y.logs.length [] []
theorem only_ok {y : YardD} (hy : y.Ok) {ix : List Nat} (hix : ∀ i ∈ ix, i < y.logs.length) (hl : ix.length ≤ 10) : YardD.Ok ⟨y.load, onlyL y ix⟩ :=
  ⟨hy.l1, hy.l2, by simp only [onlyL, List.length_map]; exact hl, fun l hm => by
    simp only [onlyL] at hm
    obtain ⟨i, hi, rfl⟩ := List.mem_map.1 hm
    have h1 := hix i hi
    rw [List.getD_eq_getElem?_getD, List.getElem?_eq_getElem h1]
    exact hy.log _ (List.getElem_mem h1)⟩
theorem casts_snoc (l : List Nat) (x : Nat) : ((l ++ [x]).map (Nat.cast : Nat → Int)).map (Value.int .i64) = (l.map (Nat.cast : Nat → Int)).map (Value.int .i64) ++ [.int .i64 (x : Int)] := by simp
theorem lng_len {ok : List Nat → Bool} {N : Nat} : ∀ (m : Nat) (begun best : List Nat), begun.length + m ≤ N → best.length ≤ N → (lng ok N m begun best).length ≤ N
  | 0, _, _, _, h => h
  | m + 1, begun, best, h1, h2 => by
    rw [lng]
    split
    · exact lng_len m begun best (by omega) h2
    · refine lng_len m begun _ (by omega) ?_
      split
      · exact lng_len m _ _ (by simp; omega) (by simp; omega)
      · exact h2
set_option maxRecDepth 100000 in
set_option maxHeartbeats 16000000 in
theorem rgrown_step (loads : Int) (m frm : Nat) (v bv : Value) (y : YardD) (begun : List Nat) (w : World) (hv : YardAt w v y) (hy : y.Ok) (hm : frm + m = y.logs.length) (hb : IntsAt w bv (begun.map (Nat.cast : Nat → Int))) (hlt : ∀ i ∈ begun, i < frm) (hbl : begun.length ≤ frm)
    (ih : ∀ (m' frm' : Nat) (v' bv' : Value) (begun' : List Nat) (w' : World), m' < m → YardAt w' v' y → frm' + m' = y.logs.length → IntsAt w' bv' (begun'.map (Nat.cast : Nat → Int)) → (∀ i ∈ begun', i < frm') → begun'.length ≤ frm' →
      Calls Try.prog 77 #[v', bv', .int .i64 (frm' : Int), .int .i64 loads] w' fun e w'' => ∃ v'', e = .returned v'' ∧ IntsAt w'' v'' ((lng (okK y loads) y.logs.length m' begun' begun').map (Nat.cast : Nat → Int)) ∧ Below w'.heap.size w' w'') :
    Calls Try.prog 77 #[v, bv, .int .i64 (frm : Int), .int .i64 loads] w fun e w' => ∃ v', e = .returned v' ∧ IntsAt w' v' ((lng (okK y loads) y.logs.length m begun begun).map (Nat.cast : Nat → Int)) ∧ Below w.heap.size w w' := by
  obtain ⟨ba, bc, rfl⟩ := hb.slice
  obtain ⟨sv, rfl, hp⟩ := hv
  obtain ⟨sa, cap, rfl⟩ := hp.slice
  have hB0 := below1 w (.cells #[.int .i64 y.load, .slice sa y.logs.length cap] 24)
  have B0 := Lib.hid (Blk.new w (.cells #[.int .i64 y.load, .slice sa y.logs.length cap] 24))
  have HB := Lib.hid hB0
  have HV := Lib.hid (show YardAt _ (.agg #[.int .i64 y.load, .slice sa y.logs.length cap]) y from ⟨_, rfl, hp.below hB0⟩)
  have HBG := Lib.hid (hb.below hB0)
  have HYD := Lib.hid hy
  have hl10 := hy.count
  have HIH := Lib.hid ih
  have HLT := Lib.hid hlt
  have HM := Lib.hid hm
  clear hb hy ih hlt
  clear hp hB0
  obtain ⟨N, hN⟩ : ∃ N, y.logs.length = N := ⟨_, rfl⟩
  have HN := Lib.hid hN
  simp only [List.length_map] at HBG ⊢
  obtain ⟨nb, hnb⟩ : ∃ nb, begun.length = nb := ⟨_, rfl⟩
  have HNB := Lib.hid hnb
  rw [hnb] at hbl HBG ⊢
  have hmN : frm + m = N := by rw [← hN]; exact hm
  have hl10' : N ≤ 10 := by omega
  clear hN hnb hm hl10
  go_enter Try.func77, Try.ntmps77
  go_wp2_with fail
  generalize w.alloc (.cells #[.int .i64 y.load, .slice sa y.logs.length cap] 24) = W0 at *
  rw [HN.out] at HV B0 ⊢
  go_loopw [9, 10, 11, 12] (fun bv s _ _ wr => ∃ (i : Nat) (bl : List Nat), frm ≤ i ∧ i ≤ N ∧ s = .int .i64 (i : Int) ∧ IntsAt wr bv (bl.map (Nat.cast : Nat → Int)) ∧ lng (okK y loads) N (N - i) begun bl = lng (okK y loads) N m begun begun ∧ bl.length ≤ N ∧ Below W0.heap.size W0 wr) (fun _ s _ _ _ => N - (intOf s).toNat)
  case atStart => exact ⟨frm, begun, Nat.le_refl _, by omega, rfl, HBG.out, by rw [show N - frm = m by omega], by rw [HNB.out]; omega, Below.refl _ _⟩
  case round =>
    obtain ⟨i, bl, hi1, hi2, rfl, hbi, hlg, hbll, hbw⟩ := hrel
    have HLG := Lib.hid hlg
    have HBI := Lib.hid hbi
    obtain ⟨bla, blc, rfl⟩ := hbi.slice
    have HBW := Lib.hid hbw
    have HYL := Lib.hid (show y.logs.length = N from HN.out)
    have c0 := (B0.out.below hbw).cell 0
    have c1 := (B0.out.below hbw).cell 1
    simp at c0 c1
    simp only [List.length_map] at HBI ⊢
    clear hlg hbi
    by_cases hit : i < N
    · have hli : (begun.map (Nat.cast : Nat → Int)).length = nb := by simpa using HNB.out
      have OWE := owns_empty (W := wr) (base := wr.heap.size) (e := 3) (size := 1) (Nat.le_refl _)
      have BE := below1 wr (.cells #[] 3)
      have HSE := BE.size
      have HOWE := Lib.hid OWE
      have HBE := Lib.hid BE
      have HBG1 := Lib.hid (HBG.out.below (bC hbw BE))
      have HLI := Lib.hid hli
      have HLB := Lib.hid (show ((begun ++ [i]).map (Nat.cast : Nat → Int)).length = nb + 1 by rw [List.length_map, List.length_append, HNB.out, List.length_singleton])
      have ha1 : IntKind.i64.wrap ((nb : Int) + (N : Int)) = (nb : Int) + (N : Int) := IntWalk.i64_in _ (by omega)
      have ha2 : IntKind.i64.wrap ((nb : Int) + (N : Int) - (i : Int)) = (nb : Int) + (N : Int) - (i : Int) := IntWalk.i64_in _ (by omega)
      have hni : N - i = (N - (i + 1)) + 1 := by omega
      have HNI := Lib.hid hni
      have HNX := Lib.hid (show N - (N - (i + 1) + 1) = i by omega)
      clear OWE BE hli hbw hni
      by_cases q : nb + (N - i) ≤ bl.length
      · have HSK := Lib.hid (lng_skip (ok := okK y loads) (N := N) (m := N - (i + 1)) (begun := begun) (best := bl) (.inl (by rw [HNB.out]; omega)))
        have d1 : decide ((nb : Int) + (N : Int) - (i : Int) ≤ (bl.length : Int)) = true := by simp; omega
        clear q
        go_wp2_with (first | (at_builtin; refine wp_appSI rfl (.tmp 22) (.tmp 23) rfl wr.heap.size _ _ _ rfl HOWE.out ba bc (begun.map (Nat.cast : Nat → Int)) nb HLI.out rfl HBG1.out (by omega) HBE.out (by exact HSE) ?_; intro a2 c2 w3 own3 bel3 gr3; rw [Nat.zero_add, List.nil_append] at own3; rw [Nat.zero_add]; have hs3 := bel3.size) | (at_builtin; refine wp_appI rfl (.tmp 24) (.tmp 26) rfl wr.heap.size _ nb _ rfl (owns_below own3 (below1 _ _)) w3.heap.size (i : Int) _ rfl (Blk.new _ _) (by omega) (bC bel3 (below1 _ _)) (by simp; omega) ?_; intro a4 c4 w5 own5 bel5 gr5; clear own3 bel3 gr3 hs3; have hbw5 := bC HBW.out bel5; have e0 := (B0.out.below hbw5).cell 0; have e1 := (B0.out.below hbw5).cell 1; simp at e0 e1))
        have HBL5 := Lib.hid (HBI.out.below bel5)
        go_roundw
        case rel => exact ⟨i + 1, bl, by omega, by omega, by go_num, by simpa using HBL5.out, by rw [← HLG.out, HNI.out, HSK.out], hbll, hbw5⟩
        case measure => simp [intOf] <;> omega
      · have HTK := Lib.hid (lng_take (ok := okK y loads) (N := N) (m := N - (i + 1)) (begun := begun) (best := bl) (by rw [HNB.out]; omega))
        have HSK := Lib.hid (fun h => lng_skip (ok := okK y loads) (N := N) (m := N - (i + 1)) (begun := begun) (best := bl) (.inr h))
        rw [HNX.out] at HTK HSK
        have d1 : decide ((nb : Int) + (N : Int) - (i : Int) ≤ (bl.length : Int)) = false := by simp; omega
        clear q
        go_wp2_with (first | (at_builtin; refine wp_appSI rfl (.tmp 22) (.tmp 23) rfl wr.heap.size _ _ _ rfl HOWE.out ba bc (begun.map (Nat.cast : Nat → Int)) nb HLI.out rfl HBG1.out (by omega) HBE.out (by exact HSE) ?_; intro a2 c2 w3 own3 bel3 gr3; rw [Nat.zero_add, List.nil_append] at own3; rw [Nat.zero_add]; have hs3 := bel3.size) | (at_builtin; refine wp_appI rfl (.tmp 24) (.tmp 26) rfl wr.heap.size _ nb _ rfl (owns_below own3 (below1 _ _)) w3.heap.size (i : Int) _ rfl (Blk.new _ _) (by omega) (bC bel3 (below1 _ _)) (by simp; omega) ?_; intro a4 c4 w5 own5 bel5 gr5; clear own3 bel3 gr3 hs3; have hbw5 := bC HBW.out bel5; have e0 := (B0.out.below hbw5).cell 0; have e1 := (B0.out.below hbw5).cell 1; simp at e0 e1))
        have HI5 : Hid (IntsAt w5 (.slice a4 (nb + 1) c4) ((begun ++ [i]).map (Nat.cast : Nat → Int))) := Lib.hid (by
          have h := Row.of_owns own5
          rw [← casts_snoc] at h
          rw [← HLB.out] at h ⊢
          exact h.ints)
        have HBL5 := Lib.hid (HBI.out.below bel5)
        have HBW5 := Lib.hid hbw5
        have HV5 := Lib.hid (HV.out.below hbw5)
        have B5 := Lib.hid (B0.out.below hbw5)
        have HIX := Lib.hid (show ∀ q ∈ begun ++ [i], q < y.logs.length from fun q hq => by
          have := HN.out
          rcases List.mem_append.1 hq with h | h
          · have := HLT.out q h
            omega
          · rw [List.mem_singleton.1 h]; omega)
        have HIXL := Lib.hid (show (begun ++ [i]).length ≤ 10 by rw [List.length_append, HNB.out, List.length_singleton]; omega)
        clear own5 bel5 gr5 hbw5 e1 HBI HBW c0 c1 ha1 ha2 d1 HOWE HBE HBG1 HSE
        refine (rPart_any (.agg #[.int .i64 y.load, .slice sa N cap]) (.slice a4 (nb + 1) c4) (begun ++ [i]) y _ HV5.out HYD.out HI5.out HIX.out (by have := HIXL.out; omega)).mono ?_
        rintro e w6 ⟨vp, rfl, hvp, hb6⟩
        have HVP := Lib.hid hvp
        have HI6 := Lib.hid (HI5.out.below hb6)
        have HBL6 := Lib.hid (HBL5.out.below hb6)
        have HBW6 := Lib.hid (bC HBW5.out hb6)
        have HV6 := Lib.hid (HV5.out.below hb6)
        have B6 := Lib.hid (B5.out.below hb6)
        clear hb6 hvp HI5 HBL5 HBW5 HV5 B5
        go_wp2_with fail
        refine (rFewestOf_any vp ⟨y.load, onlyL y (begun ++ [i])⟩ _ HVP.out (only_ok HYD.out HIX.out HIXL.out)).mono ?_
        rintro e w7 ⟨rfl, hb7⟩
        have HI7 := Lib.hid (HI6.out.below hb7)
        have HBL7 := Lib.hid (HBL6.out.below hb7)
        have HBW7 := Lib.hid (bC HBW6.out hb7)
        have HV7 := Lib.hid (HV6.out.below hb7)
        have B7 := Lib.hid (B6.out.below hb7)
        clear hb7 HI6 HBL6 HBW6 HV6 B6 HVP
        have HOKV := Lib.hid (show okK y loads (begun ++ [i]) = decide (U ⟨y.load, onlyL y (begun ++ [i])⟩ 101 ≤ loads) from rfl)
        obtain ⟨u, hu⟩ : ∃ u, U ⟨y.load, onlyL y (begun ++ [i])⟩ 101 = u := ⟨_, rfl⟩
        rw [hu] at HOKV ⊢
        clear hu
        by_cases q2 : u ≤ loads
        case neg =>
          have d2 : decide (u > loads) = true := by simp; omega
          have d3 : decide (loads < u) = true := by simp; omega
          have HSK2 := Lib.hid (HSK.out (by rw [HOKV.out]; simpa using q2))
          clear q2
          go_wp2
          go_roundw
          case rel => exact ⟨i + 1, bl, by omega, by omega, by go_num, by simpa using HBL7.out, by rw [← HLG.out, HNI.out, HSK2.out], hbll, HBW7.out⟩
          case measure => simp [intOf] <;> omega
        have d2 : decide (u > loads) = false := by simp; omega
        have d3 : decide (loads < u) = false := by simp; omega
        have HTK2 := HTK.out (by rw [HOKV.out]; simpa using q2)
        have e0 := B7.out.cell 0
        have e1 := B7.out.cell 1
        simp at e0 e1
        have ha3 : IntKind.i64.wrap ((i : Int) + 1) = (i : Int) + 1 := IntWalk.i64_in _ (by omega)
        clear q2 HTK HSK
        replace HTK2 := Lib.hid HTK2
        go_wp2_with fail
        clear e0 e1 d2 d3 ha3
        have HC := HIH.out (N - (i + 1)) (i + 1) (.agg #[.int .i64 y.load, .slice sa N cap]) (.slice a4 (nb + 1) c4) (begun ++ [i]) w7 (by omega) HV7.out (by have := HN.out; omega) HI7.out (fun q hq => by
          rcases List.mem_append.1 hq with h | h
          · have := HLT.out q h
            omega
          · rw [List.mem_singleton.1 h]; omega) (by rw [List.length_append, HNB.out, List.length_singleton]; omega)
        rw [HN.out, show ((i + 1 : Nat) : Int) = (i : Int) + 1 by omega] at HC
        refine HC.mono ?_
        rintro e w8 ⟨vl, rfl, hvl, hb8⟩
        replace HTK2 := HTK2.out
        obtain ⟨L, hL⟩ : ∃ L, lng (okK y loads) N (N - (i + 1)) (begun ++ [i]) (begun ++ [i]) = L := ⟨_, rfl⟩
        have hLN : L.length ≤ N := by
          rw [← hL]
          exact lng_len _ _ _ (by rw [List.length_append, HNB.out, List.length_singleton]; omega) (by rw [List.length_append, HNB.out, List.length_singleton]; omega)
        rw [hL] at hvl HTK2
        obtain ⟨lva, lvc, rfl⟩ := hvl.slice
        simp only [List.length_map] at hvl ⊢
        have HVL := Lib.hid hvl
        have HBL8 := Lib.hid (HBL7.out.below hb8)
        have HBW8 := Lib.hid (bC HBW7.out hb8)
        clear hb8 hvl HC HI7 HBL7 HBW7 HV7 B7 hL
        by_cases q3 : bl.length < L.length
        · have d4 : decide ((L.length : Int) > (bl.length : Int)) = true := by simp; omega
          have d5 : decide ((bl.length : Int) < (L.length : Int)) = true := by simp; omega
          have d6 : decide (bl.length < L.length) = true := by simp; omega
          rw [if_pos q3] at HTK2
          replace HTK2 := Lib.hid HTK2
          clear q3
          go_wp2
          go_roundw
          case rel => exact ⟨i + 1, L, by omega, by omega, by go_num, by simpa using HVL.out, by rw [← HLG.out, HNI.out, HTK2.out], hLN, HBW8.out⟩
          case measure => simp [intOf] <;> omega
        · have d4 : decide ((L.length : Int) > (bl.length : Int)) = false := by simp; omega
          have d5 : decide ((bl.length : Int) < (L.length : Int)) = false := by simp; omega
          have d6 : decide (bl.length < L.length) = false := by simp; omega
          rw [if_neg q3] at HTK2
          replace HTK2 := Lib.hid HTK2
          clear q3
          go_wp2
          go_roundw
          case rel => exact ⟨i + 1, bl, by omega, by omega, by go_num, by simpa using HBL8.out, by rw [← HLG.out, HNI.out, HTK2.out], hbll, HBW8.out⟩
          case measure => simp [intOf] <;> omega
    · obtain rfl : i = N := by omega
      have HE := Lib.hid (show lng (okK y loads) i m begun begun = bl by rw [← HLG.out, Nat.sub_self]; rfl)
      go_wp2
      go_ret
      exact ⟨_, rfl, by rw [HN.out, HE.out]; simpa using HBI.out, bC HB.out HBW.out⟩
theorem rgrown_any (loads : Int) (m frm : Nat) (v bv : Value) (y : YardD) (begun : List Nat) (w : World) (hv : YardAt w v y) (hy : y.Ok) (hm : frm + m = y.logs.length) (hb : IntsAt w bv (begun.map (Nat.cast : Nat → Int))) (hlt : ∀ i ∈ begun, i < frm) (hbl : begun.length ≤ frm) :
    Calls Try.prog 77 #[v, bv, .int .i64 (frm : Int), .int .i64 loads] w fun e w' => ∃ v', e = .returned v' ∧ IntsAt w' v' ((lng (okK y loads) y.logs.length m begun begun).map (Nat.cast : Nat → Int)) ∧ Below w.heap.size w w' := by
  induction m using Nat.strongRecOn generalizing frm v bv begun w with
  | _ m ih => exact rgrown_step loads m frm v bv y begun w hv hy hm hb hlt hbl fun m' frm' v' bv' begun' w' h1 h2 h3 h4 h5 h6 => ih m' h1 frm' v' bv' begun' w' h2 h3 h4 h5 h6
set_option maxRecDepth 100000 in
set_option maxHeartbeats 8000000 in
theorem rKeep_err (v : Value) (loads : Int) (y : YardD) (w : World) (hv : YardAt w v y) (hl : y.logs.length ≤ 1000000) (he : yardErr y ≠ 0) :
    Calls Try.prog 37 #[v, .int .i64 loads] w fun e w' => e = .returned (.tuple #[.slice none 0 0, .int .i64 (yardErr y)]) ∧ Below w.heap.size w w' := by
  obtain ⟨sv, rfl, hp⟩ := hv
  obtain ⟨sa, cap, rfl⟩ := hp.slice
  have hB0 := below1 w (.cells #[.int .i64 y.load, .slice sa y.logs.length cap] 24)
  have B0 := Lib.hid (Blk.new w (.cells #[.int .i64 y.load, .slice sa y.logs.length cap] 24))
  have HB := Lib.hid hB0
  have HV := Lib.hid (show YardAt _ (.agg #[.int .i64 y.load, .slice sa y.logs.length cap]) y from ⟨_, rfl, hp.below hB0⟩)
  obtain ⟨E, hE⟩ : ∃ E, yardErr y = E := ⟨_, rfl⟩
  have d1 : (E != 0) = true := by rw [← hE]; simpa using he
  have HE := Lib.hid hE
  clear he hE
  rw [HE.out]
  clear hp hB0
  go_enter Try.func37, Try.ntmps37
  go_wp2_with fail
  generalize w.alloc (.cells #[.int .i64 y.load, .slice sa y.logs.length cap] 24) = W0 at *
  refine (rCheckYard_any (.agg #[.int .i64 y.load, .slice sa y.logs.length cap]) y _ HV.out hl).mono ?_
  rintro e v1 ⟨rfl, hb⟩
  replace HV := Lib.hid (HV.out.below hb)
  replace B0 := Lib.hid (B0.out.below hb)
  replace HB := Lib.hid (bC HB.out hb)
  clear hb
  rw [HE.out]
  have B0c0 := B0.out.cell 0
  have B0c1 := B0.out.cell 1
  simp at B0c0 B0c1
  go_wp2_with fail
  clear B0c0 B0c1
  refine (rCheckYard_any (.agg #[.int .i64 y.load, .slice sa y.logs.length cap]) y _ HV.out hl).mono ?_
  rintro e v2 ⟨rfl, hb⟩
  replace HV := Lib.hid (HV.out.below hb)
  replace B0 := Lib.hid (B0.out.below hb)
  replace HB := Lib.hid (bC HB.out hb)
  clear hb
  rw [HE.out]
  have B0c0 := B0.out.cell 0
  have B0c1 := B0.out.cell 1
  simp at B0c0 B0c1
  go_wp2
  go_ret2
  exact ⟨rfl, HB.out⟩
set_option maxRecDepth 100000 in
set_option maxHeartbeats 8000000 in
theorem rKeep_no (v : Value) (loads : Int) (y : YardD) (w : World) (hv : YardAt w v y) (hy : y.Ok) (hw : loads < 0 ∨ 10 < loads) :
    Calls Try.prog 37 #[v, .int .i64 loads] w fun e w' => e = .returned (.tuple #[.slice none 0 0, .int .i64 3]) ∧ Below w.heap.size w w' := by
  obtain ⟨sv, rfl, hp⟩ := hv
  obtain ⟨sa, cap, rfl⟩ := hp.slice
  have hB0 := below1 w (.cells #[.int .i64 y.load, .slice sa y.logs.length cap] 24)
  have B0 := Lib.hid (Blk.new w (.cells #[.int .i64 y.load, .slice sa y.logs.length cap] 24))
  have HB := Lib.hid hB0
  have HV := Lib.hid (show YardAt _ (.agg #[.int .i64 y.load, .slice sa y.logs.length cap]) y from ⟨_, rfl, hp.below hB0⟩)
  have HYD := Lib.hid hy
  have HE := Lib.hid (yardErr_of hy)
  have hl10 := hy.count
  clear hy
  clear hp hB0
  by_cases q : loads < 0
  · have d1 : decide (loads < 0) = true := by simpa using q
    clear hw q
    go_enter Try.func37, Try.ntmps37
    go_wp2_with fail
    generalize w.alloc (.cells #[.int .i64 y.load, .slice sa y.logs.length cap] 24) = W0 at *
    refine (rCheckYard_any (.agg #[.int .i64 y.load, .slice sa y.logs.length cap]) y _ HV.out (by omega)).mono ?_
    rintro e v1 ⟨rfl, hb⟩
    replace HV := Lib.hid (HV.out.below hb)
    replace B0 := Lib.hid (B0.out.below hb)
    replace HB := Lib.hid (bC HB.out hb)
    clear hb
    rw [HE.out]
    have B0c0 := B0.out.cell 0
    have B0c1 := B0.out.cell 1
    simp at B0c0 B0c1
    go_wp2
    go_ret2
    exact ⟨rfl, HB.out⟩
  · have d1 : decide (loads < 0) = false := by simpa using q
    have d2 : decide (loads > 10) = true := by simp; omega
    have d3 : decide (10 < loads) = true := by simp; omega
    clear hw q
    go_enter Try.func37, Try.ntmps37
    go_wp2_with fail
    generalize w.alloc (.cells #[.int .i64 y.load, .slice sa y.logs.length cap] 24) = W0 at *
    refine (rCheckYard_any (.agg #[.int .i64 y.load, .slice sa y.logs.length cap]) y _ HV.out (by omega)).mono ?_
    rintro e v1 ⟨rfl, hb⟩
    replace HV := Lib.hid (HV.out.below hb)
    replace B0 := Lib.hid (B0.out.below hb)
    replace HB := Lib.hid (bC HB.out hb)
    clear hb
    rw [HE.out]
    have B0c0 := B0.out.cell 0
    have B0c1 := B0.out.cell 1
    simp at B0c0 B0c1
    go_wp2
    go_ret2
    exact ⟨rfl, HB.out⟩
set_option maxRecDepth 100000 in
set_option maxHeartbeats 8000000 in
theorem rKeep_yes (v : Value) (loads : Int) (y : YardD) (w : World) (hv : YardAt w v y) (hy : y.Ok) (hw : 0 ≤ loads) (hw2 : loads ≤ 10) :
    Calls Try.prog 37 #[v, .int .i64 loads] w fun e w' => ∃ v', e = .returned (.tuple #[v', .int .i64 0]) ∧ IntsAt w' v' ((keepL y loads).map (Nat.cast : Nat → Int)) ∧ Below w.heap.size w w' := by
  obtain ⟨sv, rfl, hp⟩ := hv
  obtain ⟨sa, cap, rfl⟩ := hp.slice
  have hB0 := below1 w (.cells #[.int .i64 y.load, .slice sa y.logs.length cap] 24)
  have B0 := Lib.hid (Blk.new w (.cells #[.int .i64 y.load, .slice sa y.logs.length cap] 24))
  have HB := Lib.hid hB0
  have HV := Lib.hid (show YardAt _ (.agg #[.int .i64 y.load, .slice sa y.logs.length cap]) y from ⟨_, rfl, hp.below hB0⟩)
  have HYD := Lib.hid hy
  have HE := Lib.hid (yardErr_of hy)
  have hl10 := hy.count
  clear hy
  have d1 : decide (loads < 0) = false := by simp; omega
  have d2 : decide (loads > 10) = false := by simp; omega
  have d3 : decide (10 < loads) = false := by simp; omega
  clear hp hB0
  go_enter Try.func37, Try.ntmps37
  go_wp2_with fail
  generalize w.alloc (.cells #[.int .i64 y.load, .slice sa y.logs.length cap] 24) = W0 at *
  refine (rCheckYard_any (.agg #[.int .i64 y.load, .slice sa y.logs.length cap]) y _ HV.out (by omega)).mono ?_
  rintro e v1 ⟨rfl, hb⟩
  replace HV := Lib.hid (HV.out.below hb)
  replace B0 := Lib.hid (B0.out.below hb)
  replace HB := Lib.hid (bC HB.out hb)
  clear hb
  rw [HE.out]
  have B0c0 := B0.out.cell 0
  have B0c1 := B0.out.cell 1
  simp at B0c0 B0c1
  go_wp2_with fail
  clear B0c0 B0c1
  refine (rgrown_any loads y.logs.length 0 (.agg #[.int .i64 y.load, .slice sa y.logs.length cap]) (.slice none 0 0) y [] _ HV.out HYD.out (by omega) ⟨none, 0, rfl, fun h => absurd rfl h⟩ (by simp) (Nat.le_refl _)).mono ?_
  rintro e w3 ⟨v', rfl, hI, hb⟩
  have HI := Lib.hid hI
  have HB3 := Lib.hid (bC HB.out hb)
  clear hI hb
  go_wp2
  go_ret2
  exact ⟨_, rfl, HI.out, HB3.out⟩
end Go.Proofs.Ytjbeoakikdkdaaa
