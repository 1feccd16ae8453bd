import Derived.Test.YtjbeoakikdkdaaaSl
namespace Go.Proofs.Ytjbeoakikdkdaaa
open Go.RowKit Go.Vat Go.Sort Go.Shelf
attribute [local go_sem] Oper.semAt_some

/-! ## Lists that grow by append -/
theorem infoA64 : (Try.prog.info? 2).map (fun i => (i.zero, i.size, i.bytes)) = some (some (.int .i64 0), 1, 8) := by kernel_rfl
theorem undA64 : Try.prog.underlying 25 = some (.slice 2) := by kernel_rfl
theorem infoAI : (Try.prog.info? 3).map (fun i => (i.zero, i.size, i.bytes)) = some (some (.int .i64 0), 1, 8) := by kernel_rfl
theorem undAI : Try.prog.underlying 44 = some (.slice 3) := by kernel_rfl
theorem infoAR : (Try.prog.info? 27).map (fun i => (i.zero, i.size, i.bytes)) = some (some (.agg #[.int .i64 0, .int .i64 0]), 2, 16) := by kernel_rfl
theorem undAR : Try.prog.underlying 22 = some (.slice 27) := by kernel_rfl
theorem one1 (x : Int) : ∀ q ∈ [Value.int .i64 x], q.oneCell' = true := by
  intro u hu
  simp only [List.mem_cons, List.not_mem_nil, or_false] at hu
  subst hu; rfl
theorem one2 (x y : Int) : ∀ q ∈ [Value.int .i64 x, Value.int .i64 y], q.oneCell' = true := by
  intro u hu
  simp only [List.mem_cons, List.not_mem_nil, or_false] at hu
  rcases hu with rfl | rfl <;> rfl
theorem below_owns2 {W W' : World} {w : World} {base b0 size n : Nat} {e : TypeId} {v : Value} {xs : List Value} (h : W.ownsRow base e size v n xs) (hg : W.grownBy W' v.ownBlock) (hb : Below b0 w W) (h0 : b0 ≤ base) (hs : b0 ≤ W.heap.size) : Below b0 w W' := by
  refine hb.grown hg hs fun k e => ?_
  obtain ⟨h1, ⟨rfl, _⟩ | ⟨g, cap, cur, rfl, e2, _⟩⟩ := h
  · cases e
  · have := Option.some.inj e
    simp only at this
    omega
theorem owns_slice {W : World} {base size n : Nat} {e : TypeId} {v : Value} {xs : List Value} (h : W.ownsRow base e size v n xs) : ∃ a c, v = .slice a n c := by
  obtain ⟨h1, ⟨rfl, rfl⟩ | ⟨g, cap, cur, rfl, e2, _⟩⟩ := h
  · exact ⟨_, _, rfl⟩
  · exact ⟨_, _, rfl⟩
theorem blk_src {W : World} {b : Nat} {l : List Value} {T : TypeId} (h : Blk W b (.cells l.toArray T)) : ∀ (j : Nat) (u : Value), l[j]? = some u → W.cell? (Addr.add ⟨b, 0, none⟩ j) = some u := by
  intro j u hu
  have e1 : (Addr.add ⟨b, 0, none⟩ j) = ⟨b, j, none⟩ := by unfold Addr.add; split <;> simp_all
  rw [e1, h.cell]
  simpa using hu
section
variable {w w0 : World} {ops : Array Oper} {rest : List Oper} {o : Oper} {a : Act} {Q : Exit → Act → World → Prop}
/-- One number more at the end of a list of the call's own. -/
theorem wp_app64 (hgd : o.guard = none) (s x : Operand) (ho : o.op = .call { callee := .builtin .append, args := #[s, x], argTypes := #[25, 25] })
    (base : Nat) (v : Value) (n : Nat) (xs : List Value) (hs : a.eval s = v) (hown : w.ownsRow base 2 1 v n xs)
    (b : Nat) (y : Int) (T : TypeId) (hx : a.eval x = .slice (some ⟨b, 0, none⟩) 1 1) (hb : Blk w b (.cells #[.int .i64 y] T)) (hn : n ≤ 100000) (hB : Below base w0 w) (hbase : base ≤ w.heap.size)
    (h : ∀ a2 c2 w', w'.ownsRow base 2 1 (.slice a2 (n + 1) c2) (n + 1) (xs ++ [.int .i64 y]) → Below base w0 w' → w.grownBy w' v.ownBlock → wpList Try.prog ops Q rest (a.put o.dst (.slice a2 (n + 1) c2)) w') : wpList Try.prog ops Q (o :: rest) a w := by
  obtain ⟨i0, hif, hz0, hz1, hz2⟩ := info_parts infoA64
  refine wpList_append_own _ hgd s x 25 ho base 2 i0 (.int .i64 0) 1 8 undA64 hif hz0 hz1 hz2 rfl (by decide) v n xs hs hown ⟨b, 0, none⟩ 1 1 [.int .i64 y] hx rfl (blk_src hb) (one1 y) (by unfold maxLen; omega) (by omega) hbase ?_
  intro v' w' h1 h2 _
  obtain ⟨a2, c2, rfl⟩ := owns_slice h1
  exact h a2 c2 w' h1 (below_owns2 hown h2 hB (Nat.le_refl _) hbase) h2
theorem wp_appI (hgd : o.guard = none) (s x : Operand) (ho : o.op = .call { callee := .builtin .append, args := #[s, x], argTypes := #[44, 44] })
    (base : Nat) (v : Value) (n : Nat) (xs : List Value) (hs : a.eval s = v) (hown : w.ownsRow base 3 1 v n xs)
    (b : Nat) (y : Int) (T : TypeId) (hx : a.eval x = .slice (some ⟨b, 0, none⟩) 1 1) (hb : Blk w b (.cells #[.int .i64 y] T)) (hn : n ≤ 100000) (hB : Below base w0 w) (hbase : base ≤ w.heap.size)
    (h : ∀ a2 c2 w', w'.ownsRow base 3 1 (.slice a2 (n + 1) c2) (n + 1) (xs ++ [.int .i64 y]) → Below base w0 w' → w.grownBy w' v.ownBlock → wpList Try.prog ops Q rest (a.put o.dst (.slice a2 (n + 1) c2)) w') : wpList Try.prog ops Q (o :: rest) a w := by
  obtain ⟨i0, hif, hz0, hz1, hz2⟩ := info_parts infoAI
  refine wpList_append_own _ hgd s x 44 ho base 3 i0 (.int .i64 0) 1 8 undAI hif hz0 hz1 hz2 rfl (by decide) v n xs hs hown ⟨b, 0, none⟩ 1 1 [.int .i64 y] hx rfl (blk_src hb) (one1 y) (by unfold maxLen; omega) (by omega) hbase ?_
  intro v' w' h1 h2 _
  obtain ⟨a2, c2, rfl⟩ := owns_slice h1
  exact h a2 c2 w' h1 (below_owns2 hown h2 hB (Nat.le_refl _) hbase) h2
/-- One range more. The world before (w0) may be any whose blocks below the row's stand. -/
theorem wp_appR (hgd : o.guard = none) (s x : Operand) (ho : o.op = .call { callee := .builtin .append, args := #[s, x], argTypes := #[22, 22] })
    (base : Nat) (v : Value) (n : Nat) (xs : List Value) (hs : a.eval s = v) (hown : w.ownsRow base 27 2 v n xs)
    (b : Nat) (y z : Int) (T : TypeId) (hx : a.eval x = .slice (some ⟨b, 0, none⟩) 1 1) (hb : Blk w b (.cells #[.int .i64 y, .int .i64 z] T)) (hn : n ≤ 100000) (hB : Below base w0 w) (hbase : base ≤ w.heap.size)
    (h : ∀ a2 c2 w', w'.ownsRow base 27 2 (.slice a2 (n + 1) c2) (n + 1) (xs ++ [.int .i64 y, .int .i64 z]) → Below base w0 w' → w.grownBy w' v.ownBlock → wpList Try.prog ops Q rest (a.put o.dst (.slice a2 (n + 1) c2)) w') : wpList Try.prog ops Q (o :: rest) a w := by
  obtain ⟨i0, hif, hz0, hz1, hz2⟩ := info_parts infoAR
  refine wpList_append_own _ hgd s x 22 ho base 27 i0 (.agg #[.int .i64 0, .int .i64 0]) 2 16 undAR hif hz0 hz1 hz2 rfl (by decide) v n xs hs hown ⟨b, 0, none⟩ 1 1 [.int .i64 y, .int .i64 z] hx rfl (blk_src hb) (one2 y z) (by unfold maxLen; omega) (by omega) hbase ?_
  intro v' w' h1 h2 _
  obtain ⟨a2, c2, rfl⟩ := owns_slice h1
  exact h a2 c2 w' h1 (below_owns2 hown h2 hB (Nat.le_refl _) hbase) h2
end
theorem owns_nil (W : World) (base : Nat) (e : TypeId) (size : Nat) : W.ownsRow base e size (.slice none 0 0) 0 [] := ⟨by simp, .inl ⟨rfl, rfl⟩⟩
theorem FrL.grown {w W W' : World} {L base size n : Nat} {e : TypeId} {v : Value} {xs : List Value} (h : FrL w L W) (ho : W.ownsRow base e size v n xs) (hg : W.grownBy W' v.ownBlock) (hs : w.heap.size ≤ base) : FrL w L W' := by
  refine ⟨Nat.le_trans h.size hg.size, fun k hk hne => ?_, hg.os.trans h.os, hg.tape.trans h.tape, hg.output.trans h.output⟩
  refine (hg.block k (Nat.lt_of_lt_of_le hk h.size) fun e => ?_).trans (h.same k hk hne)
  obtain ⟨h1, ⟨rfl, _⟩ | ⟨g, cap, cur, rfl, e2, _⟩⟩ := ho
  · cases e
  · have := Option.some.inj e
    simp only at this
    omega
end Go.Proofs.Ytjbeoakikdkdaaa

namespace Go.Proofs.Ytjbeoakikdkdaaa
open Go.RowKit Go.Vat Go.Sort Go.Shelf
attribute [local go_sem] Oper.semAt_some

/-! ## The reference: windows, and how many loads there are at least -/
def rowW (ls : List (Int × Int)) (l : Int × Int) (k : Nat) : List (Int × Int) := ((ls.take k).filter fun q => decide (l.1 ≤ q.2)).map fun q => (l.1, q.2)
def allW (ls : List (Int × Int)) (i : Nat) : List (Int × Int) := (ls.take i).flatMap fun l => rowW ls l ls.length
theorem rowW_yes {ls : List (Int × Int)} {l : Int × Int} {k : Nat} (hk : k < ls.length) (hx : l.1 ≤ ls[k].2) : rowW ls l (k + 1) = rowW ls l k ++ [(l.1, ls[k].2)] := by
  unfold rowW
  rw [List.take_succ_eq_append_getElem hk, List.filter_append, List.map_append, List.filter_cons, if_pos (by simpa using hx)]
  rfl
theorem rowW_no {ls : List (Int × Int)} {l : Int × Int} {k : Nat} (hk : k < ls.length) (hx : ¬ l.1 ≤ ls[k].2) : rowW ls l (k + 1) = rowW ls l k := by
  unfold rowW
  rw [List.take_succ_eq_append_getElem hk, List.filter_append, List.filter_cons, if_neg (by simpa using hx)]
  simp
theorem allW_succ {ls : List (Int × Int)} {i : Nat} (hi : i < ls.length) : allW ls (i + 1) = allW ls i ++ rowW ls ls[i] ls.length := by
  unfold allW
  rw [List.take_succ_eq_append_getElem hi, List.flatMap_append]
  simp
theorem rowW_len (ls : List (Int × Int)) (l : Int × Int) (k : Nat) : (rowW ls l k).length ≤ k := by
  unfold rowW
  rw [List.length_map]
  exact Nat.le_trans (List.length_filter_le _ _) (List.length_take_le _ _)
theorem allW_len (ls : List (Int × Int)) (hl : ls.length ≤ 10) : ∀ i, (allW ls i).length ≤ i * 10
  | 0 => by simp [allW]
  | i + 1 => by
    by_cases hi : i < ls.length
    · have h1 := allW_len ls hl i
      have h2 := rowW_len ls ls[i] ls.length
      rw [allW_succ hi, List.length_append]
      omega
    · have h1 := allW_len ls hl i
      have e : allW ls (i + 1) = allW ls i := by
        unfold allW
        rw [List.take_of_length_le (by omega), List.take_of_length_le (by omega)]
      rw [e]
      omega
theorem mem_allW {ls : List (Int × Int)} {x : Int × Int} : x ∈ allW ls ls.length ↔ ∃ l ∈ ls, ∃ q ∈ ls, l.1 ≤ q.2 ∧ x = (l.1, q.2) := by
  unfold allW rowW
  simp only [List.take_length, List.mem_flatMap, List.mem_map, List.mem_filter, decide_eq_true_eq]
  constructor
  · rintro ⟨l, hl, q, ⟨hq, h1⟩, rfl⟩
    exact ⟨l, hl, q, hq, h1, rfl⟩
  · rintro ⟨l, hl, q, hq, h1, rfl⟩
    exact ⟨l, hl, q, ⟨hq, h1⟩, rfl⟩
theorem wins_allW {y : YardD} {h : Int} {x : Int × Int} : x ∈ wins y h ↔ x ∈ (allW y.logs y.logs.length).filter fun x => decide (x.2 = h) := by
  rw [wins_iff, List.mem_filter, mem_allW]
  constructor
  · rintro ⟨⟨q, hq, h1⟩, h2, l, hl, h3, h4⟩
    exact ⟨⟨l, hl, q, hq, by omega, Prod.ext h4 (by omega)⟩, by simpa using h2⟩
  · rintro ⟨⟨l, hl, q, hq, h1, rfl⟩, h2⟩
    simp only [decide_eq_true_eq] at h2
    exact ⟨⟨q, hq, h2⟩, h2, l, hl, by omega, rfl⟩
theorem mxL_same {α : Type} (f : α → Int) {xs zs : List α} (h : ∀ x, x ∈ xs ↔ x ∈ zs) (lo : Int) : mxL f xs lo = mxL f zs lo := by
  have key : ∀ {a b : List α}, (∀ x, x ∈ a → x ∈ b) → mxL f a lo ≤ mxL f b lo := fun {a b} hab => by
    rcases mxL_cases f a lo with e | ⟨x, hx, e⟩
    · rw [e]; exact mxL_lo f b lo
    · rw [e]; exact mxL_ge f b lo x (hab x hx)
  exact Int.le_antisymm (key fun x hx => (h x).1 hx) (key fun x hx => (h x).2 hx)
theorem owns_mono {W : World} {base base' size n : Nat} {e : TypeId} {v : Value} {xs : List Value} (h : W.ownsRow base e size v n xs) (hb : base' ≤ base) : W.ownsRow base' e size v n xs := by
  obtain ⟨h1, h2 | ⟨g, cap, cur, e1, e2, e3, e4⟩⟩ := h
  · exact ⟨h1, .inl h2⟩
  · exact ⟨h1, .inr ⟨g, cap, cur, e1, Nat.le_trans hb e2, e3, e4⟩⟩
theorem owns_base {W : World} {base size n : Nat} {e : TypeId} {v : Value} {xs : List Value} (h : W.ownsRow base e size v n xs) {b o k c : Nat} (hv : v = .slice (some ⟨b, o, none⟩) k c) : base ≤ b := by
  obtain ⟨h1, ⟨rfl, _⟩ | ⟨g, cap, cur, rfl, e2, _⟩⟩ := h
  · cases hv
  · cases hv; exact e2
theorem cellF {w W : World} {L b o : Nat} {v : Value} (h : w.cell? ⟨b, o, none⟩ = some v) (hF : FrL w L W) (hne : b ≠ L) : W.cell? ⟨b, o, none⟩ = some v := (World.cell?_of_block (hF.same b (lt_of_cell h) hne)).trans h
theorem ArrAt.alloc0 (W : World) (n : Nat) : ArrAt (W.alloc (.cells (madeCells #[.int .i64 0] n) 2)) W.heap.size n 2 (fun _ => 0) := ArrAt.zeros W n _
set_option maxRecDepth 100000 in
set_option maxHeartbeats 8000000 in
theorem rWindows_any (v : Value) (y : YardD) (w : World) (hv : YardAt w v y) (hy : y.Ok) :
    Calls Try.prog 88 #[v] w fun e w' => ∃ a c, e = .returned (.slice a (allW y.logs y.logs.length).length c) ∧ w'.ownsRow w.heap.size 27 2 (.slice a (allW y.logs y.logs.length).length c) (allW y.logs y.logs.length).length (pairCells (allW y.logs y.logs.length)) ∧ Below w.heap.size w w' := by
  obtain ⟨sv, rfl, hp⟩ := hv
  obtain ⟨sa, cap, rfl⟩ := hp.slice
  have hB0 := below1 w (.cells #[.int .i64 y.load, .slice sa y.logs.length cap] 24)
  have B0 := Lib.hid (Blk.new w (.cells #[.int .i64 y.load, .slice sa y.logs.length cap] 24))
  have HB := Lib.hid hB0
  have HV := Lib.hid (show YardAt _ (.agg #[.int .i64 y.load, .slice sa y.logs.length cap]) y from ⟨_, rfl, hp.below hB0⟩)
  have HP := Lib.hid (hp.below hB0)
  have HLEN := Lib.hid (allW_len y.logs hy.count)
  have HYD := Lib.hid hy
  have hl10 := hy.count
  clear hy
  clear hp hB0
  go_enter Try.func88, Try.ntmps88
  go_wp2_with fail
  generalize w.alloc (.cells #[.int .i64 y.load, .slice sa y.logs.length cap] 24) = W0 at *
  go_loopw [3, 4, 5] (fun o s _ wr => ∃ i : Nat, i ≤ y.logs.length ∧ s = .int .i64 i ∧ wr.ownsRow W0.heap.size 27 2 o (allW y.logs i).length (pairCells (allW y.logs i)) ∧ Below W0.heap.size W0 wr) (fun _ s _ _ => y.logs.length - (intOf s).toNat)
  case atStart => exact ⟨0, Nat.zero_le _, rfl, owns_nil _ _ _ _, Below.refl _ _⟩
  case round =>
    obtain ⟨i, hi, rfl, hown, hbw⟩ := hrel
    have HOWN := Lib.hid hown
    obtain ⟨oa, oc, rfl⟩ := owns_slice hown
    have HBW := Lib.hid hbw
    have c1 := (B0.out.below hbw).cell 1
    simp at c1
    clear hown hbw
    by_cases hit : i < y.logs.length
    · go_wp2_with fail
      clear c1
      go_loopw [3, 5] (fun o s w2 => ∃ k : Nat, k ≤ y.logs.length ∧ s = .int .i64 k ∧ w2.ownsRow W0.heap.size 27 2 o (allW y.logs i ++ rowW y.logs y.logs[i] k).length (pairCells (allW y.logs i ++ rowW y.logs y.logs[i] k)) ∧ Below W0.heap.size W0 w2) (fun _ s _ => y.logs.length - (intOf s).toNat)
      case atStart => exact ⟨0, Nat.zero_le _, rfl, by simpa [rowW] using HOWN.out, HBW.out⟩
      case round =>
        clear HOWN HBW
        obtain ⟨k, hk, rfl, hown, hbw⟩ := hrel
        have hll : (allW y.logs i ++ rowW y.logs y.logs[i] k).length ≤ 200 := by
          have h1 := HLEN.out i
          have h2 := rowW_len y.logs y.logs[i] k
          rw [List.length_append]
          omega
        obtain ⟨CL, hCL⟩ : ∃ CL, allW y.logs i ++ rowW y.logs y.logs[i] k = CL := ⟨_, rfl⟩
        rw [hCL] at hown hll
        have HCL := Lib.hid hCL
        clear hCL
        have HOWN := Lib.hid hown
        obtain ⟨oa, oc, rfl⟩ := owns_slice hown
        have HBW := Lib.hid hbw
        have c1 := (B0.out.below hbw).cell 1
        simp at c1
        clear hown
        by_cases hkt : k < y.logs.length
        · obtain ⟨pb, off, rfl, hpw, hc, hc'⟩ := PairsAt.get0 (HP.out.below hbw) hit
          obtain ⟨pb2, off2, e, hpw2, hd', hd⟩ := PairsAt.get0 (HP.out.below hbw) hkt
          obtain ⟨rfl, rfl⟩ : pb = pb2 ∧ off = off2 := by simpa using e
          have HYES := Lib.hid (rowW_yes (l := y.logs[i]) hkt)
          have HNO := Lib.hid (rowW_no (l := y.logs[i]) hkt)
          obtain ⟨l1, hl1⟩ : ∃ x, y.logs[i].1 = x := ⟨_, rfl⟩
          obtain ⟨l2, hl2⟩ : ∃ x, y.logs[k].2 = x := ⟨_, rfl⟩
          rw [hl1] at hc HYES HNO
          rw [hl2] at hd HYES HNO
          have hki : (k : Int) < (y.logs.length : Int) := by omega
          have hii : (i : Int) < (y.logs.length : Int) := by omega
          clear hl1 hl2 hc' hd' e hbw
          by_cases q : l1 ≤ l2
          · have HS := Lib.hid (HYES.out q)
            have d1 : decide (l1 ≤ l2) = true := by simpa using q
            clear HYES HNO q
            go_wp2_with fail
            go_quiet (fail)
            go_wp2_with fail
            rename_i nq
            have hq := below_drewN (Below.refl wr.heap.size wr) nq
            replace HOWN := Lib.hid (owns_below HOWN.out hq)
            replace HBW := Lib.hid (bC HBW.out hq)
            replace c1 := cellB c1 hq
            replace hc := cellB hc hq
            replace hd := cellB hd hq
            clear hq
            generalize wr.drewN nq = w5 at *
            have y0 : w5.drew.cell? ⟨w.heap.size, 1, none⟩ = some (.slice (some ⟨pb, off, none⟩) y.logs.length cap) := c1
            have y1 : w5.drew.cell? ⟨pb, off + i * 2, none⟩ = some (.int .i64 l1) := hc
            have y2 : w5.drew.cell? ⟨pb, off + k * 2 + 1, none⟩ = some (.int .i64 l2) := hd
            have own : w5.drew.ownsRow W0.heap.size 27 2 (.slice oa CL.length oc) CL.length (pairCells CL) := HOWN.out
            have bel : Below W0.heap.size W0 w5.drew := HBW.out.drew
            clear HOWN HBW c1 hc hd d1
            refine (wp_region_T 15 (fun W' => W'.cell? ⟨w.heap.size, 1, none⟩ = some (.slice (some ⟨pb, off, none⟩) y.logs.length cap) ∧ W'.cell? ⟨pb, off + i * 2, none⟩ = some (.int .i64 l1) ∧ W'.cell? ⟨pb, off + k * 2 + 1, none⟩ = some (.int .i64 l2)) (by kernel_rfl) (by kernel_rfl) ⟨y0, y1, y2⟩ ?_)
            intro inv hS
            clear y0 y1 y2
            generalize w5.drew = V0 at *
            refine wpAnyT_take inv (by kernel_rfl) (by omega) (i := 0) (v := .slice oa CL.length oc) rfl (by kernel_rfl) (by kernel_rfl) (fun _ _ _ h => h) (Or.inl ⟨by kernel_rfl, ?_⟩) (by assumption) ?_
            · rintro W' ⟨q0, q1, q2⟩
              go_simp
            intro inv2
            clear inv
            have inv := inv2
            clear inv2
            simp only [Act.put, List.setIfInBounds_toArray]
            refine wpAnyT_take inv (by kernel_rfl) (by omega) (i := 1) (v := .pointer (some ⟨w.heap.size, 1, none⟩)) rfl (by kernel_rfl) (by kernel_rfl) (fun _ _ _ h => h) (Or.inl ⟨by kernel_rfl, ?_⟩) (by assumption) ?_
            · rintro W' ⟨q0, q1, q2⟩
              go_simp
            intro inv2
            clear inv
            have inv := inv2
            clear inv2
            simp only [Act.put]
            refine wpAnyT_take inv (by kernel_rfl) (by omega) (i := 2) (v := .slice (some ⟨pb, off, none⟩) y.logs.length cap) rfl (by kernel_rfl) (by kernel_rfl) (fun _ _ _ h => h) (Or.inl ⟨by kernel_rfl, ?_⟩) (by assumption) ?_
            · rintro W' ⟨q0, q1, q2⟩
              go_simp
            intro inv2
            clear inv
            have inv := inv2
            clear inv2
            simp only [Act.put]
            refine wpAnyT_take inv (by kernel_rfl) (by omega) (i := 3) (v := .int .i64 (i : Int)) rfl (by kernel_rfl) (by kernel_rfl) (fun _ _ _ h => h) (Or.inl ⟨by kernel_rfl, ?_⟩) (by assumption) ?_
            · rintro W' ⟨q0, q1, q2⟩
              go_simp
            intro inv2
            clear inv
            have inv := inv2
            clear inv2
            simp only [Act.put]
            refine wpAnyT_take inv (by kernel_rfl) (by omega) (i := 4) (v := .pointer (some ⟨pb, off + i * 2, none⟩)) rfl (by kernel_rfl) (by kernel_rfl) (fun _ _ _ h => h) (Or.inl ⟨by kernel_rfl, ?_⟩) (by assumption) ?_
            · rintro W' ⟨q0, q1, q2⟩
              go_simp
            intro inv2
            clear inv
            have inv := inv2
            clear inv2
            simp only [Act.put]
            refine wpAnyT_take inv (by kernel_rfl) (by omega) (i := 5) (v := .pointer (some ⟨pb, off + i * 2, none⟩)) rfl (by kernel_rfl) (by kernel_rfl) (fun _ _ _ h => h) (Or.inl ⟨by kernel_rfl, ?_⟩) (by assumption) ?_
            · rintro W' ⟨q0, q1, q2⟩
              go_simp
            intro inv2
            clear inv
            have inv := inv2
            clear inv2
            simp only [Act.put]
            refine wpAnyT_take inv (by kernel_rfl) (by omega) (i := 6) (v := .int .i64 l1) rfl (by kernel_rfl) (by kernel_rfl) (fun _ _ _ h => h) (Or.inl ⟨by kernel_rfl, ?_⟩) (by assumption) ?_
            · rintro W' ⟨q0, q1, q2⟩
              go_simp
            intro inv2
            clear inv
            have inv := inv2
            clear inv2
            simp only [Act.put]
            refine wpAnyT_take inv (by kernel_rfl) (by omega) (i := 7) (v := .pointer (some ⟨w.heap.size, 1, none⟩)) rfl (by kernel_rfl) (by kernel_rfl) (fun _ _ _ h => h) (Or.inl ⟨by kernel_rfl, ?_⟩) (by assumption) ?_
            · rintro W' ⟨q0, q1, q2⟩
              go_simp
            intro inv2
            clear inv
            have inv := inv2
            clear inv2
            simp only [Act.put]
            refine wpAnyT_take inv (by kernel_rfl) (by omega) (i := 8) (v := .slice (some ⟨pb, off, none⟩) y.logs.length cap) rfl (by kernel_rfl) (by kernel_rfl) (fun _ _ _ h => h) (Or.inl ⟨by kernel_rfl, ?_⟩) (by assumption) ?_
            · rintro W' ⟨q0, q1, q2⟩
              go_simp
            intro inv2
            clear inv
            have inv := inv2
            clear inv2
            simp only [Act.put]
            refine wpAnyT_take inv (by kernel_rfl) (by omega) (i := 9) (v := .int .i64 (k : Int)) rfl (by kernel_rfl) (by kernel_rfl) (fun _ _ _ h => h) (Or.inl ⟨by kernel_rfl, ?_⟩) (by assumption) ?_
            · rintro W' ⟨q0, q1, q2⟩
              go_simp
            intro inv2
            clear inv
            have inv := inv2
            clear inv2
            simp only [Act.put]
            refine wpAnyT_take inv (by kernel_rfl) (by omega) (i := 10) (v := .pointer (some ⟨pb, off + k * 2, none⟩)) rfl (by kernel_rfl) (by kernel_rfl) (fun _ _ _ h => h) (Or.inl ⟨by kernel_rfl, ?_⟩) (by assumption) ?_
            · rintro W' ⟨q0, q1, q2⟩
              go_simp
            intro inv2
            clear inv
            have inv := inv2
            clear inv2
            simp only [Act.put]
            refine wpAnyT_take inv (by kernel_rfl) (by omega) (i := 11) (v := .pointer (some ⟨pb, off + k * 2 + 1, none⟩)) rfl (by kernel_rfl) (by kernel_rfl) (fun _ _ _ h => h) (Or.inl ⟨by kernel_rfl, ?_⟩) (by assumption) ?_
            · rintro W' ⟨q0, q1, q2⟩
              go_simp
            intro inv2
            clear inv
            have inv := inv2
            clear inv2
            simp only [Act.put]
            refine wpAnyT_take inv (by kernel_rfl) (by omega) (i := 12) (v := .int .i64 l2) rfl (by kernel_rfl) (by kernel_rfl) (fun _ _ _ h => h) (Or.inl ⟨by kernel_rfl, ?_⟩) (by assumption) ?_
            · rintro W' ⟨q0, q1, q2⟩
              go_simp
            intro inv2
            clear inv
            have inv := inv2
            clear inv2
            simp only [Act.put]
            refine wpAnyT_take inv (by kernel_rfl) (by omega) (i := 13) (v := .agg #[.int .i64 l1, .int .i64 l2]) rfl (by kernel_rfl) (by kernel_rfl) (fun _ _ _ h => h) (Or.inl ⟨by kernel_rfl, ?_⟩) (by assumption) ?_
            · rintro W' ⟨q0, q1, q2⟩
              go_simp
            intro inv2
            clear inv
            have inv := inv2
            clear inv2
            simp only [Act.put]
            refine wpAnyT_ready [14] (by kernel_rfl) (by simp) ?_
            refine AllReadyT.cons rfl (fun K hK => ?_) AllReadyT.nil
            go_simp
            have hA := below1 V0 (.cells #[.int .i64 l1, .int .i64 l2] 27)
            refine hK.out _ _ (fun _ => ⟨cellB hS.1 hA, cellB hS.2.1 hA, cellB hS.2.2 hA⟩) (fun _ => ?_)
            clear hK K hS inv
            try simp only [Act.put]
            have bN := Blk.new V0 (.cells #[.int .i64 l1, .int .i64 l2] 27)
            replace own := owns_below own hA
            replace bel := bel.trans (hA.mono (by have := bel.size; omega))
            obtain ⟨bx, hbx⟩ : ∃ bx, V0.heap.size = bx := ⟨_, rfl⟩
            rw [hbx] at bN ⊢
            clear hA hbx
            generalize V0.alloc (.cells #[.int .i64 l1, .int .i64 l2] 27) = V9 at *
            refine wpAnyT_chain (fuel := 2) rfl (by kernel_rfl) ?_
            simp only [List.drop_succ_cons, List.drop_zero]
            go_wp2_with (at_builtin; refine wp_appR rfl (.tmp 33) (.tmp 47) rfl _ _ _ _ rfl own _ _ _ _ rfl bN (by omega) bel (by have := bel.size; omega) ?_; intro a2 c2 w3 own3 bel3 gr3)
            go_roundw
            case rel => exact ⟨k + 1, by omega, by go_num, by rw [HS.out, ← List.append_assoc, HCL.out, pairCells_snoc, List.length_append, List.length_singleton]; exact own3, bel3⟩
            case measure => simp [intOf] <;> omega
          · have HS := Lib.hid (HNO.out q)
            have d1 : decide (l1 ≤ l2) = false := by simpa using q
            clear HYES HNO q
            go_wp2_with fail
            go_quiet (fail)
            go_wp2_with fail
            rename_i nq
            have hq := below_drewN (Below.refl wr.heap.size wr) nq
            go_roundw
            case rel => exact ⟨k + 1, by omega, by go_num, by rw [HS.out, HCL.out]; exact owns_below HOWN.out hq, bC HBW.out hq⟩
            case measure => simp [intOf] <;> omega
        · obtain rfl : k = y.logs.length := by omega
          have HS := Lib.hid (allW_succ hit)
          go_wp2
          go_roundw
          case rel => exact ⟨i + 1, by omega, by go_num, by rw [HS.out, HCL.out]; exact HOWN.out, HBW.out⟩
          case measure => simp [intOf] <;> omega
    · obtain rfl : i = y.logs.length := by omega
      go_wp2
      go_ret
      exact ⟨_, _, rfl, owns_mono HOWN.out HB.out.size, bC HB.out HBW.out⟩
end Go.Proofs.Ytjbeoakikdkdaaa
