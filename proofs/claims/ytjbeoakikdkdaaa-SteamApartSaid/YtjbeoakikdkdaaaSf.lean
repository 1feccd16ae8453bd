import Derived.Test.YtjbeoakikdkdaaaSe
import Derived.Test.YtjbeoakikdkdaaaSb
import Derived.Test.YtjbeoakikdkdaaaSc
namespace Go.Proofs.Ytjbeoakikdkdaaa
open Go.RowKit Go.Vat Go.Sort Go.Shelf
attribute [local go_sem] Oper.semAt_some

/-! ## The windows that end at an hour -/
set_option maxHeartbeats 400000 in
theorem ends_any (b1 : Nat) (h : Int) (lo hi : Int) (w : World) (hc : w.cell? ⟨b1, 0, none⟩ = some (.int .i64 h)) :
    Calls Try.prog 94 #[.agg #[.int .i64 lo, .int .i64 hi], .pointer (some ⟨b1, 0, none⟩)] w fun e w' => e = .returned (.bool (hi == h)) ∧ Below w.heap.size w w' := by
  have hb := lt_of_cell hc
  go_enter Try.func94, Try.ntmps94
  go_wp2
  go_ret
  exact ⟨rfl, below1 _ _⟩
theorem any_snoc {α : Type} {p : α → Bool} {l : List α} {k : Nat} (h : k < l.length) (ht : (l.take k).any p = false) (hx : p l[k] = false) : (l.take (k + 1)).any p = false := by
  rw [List.take_succ_eq_append_getElem h, List.any_append, ht]
  simp [hx]
theorem any_at {α : Type} {p : α → Bool} {l : List α} {k : Nat} (h : k < l.length) (hx : p l[k] = true) : l.any p = true :=
  List.any_eq_true.2 ⟨_, List.getElem_mem h, hx⟩
set_option maxHeartbeats 1000000 in
theorem index_any (b1 : Nat) (h : Int) (v : Value) (ls : List (Int × Int)) (w : World) (hv : PairsAt w v ls) (hl : ls.length ≤ 1000) (hc : w.cell? ⟨b1, 0, none⟩ = some (.int .i64 h)) :
    Calls Try.prog 98 #[v, .func (.func 94) #[] #[.pointer (some ⟨b1, 0, none⟩)]] w fun e w' => (∃ i : Int, e = .returned (.int .i64 i) ∧ -1 ≤ i ∧ i ≤ 1000 ∧ decide (0 ≤ i) = ls.any (fun l => decide (l.2 = h))) ∧ Below w.heap.size w w' := by
  obtain ⟨a, cap, rfl⟩ := hv.slice
  have HA := Lib.hid hv.at.2
  have HC := Lib.hid hc
  clear hv hc
  go_enter Try.func98, Try.ntmps98
  go_wp2
  go_loopw [5, 8] (fun _ i wr => ∃ k : Nat, k ≤ ls.length ∧ i = .int .i64 k ∧ (ls.take k).any (fun l => decide (l.2 = h)) = false ∧ Below w.heap.size w wr) (fun _ i _ => ls.length - (intOf i).toNat)
  case atStart => exact ⟨0, Nat.zero_le _, rfl, by simp, Below.refl _ _⟩
  case round =>
    obtain ⟨k, hk, rfl, hok, hB⟩ := hrel
    have HO := Lib.hid hok
    clear hok
    by_cases hlt : k < ls.length
    · obtain ⟨b, off, hsa, c0, c1⟩ := HA.out k hlt
      subst hsa
      have c0 := cellB c0 hB
      have c1 := cellB c1 hB
      go_wp2_with fail
      refine (ends_any b1 h ls[k].1 ls[k].2 wr (cellB HC.out hB)).mono ?_
      rintro e w' ⟨rfl, hb⟩
      have hB2 := bC hB hb
      clear c0 c1 hB hb
      by_cases q : ls[k].2 = h
      · rw [beq_iff_eq.2 q]
        have HQ := Lib.hid q
        clear q
        go_wp2
        go_ret
        exact ⟨⟨k, rfl, by omega, by omega, by rw [any_at (p := fun l => decide (l.2 = h)) hlt (by simpa using HQ.out)]; simp⟩, hB2⟩
      · rw [beq_eq_false_iff_ne.2 q]
        have HQ := Lib.hid q
        clear q
        go_wp2
        go_roundw
        case rel => exact ⟨k + 1, by omega, by go_num, any_snoc hlt HO.out (by simpa using HQ.out), hB2⟩
        case measure => simp [intOf]; omega
    · obtain rfl : k = ls.length := by omega
      have ho := HO.out
      rw [List.take_length] at ho
      have HO2 := Lib.hid ho
      clear ho
      go_wp2
      go_ret
      exact ⟨⟨-1, rfl, by omega, by omega, by rw [HO2.out]; rfl⟩, hB⟩
set_option maxHeartbeats 400000 in
theorem contains_any (b1 : Nat) (h : Int) (v : Value) (ls : List (Int × Int)) (w : World) (hv : PairsAt w v ls) (hl : ls.length ≤ 1000) (hc : w.cell? ⟨b1, 0, none⟩ = some (.int .i64 h)) :
    Calls Try.prog 95 #[v, .func (.func 94) #[] #[.pointer (some ⟨b1, 0, none⟩)]] w fun e w' => e = .returned (.bool (ls.any (fun l => decide (l.2 = h)))) ∧ Below w.heap.size w w' := by
  obtain ⟨a, cap, rfl⟩ := hv.slice
  have HV := Lib.hid hv
  have HC := Lib.hid hc
  clear hv hc
  go_enter Try.func95, Try.ntmps95
  go_wp2_with fail
  refine (index_any b1 h _ ls w HV.out hl HC.out).mono ?_
  rintro e w' ⟨⟨i, rfl, h1, h2, h3⟩, hb⟩
  have HE := Lib.hid h3
  by_cases q : 0 ≤ i
  · have d1 : decide (i ≥ 0) = true := by simpa using q
    have d2 : decide (0 ≤ i) = true := by simpa using q
    have HD := Lib.hid (show true = ls.any (fun l => decide (l.2 = h)) by rw [← HE.out, d2])
    clear h3 q
    go_wp2
    go_ret
    exact ⟨congrArg (fun b => Ending.returned (.bool b)) HD.out, hb⟩
  · have d1 : decide (i ≥ 0) = false := by simp; omega
    have d2 : decide (0 ≤ i) = false := by simp; omega
    have HD := Lib.hid (show false = ls.any (fun l => decide (l.2 = h)) by rw [← HE.out, d2])
    clear h3 q
    go_wp2
    go_ret
    exact ⟨congrArg (fun b => Ending.returned (.bool b)) HD.out, hb⟩
end Go.Proofs.Ytjbeoakikdkdaaa

namespace Go.Proofs.Ytjbeoakikdkdaaa
open Go.RowKit Go.Vat Go.Sort Go.Shelf
attribute [local go_sem] Oper.semAt_some

/-! ## The vat: the windows that end at an hour are yielded -/
theorem grown_of_below {W W' : World} (h : Below W.heap.size W W') : W.grownBy W' none := ⟨h.os, h.tape, h.output, h.size, fun k hk _ => h.block k hk⟩
def wnK (ls : List (Int × Int)) (h : Int) (k : Nat) : List (Int × Int) := ((ls.take k).filter fun l => decide (l.1 ≤ h)).map fun l => (l.1, h)
def wnL (ls : List (Int × Int)) (h : Int) : List (Int × Int) := wnK ls h ls.length
theorem wins_yes {y : YardD} {h : Int} (c : y.logs.any (fun l => decide (l.2 = h)) = true) : wins y h = wnL y.logs h := by
  unfold wins wnL wnK
  rw [if_pos c, List.take_length]
theorem wins_no {y : YardD} {h : Int} (c : y.logs.any (fun l => decide (l.2 = h)) = false) : wins y h = [] := by
  unfold wins
  rw [if_neg (by rw [c]; simp)]
theorem wnK_yes {ls : List (Int × Int)} {h : Int} {k : Nat} (hk : k < ls.length) (hx : ls[k].1 ≤ h) : wnK ls h (k + 1) = wnK ls h k ++ [(ls[k].1, h)] := by
  unfold wnK
  rw [List.take_succ_eq_append_getElem hk, List.filter_append, List.map_append, List.filter_cons, if_pos (by simpa using hx)]
  rfl
theorem wnK_no {ls : List (Int × Int)} {h : Int} {k : Nat} (hk : k < ls.length) (hx : ¬ ls[k].1 ≤ h) : wnK ls h (k + 1) = wnK ls h k := by
  unfold wnK
  rw [List.take_succ_eq_append_getElem hk, List.filter_append, List.filter_cons, if_neg (by simpa using hx)]
  simp
theorem wnK_pfx (ls : List (Int × Int)) (h : Int) (k : Nat) : wnK ls h k <+: wnL ls h := by
  unfold wnL wnK
  rw [List.take_length]
  have h1 : ls.take k <+: ls := List.take_prefix k ls
  obtain ⟨t, ht⟩ := h1
  refine ⟨(t.filter fun l => decide (l.1 ≤ h)).map fun l => (l.1, h), ?_⟩
  rw [← List.map_append, ← List.filter_append, ht]
/-- What the iterator asks of a round: all that is older than it is as it was, but the vat's numbers and the map. -/
structure KT (T M n₀ : Nat) (W W' : World) : Prop where
  size : W.heap.size ≤ W'.heap.size
  same : ∀ k, k < n₀ → k ≠ T → k ≠ M → W'.heap[k]? = W.heap[k]?
  head : ∀ j, j < 3 → W'.cell? ⟨T, j, none⟩ = W.cell? ⟨T, j, none⟩
theorem KT.refl (T M n₀ : Nat) (W : World) : KT T M n₀ W W := ⟨Nat.le_refl _, fun _ _ _ _ => rfl, fun _ _ => rfl⟩
theorem KT.trans {T M n₀ : Nat} {A B C : World} (h : KT T M n₀ A B) (k : KT T M n₀ B C) : KT T M n₀ A C :=
  ⟨Nat.le_trans h.size k.size, fun i a b c => (k.same i a b c).trans (h.same i a b c), fun j hj => (k.head j hj).trans (h.head j hj)⟩
theorem KT.of_below {T M n₀ : Nat} {W W' : World} (h : Below W.heap.size W W') (hn : n₀ ≤ W.heap.size) (hT : T < W.heap.size) : KT T M n₀ W W' :=
  ⟨h.size, fun k hk _ _ => h.block k (by omega), fun j _ => h.cell (p := ⟨T, j, none⟩) hT⟩
theorem KT.cell {T M n₀ : Nat} {W W' : World} (h : KT T M n₀ W W') {b o : Nat} {v : Value} (hc : W.cell? ⟨b, o, none⟩ = some v) (hb : b < n₀) (h1 : b ≠ T) (h2 : b ≠ M) : W'.cell? ⟨b, o, none⟩ = some v := by
  rw [← hc]
  exact World.cell?_of_block (h.same b hb h1 h2)
theorem KT.put {T M n₀ : Nat} {W : World} {l : Nat} {o' : Obj} (hl : n₀ ≤ l) (hT : T < n₀) : KT T M n₀ W (W.putObj l o') :=
  ⟨by simp, fun k hk _ _ => World.putObj_heap_other (by omega), fun j _ => World.cell?_of_block (World.putObj_heap_other (show T ≠ l by omega))⟩
theorem KT.putM {T M n₀ : Nat} {W : World} {o' : Obj} (hT : T ≠ M) : KT T M n₀ W (W.putObj M o') :=
  ⟨by simp, fun k _ _ h2 => World.putObj_heap_other h2, fun j _ => World.cell?_of_block (World.putObj_heap_other hT)⟩
theorem KT.set {T M n₀ : Nat} {W : World} {b j : Nat} {v : Value} (hb : n₀ ≤ b) (hT : T < n₀) : KT T M n₀ W (W.setCell ⟨b, j, none⟩ v) :=
  ⟨by simp [World.setCell], fun k hk _ _ => Below.heap_setCell _ _ _ _ (by simp; omega), fun j _ => World.cell?_of_block (Below.heap_setCell _ _ _ _ (by simp; omega))⟩
/-- The head of a vat: its yard. -/
structure HdAt (w : World) (n₀ T M : Nat) (y : YardD) (u : Value) : Prop where
  c0 : w.cell? ⟨T, 0, none⟩ = some (.int .i64 y.load)
  c1 : w.cell? ⟨T, 1, none⟩ = some u
  logs : LogsIn w n₀ T M u y.logs
  lt : T < n₀ ∧ M < n₀ ∧ T ≠ M
theorem VatAt.hd {w : World} {n₀ T M : Nat} {y : YardD} {u : Value} {U H : Nat → Int} (h : VatAt w n₀ T M y u U H) : HdAt w n₀ T M y u := ⟨h.load, h.sl, h.logs, h.lt.2⟩
theorem HdAt.kt {w w' : World} {n₀ T M : Nat} {y : YardD} {u : Value} (h : HdAt w n₀ T M y u) (hk : KT T M n₀ w w') : HdAt w' n₀ T M y u :=
  ⟨(hk.head 0 (by omega)).trans h.c0, (hk.head 1 (by omega)).trans h.c1, h.logs.move hk.same, h.lt⟩
theorem HdAt.below {w w' : World} {n₀ T M : Nat} {y : YardD} {u : Value} (h : HdAt w n₀ T M y u) (hn : n₀ ≤ w.heap.size) (hb : Below w.heap.size w w') : HdAt w' n₀ T M y u :=
  h.kt (KT.of_below hb hn (by have := h.lt; omega))
theorem HdAt.more {w : World} {n₀ n₁ T M : Nat} {y : YardD} {u : Value} (h : HdAt w n₀ T M y u) (hn : n₀ ≤ n₁) : HdAt w n₁ T M y u := by
  obtain ⟨h1, h2, ⟨a, cap, e, h3⟩, h4⟩ := h
  exact ⟨h1, h2, ⟨a, cap, e, fun hne => let ⟨b, off, ea, hb, hc⟩ := h3 hne; ⟨b, off, ea, ⟨by omega, hb.2⟩, hc⟩⟩, by omega, by omega, h4.2.2⟩

set_option maxRecDepth 100000 in
set_option maxHeartbeats 4000000 in
theorem windows1_in (n : Nat) (_hn : 1 ≤ n) (l T M n₀ b1 b2 h : Nat) (y : YardD) (u : Value) (W : World) (hT : HdAt W n₀ T M y u) (hy : y.Ok)
    (hn0 : n₀ ≤ W.heap.size) (h1 : b1 < n₀ ∧ b1 ≠ T ∧ b1 ≠ M) (h2 : b2 < n₀ ∧ b2 ≠ T ∧ b2 ≠ M)
    (hc1 : W.cell? ⟨b1, 0, none⟩ = some (.int .i64 h)) (hc2 : W.cell? ⟨b2, 0, none⟩ = some (.pointer (some ⟨T, 0, none⟩))) (J Jx : List (Int × Int) → World → Prop)
    (hY : ∀ pre x W, x ∈ wins y h → J pre W → pre.length < (wins y h).length → YieldAt Fence.wide (n - 1) Try.prog l #[pkV x] W fun e W' =>
      (e = .returned (.bool true) ∧ J (pre ++ [x]) W' ∧ KT T M n₀ W W') ∨ (e = .returned (.bool false) ∧ Jx (pre ++ [x]) W'))
    (hJa : ∀ pre W W', J pre W → Below W.heap.size W W' → J pre W') (h0 : J [] W) :
    CallsIn Fence.wide n Try.prog 93 #[.func (.yield l) #[] #[], .pointer (some ⟨b1, 0, none⟩), .pointer (some ⟨b2, 0, none⟩)] W fun e W' => (∃ v, e = .returned v) ∧
      ((∃ ys, ys = wins y h ∧ J ys W') ∨ (∃ pre, (pre <+: wins y h) ∧ Jx pre W')) := by
  obtain ⟨sa, cap, rfl⟩ := hT.logs.slice
  have HT := Lib.hid hT
  have HYD := Lib.hid hy
  have hl10 := hy.count
  have t1 := hT.c1
  have HC := Lib.hid (And.intro hc1 hc2)
  have hTl := hT.lt
  have hb1l := h1.1
  have hb2l := h2.1
  have HPR := Lib.hid hT.logs.pairs
  have hmf : ∀ (fn : Fn) (first cap : Array Value) (w : World), (Instr.makeFunc fn first cap).run Try.prog w = .ok (.func fn first cap) w := fun _ _ _ _ => rfl
  clear hT hy
  refine callsIn_of_wp Try.func93 rfl trivial ?_ rfl
  simp only [Try.ntmps93, List.size_toArray, List.length_cons, List.length_nil, Nat.reduceAdd, Nat.reduceSub, Array.replicate_succ, Array.replicate_zero, List.push_toArray, List.append_toArray, List.nil_append, List.cons_append]
  gi_wp2_with fail
  refine ⟨trivial, (callsIn_wide.2 (contains_any b1 h _ y.logs W HPR.out (by omega) HC.out.1)).mono ?_⟩
  rintro e w2 ⟨rfl, hb2⟩
  have HK0 := Lib.hid (KT.of_below (T := T) (M := M) hb2 hn0 (by omega))
  have HJ0 := Lib.hid (hJa _ _ _ h0 hb2)
  clear hb2 t1 hc1 hc2 h0
  cases hany : y.logs.any (fun l => decide (l.2 = (h : Int))) with
  | false =>
    have HW := Lib.hid (wins_no hany)
    clear hany
    gi_wp2
    refine bodyPost_ret (results_none rfl _ _ _) rfl ?_
    exact ⟨⟨_, rfl⟩, .inl ⟨_, HW.out.symm, HJ0.out⟩⟩
  | true =>
    have HW := Lib.hid (wins_yes hany)
    clear hany
    have t1 := (HT.out.kt HK0.out).c1
    have c2 := HK0.out.cell HC.out.2 h2.1 h2.2.1 h2.2.2
    gi_wp2
    clear t1 c2
    gi_loopw [6, 22] (fun _ i wr => ∃ k : Nat, k ≤ y.logs.length ∧ i = .int .i64 k ∧ J (wnK y.logs h k) wr ∧ KT T M n₀ W wr)
      (fun _ i _ => y.logs.length - (intOf i).toNat)
    case atStart => exact ⟨0, Nat.zero_le _, rfl, HJ0.out, HK0.out⟩
    case round =>
      obtain ⟨k, hk, rfl, hJs, hKT⟩ := hrel
      have HJ := Lib.hid hJs
      have HKT := Lib.hid hKT
      have HT3 := Lib.hid (HT.out.kt hKT)
      have hz3 := hKT.size
      have x1 := hKT.cell HC.out.1 h1.1 h1.2.1 h1.2.2
      clear hJs hKT HJ0 HK0
      by_cases hlt : k < y.logs.length
      · obtain ⟨lb, off, hsa, ⟨hq1, hq2, hq3⟩, y1, y2⟩ := HT3.out.logs.get k hlt
        subst hsa
        obtain ⟨lo, hlo⟩ : ∃ x, y.logs[k].1 = x := ⟨_, rfl⟩
        obtain ⟨hi, hhi⟩ : ∃ x, y.logs[k].2 = x := ⟨_, rfl⟩
        rw [hlo] at y1
        rw [hhi] at y2
        have HLO := Lib.hid hlo
        clear hlo hhi
        have b1w : b1 < wr.heap.size := by omega
        have lbw : lb < wr.heap.size := by omega
        have hB1 := below1 wr (.cells #[.int .i64 lo, .int .i64 hi] 27)
        have HJ3 := Lib.hid (hJa _ _ _ HJ.out hB1)
        have HK3 := Lib.hid (HKT.out.trans (KT.of_below hB1 (by omega) (by omega)))
        clear hB1
        by_cases q : lo ≤ (h : Int)
        · have d1 : decide (lo ≤ (h : Int)) = true := by simpa using q
          have HS := Lib.hid (wnK_yes hlt (by rw [HLO.out]; exact q))
          have hmem : (lo, (h : Int)) ∈ wins y h := by
            rw [HW.out]
            refine (wnK_pfx y.logs h (k + 1)).subset ?_
            rw [HS.out, HLO.out]
            exact List.mem_append_right _ List.mem_cons_self
          have hlen : (wnK y.logs h k).length < (wins y h).length := by
            have h3 := (wnK_pfx y.logs h (k + 1)).length_le
            rw [HS.out, List.length_append] at h3
            simp only [List.length_singleton] at h3
            rw [HW.out]
            omega
          obtain ⟨fn, tmps, assign, body, hy, hR⟩ := hY _ _ _ hmem HJ3.out hlen
          unfold pkV at hy
          clear q hmem hlen
          gi_wp2
          refine hR.mono ?_
          rintro e W3 (⟨rfl, hJ3, hk3⟩ | ⟨rfl, hJx3⟩)
          · gi_wp2
            go_roundw
            case rel => exact ⟨k + 1, by omega, by simp, by rw [HS.out, HLO.out]; exact hJ3, HK3.out.trans hk3⟩
            case measure => simp [intOf]; omega
          · gi_wp2
            refine bodyPost_ret (results_none rfl _ _ _) rfl ?_
            exact ⟨⟨_, rfl⟩, .inr ⟨wnK y.logs h (k + 1), by rw [HW.out]; exact wnK_pfx _ _ _, by rw [HS.out, HLO.out]; exact hJx3⟩⟩
        · have d1 : decide (lo ≤ (h : Int)) = false := by simpa using q
          have HS := Lib.hid (wnK_no hlt (by rw [HLO.out]; exact q))
          clear q
          gi_wp2
          refine ⟨fun _ h => (by cases h), ?_⟩
          gi_wp2
          go_roundw
          case rel => exact ⟨k + 1, by omega, by simp, by rw [HS.out]; exact HJ3.out, HK3.out⟩
          case measure => simp [intOf]; omega
      · obtain rfl : k = y.logs.length := by omega
        gi_wp2
        go_end0
        exact ⟨⟨_, rfl⟩, .inl ⟨_, HW.out.symm, HJ.out⟩⟩

/-! ## The closure, and the greatest number that is told of what it yields -/
abbrev wnF (b1 b2 : Nat) : Value := .func (.func 93) #[] #[.pointer (some ⟨b1, 0, none⟩), .pointer (some ⟨b2, 0, none⟩)]
set_option maxHeartbeats 400000 in
theorem windows_any (T h : Nat) (w : World) :
    Calls Try.prog 82 #[.pointer (some ⟨T, 0, none⟩), .int .i64 h] w fun e w' => e = .returned (wnF (w.heap.size + 1) w.heap.size) ∧ (w.alloc (.cells #[.pointer (some ⟨T, 0, none⟩)] 70)).alloc (.cells #[.int .i64 h] 2) = w' := by
  have hmf : ∀ (fn : Fn) (first cap : Array Value) (w : World), (Instr.makeFunc fn first cap).run Try.prog w = .ok (.func fn first cap) w := fun _ _ _ _ => rfl
  go_enter Try.func82, Try.ntmps82
  go_wp2
  go_ret
  exact ⟨rfl, rfl⟩
/-- The closure that yields the windows that end at h: its two variables. -/
def WnAt (w : World) (T M n₀ : Nat) (y : YardD) (u : Value) (h b1 b2 : Nat) : Prop :=
  HdAt w n₀ T M y u ∧ n₀ ≤ w.heap.size ∧ (b1 < n₀ ∧ b1 ≠ T ∧ b1 ≠ M) ∧ (b2 < n₀ ∧ b2 ≠ T ∧ b2 ≠ M) ∧ w.cell? ⟨b1, 0, none⟩ = some (.int .i64 h) ∧ w.cell? ⟨b2, 0, none⟩ = some (.pointer (some ⟨T, 0, none⟩))
theorem WnAt.below {w w' : World} {T M n₀ : Nat} {y : YardD} {u : Value} {h b1 b2 : Nat} (hw : WnAt w T M n₀ y u h b1 b2) (hb : Below w.heap.size w w') : WnAt w' T M n₀ y u h b1 b2 := by
  obtain ⟨h1, h2, h3, h4, h5, h6⟩ := hw
  exact ⟨h1.below h2 hb, Nat.le_trans h2 hb.size, h3, h4, cellB h5 hb, cellB h6 hb⟩
/-- A closure that has just been made. -/
theorem WnAt.new {w : World} {T M n₀ : Nat} {y : YardD} {u : Value} {h : Nat} (hd : HdAt w n₀ T M y u) (hn : n₀ ≤ w.heap.size) :
    WnAt ((w.alloc (.cells #[.pointer (some ⟨T, 0, none⟩)] 70)).alloc (.cells #[.int .i64 h] 2)) T M (w.heap.size + 2) y u h (w.heap.size + 1) w.heap.size := by
  have hl := hd.lt
  have c1 := ((Blk.new w (.cells #[.pointer (some ⟨T, 0, none⟩)] 70)).alloc (.cells #[.int .i64 h] 2)).cell 0
  have c2 := (Blk.new (w.alloc (.cells #[.pointer (some ⟨T, 0, none⟩)] 70)) (.cells #[.int .i64 h] 2)).cell 0
  rw [World.size_alloc] at c2
  exact ⟨(hd.below hn (below2 _ _ _)).more (by omega), by simp, ⟨by omega, by omega, by omega⟩, ⟨by omega, by omega, by omega⟩, by simp [c2], by simp [c1]⟩
/-- A window that ends at h. -/
abbrev WN (y : YardD) (h : Nat) := { x : Int × Int // x ∈ wins y h }
def wnE {y : YardD} {h : Nat} (x : WN y h) : Array Value := #[pkV x.1]
theorem windows_stops (n : Nat) (hn : 1 ≤ n) (T M n₀ b1 b2 h : Nat) (y : YardD) (u : Value) (w : World) (hw : WnAt w T M n₀ y u h b1 b2) (hy : y.Ok) :
    SeqStopsK Fence.wide n Try.prog 93 #[.pointer (some ⟨b1, 0, none⟩), .pointer (some ⟨b2, 0, none⟩)] (fun x : WN y h => wnE x) (KT T M n₀) (fun ys => ys.map Subtype.val = wins y h) (fun pre => pre.map Subtype.val <+: wins y h) (wins y h).length w := by
  intro l J Jx W hW hJ _ hY h0
  obtain ⟨h1, h2, h3, h4, h5, h6⟩ := hw.below hW
  refine (windows1_in n hn l T M n₀ b1 b2 h y u W h1 hy h2 h3 h4 h5 h6 (fun pre W => ∃ ys : List (WN y h), ys.map Subtype.val = pre ∧ J ys W) (fun pre W => ∃ ys : List (WN y h), ys.map Subtype.val = pre ∧ Jx ys W) ?_ ?_ ⟨[], rfl, h0⟩).mono ?_
  · rintro pre x W hx ⟨ys, rfl, hJ1⟩ hlen
    rw [List.length_map] at hlen
    obtain ⟨fn, tmps, assign, body, hy, hR⟩ := hY ys ⟨x, hx⟩ W hJ1 hlen
    refine ⟨fn, tmps, assign, body, hy, hR.mono ?_⟩
    rintro e W' (⟨h1, h2, h3⟩ | ⟨h1, h2⟩)
    · exact .inl ⟨h1, ⟨_, by rw [List.map_append]; rfl, h2⟩, h3⟩
    · exact .inr ⟨h1, _, by rw [List.map_append]; rfl, h2⟩
  · rintro pre W W' ⟨ys, rfl, h⟩ hb
    exact ⟨ys, rfl, hJ ys W W' none h (grown_of_below hb) (fun r e => by cases e)⟩
  · rintro e W' ⟨h1, ⟨ys, rfl, zs, h2, h3⟩ | ⟨pre, h2, zs, rfl, h3⟩⟩
    · exact ⟨h1, .inl ⟨zs, h2, h3⟩⟩
    · exact ⟨h1, .inr ⟨zs, h2, h3⟩⟩
theorem run_max_w {P : Program} (w : World) (ts : Array TypeId) (t : TypeId) (k k' : IntKind) (x y : Int) : (Builtin.max_ ts t #[.int k x, .int k' y]).run P w = .ok (.int k (max x y)) w := by
  have e : (if y > x then y else x) = max x y := by
    rw [Int.max_def]
    split <;> split <;> omega
  simp [Builtin.max_, Builtin.max2, e]
set_option maxRecDepth 100000 in
set_option maxHeartbeats 4000000 in
theorem most_any (n : Nat) (hn : 4 ≤ n) (T M n₀ b1 b2 h : Nat) (y : YardD) (u : Value) (U H : Nat → Int) (f : SK → Int) (S : SK → Prop) (lo : Int) (w : World) (hT : WnAt w T M n₀ y u h b1 b2) (hV : VatAt w n₀ T M y u U H) (hM : MapIs w M f S) (hy : y.Ok)
    (hUb : ∀ q, q ≤ 101 → 0 ≤ U q ∧ U q ≤ 1000) (hfb : ∀ x, 0 ≤ f x ∧ f x ≤ 1000) (hS : ∀ x ∈ wins y h, ¬ S x → f x = 0) :
    CallsIn Fence.wide n Try.prog 86 #[.int .i64 lo, wnF b1 b2, .func (.func 83) #[.pointer (some ⟨T, 0, none⟩)] #[]] w fun e w' =>
      e = .returned (.int .i64 (mxL (fun x => U x.1.toNat + f x) (wins y h) lo)) ∧ Below w.heap.size w w' := by
  have h1 : 1 ≤ n := by omega
  have HT := Lib.hid hT
  have HV := Lib.hid hV
  have HM := Lib.hid hM
  have HYD := Lib.hid hy
  have HUB := Lib.hid hUb
  have HFB := Lib.hid hfb
  have HSS := Lib.hid hS
  have eg : ∀ args w, (callFunc 93 args).run Try.prog w = .ok (.enter 93 args) w := fun _ _ => rfl
  have hn₀ : T < n₀ ∧ n₀ ≤ w.heap.size := ⟨hT.1.lt.1, hT.2.1⟩
  have hxs : ∀ x ∈ wins y h, 0 ≤ x.1 ∧ x.1 ≤ 100 ∧ x.2 = h := fun x hx => by
    obtain ⟨_, h2, l, hl, h3, h4⟩ := wins_iff.1 hx
    have := hy.log l hl
    omega
  have HXS := Lib.hid hxs
  clear hT hV hM hy hUb hfb hS hxs
  refine callsIn_of_wp_marks Try.func86 rfl trivial ?_ rfl
  simp only [Try.ntmps86, List.size_toArray, List.length_cons, List.length_nil, Nat.reduceAdd, Nat.reduceSub, Array.replicate_succ, Array.replicate_zero, List.push_toArray, List.append_toArray, List.nil_append, List.cons_append]
  gi_wp2
  obtain ⟨W0, hW0⟩ : ∃ W0, (w.alloc (.cells #[.int .i64 lo] 2)).alloc (.cells #[.func (.func 83) #[.pointer (some ⟨T, 0, none⟩)] #[]] 83) = W0 := ⟨_, rfl⟩
  have hF : Blk W0 w.heap.size (.cells #[.int .i64 lo] 2) ∧ Blk W0 (w.heap.size + 1) (.cells #[.func (.func 83) #[.pointer (some ⟨T, 0, none⟩)] #[]] 83) ∧ Below w.heap.size w W0 ∧ W0.heap.size = w.heap.size + 2 := by
    subst hW0
    refine ⟨(Blk.new _ _).alloc _, ?_, below2 _ _ _, by simp⟩
    have := Blk.new (w.alloc (.cells #[.int .i64 lo] 2)) (.cells #[.func (.func 83) #[.pointer (some ⟨T, 0, none⟩)] #[]] 83)
    rwa [World.size_alloc] at this
  rw [hW0]
  clear hW0
  obtain ⟨b0, b0', hB0, hz0⟩ := hF
  refine wpIn_rangeFunc_ownH (F := Fence.wide) rfl h1 (gf := 93) (lb := #[.pointer (some ⟨b1, 0, none⟩), .pointer (some ⟨b2, 0, none⟩)]) rfl trivial eg
    (SeqStopsK.from hB0 (windows_stops (n - 1) (by omega) T M n₀ b1 b2 h y u w HT.out HYD.out)) (fun h k => KT.trans h k) (fun W l o o' hl _ _ _ => KT.put (by omega) hn₀.1) (Below.refl _ _) (fun _ => rfl)
    (fun (pre : List (WN y h)) W => Blk W w.heap.size (.cells #[.int .i64 (mxL (fun x => U x.1.toNat + f x) (pre.map Subtype.val) lo)] 2) ∧ Blk W (w.heap.size + 1) (.cells #[.func (.func 83) #[.pointer (some ⟨T, 0, none⟩)] #[]] 83) ∧ Below w.heap.size w W ∧ w.heap.size + 2 ≤ W.heap.size)
    (fun _ _ _ => False)
    (ownFrom_of fun pre W W' ⟨c0, c1, hB, hs⟩ hk => ⟨c0.keepsC hk, c1.keepsC hk, below_keeps hB hk (by omega) hB.size, Nat.le_trans hs hk.size⟩)
    (fun _ _ _ _ _ hs _ _ => hs)
    ⟨b0, b0', hB0, by omega⟩
    (fun x a' W => ∃ Bx, W0.heap.size ≤ Bx ∧ Blk W Bx (.cells #[.int .i64 x.1.1, .int .i64 x.1.2] 27) ∧ a' = { tmps := #[.int .i64 lo, wnF b1 b2, .func (.func 83) #[.pointer (some ⟨T, 0, none⟩)] #[], .pointer (some ⟨w.heap.size, 0, none⟩), undef, .pointer (some ⟨w.heap.size + 1, 0, none⟩), .int .i64 0, .pointer (some ⟨Bx, 0, none⟩), wnF b1 b2, pkV x.1, undef, undef, undef, undef, undef, undef], defers := [] })
    (fun x a' => ownFrom_of fun _ W W' h hk => by obtain ⟨Bx, h1, h2, h3⟩ := h; exact ⟨Bx, h1, h2.keepsC hk, h3⟩)
    ?assign ?body ?done ?stop
  case assign =>
    rintro l pre x W K ⟨c0, c1, hB1, hs1⟩ hK
    unfold wnE pkV wnF
    gi_wp2
    exact hK _ _ ((KeepsOthers.alloc _ _).from _) (KT.of_below (below1 _ _) (by omega) (by omega)) ⟨c0.alloc _, c1.alloc _, hB1.alloc hB1.size _, by simp; omega⟩ ⟨W.heap.size, by omega, Blk.new W _, rfl⟩
  case body =>
    rintro l pre x a' W hl ⟨rr, hrr⟩ ⟨c0, c1, hB1, hs1⟩ ⟨Bx, hBx, bX, rfl⟩ hlt
    have hlt0 := bX.lt
    have HB1 := Lib.hid hB1
    obtain ⟨hx0, hx1, hx2⟩ := HXS.out x.1 x.2
    obtain ⟨a, ha⟩ : ∃ a : Nat, x.1.1 = (a : Int) := ⟨x.1.1.toNat, by omega⟩
    have hU0 := HUB.out a (by omega)
    have hF0 := HFB.out x.1
    have hSx := HSS.out x.1 x.2
    have hxe : x.1 = ((a : Int), (h : Int)) := Prod.ext ha hx2
    rw [hxe] at hF0 hSx
    have HVW := Lib.hid (HV.out.below hn₀.2 hB1)
    have HMW := Lib.hid (HM.out.below hB1)
    obtain ⟨mv, hmv⟩ : ∃ mv, mxL (fun x => U x.1.toNat + f x) (pre.map Subtype.val) lo = mv := ⟨_, rfl⟩
    obtain ⟨fv, hfv⟩ : ∃ fv, U a + f ((a : Int), (h : Int)) = fv := ⟨_, rfl⟩
    obtain ⟨gv, hgv⟩ : ∃ gv, max mv fv = gv := ⟨_, rfl⟩
    have HS := Lib.hid (show mxL (fun x => U x.1.toNat + f x) ((pre ++ [x]).map Subtype.val) lo = gv by
      rw [List.map_append, List.map_singleton, mxL_snoc, hmv, hxe]
      exact (congrArg (max mv) (by rw [Int.toNat_natCast]; exact hfv)).trans hgv)
    rw [hmv] at c0
    have hW1 : ∀ (d : Nat) (os : Array Obj), _ := fun d os => Calls.regrown_of (provenWith_any n₀ T M y u U H a (h : Int) f S (grow (redrawn W d) os) (HVW.out.below (by have := hB1.size; omega) (below_regrown W d os)) (by have := (below_regrown W d os).size; have := hB1.size; omega) (HMW.out.below (below_regrown W d os)) hSx (by omega) hU0 hF0)
    rw [hfv] at hW1
    have hmx : ∀ w ts t, (Builtin.max_ ts t #[.int .i64 mv, .int .i64 fv]).run Try.prog w = .ok (.int .i64 gv) w := fun w ts t => by rw [run_max_w, hgv]
    have e0 := c0.cell 0
    have e1 := c1.cell 0
    rw [ha, hx2] at bX
    have eX := bX.cell 0
    have eX' := bX.cell 1
    simp at e0 e1 eX eX'
    have g0 := fun d os => cell_regrown e0 d os
    have g1 := fun d os => cell_regrown e1 d os
    have g2 := fun d os => cell_regrown eX d os
    have g3 := fun d os => cell_regrown eX' d os
    rw [hxe]
    unfold pkV
    clear hmv hfv hgv e0 e1 eX eX' hB1 hU0 hF0 hSx hxe ha hx2 hx0 hx1
    gi_wp2_with fail
    refine wpIn_region_tail 5 (by kernel_rfl) (by kernel_rfl) ?_
    repeat (quiet_step ((go_at_call 83; exact hW1 _ _)))
    refine wpQuiet_nil ?_
    intro _ hw'
    obtain ⟨⟨dq, osq⟩, hw''⟩ := hw'
    subst hw''
    simp only [List.drop_succ_cons, List.drop_zero]
    have hb3 := below_regrown W dq osq
    have q0 := c0.below hb3
    have q1 := c1.below hb3
    have hlt3 := q0.lt
    have HB3 := Lib.hid (HB1.out.trans (hb3.mono (by have := HB1.out.size; omega)))
    have hz3 := hb3.size
    have HKO := Lib.hid (KeepsOthers.of_below hb3)
    have HKT := Lib.hid (show KT T M n₀ W (grow (redrawn W dq) osq) from KT.of_below hb3 (by omega) (by omega))
    clear g0 g1 g2 g3 hW1 hmx hb3
    generalize grow (redrawn W dq) osq = w5 at *
    have e0 := q0.cell 0
    have f0 := q0.frozen 0
    simp at e0
    gi_wp2
    have d0 := q0.set (j := 0) (.int .i64 gv)
    refine ⟨?_, HKT.out.trans (KT.set (by omega) hn₀.1), ?_, q1.other (by omega) _, HB3.out.setCell (by simp) _, by simp [World.setCell]; omega⟩
    · exact (HKO.out.trans (KeepsOthers.setCell _ _ _)).from _
    · rw [HS.out]; simpa using d0
  case done =>
    rintro D zs W hD hzs ⟨c0, c1, hB1, hs1⟩ hK
    have e0 := c0.cell 0
    simp at e0
    rw [hzs] at e0
    have hDlt := (Array.getElem?_eq_some_iff.1 hK).1
    gi_wp2
    refine ⟨by simp, .inl ⟨_, _, rfl, run_takeDeferred hK, ?_⟩⟩
    refine ⟨_, ?_, ⟨rfl, ?_⟩⟩
    · simp [results, Try.results86, go_sem]
    · exact hB1.trans (belowK_b (w := w) (Nat.le_refl _) _ D _ _ (by omega) hK rfl rfl)
  case stop =>
    rintro D c pre W _ _ h _
    exact h.elim
end Go.Proofs.Ytjbeoakikdkdaaa
