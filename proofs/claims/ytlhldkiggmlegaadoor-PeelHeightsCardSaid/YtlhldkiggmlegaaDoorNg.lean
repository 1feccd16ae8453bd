import Derived.Test.YtlhldkiggmlegaaDoorNe
namespace Go.Proofs.YtlhldkiggmlegaaDoor
open Go.RowKit Go.Shelf
attribute [local go_sem] Oper.semAt_some

/-! ## All proofs of a log, as the program yields them -/
structure PK where
  f : Int
  m : Int
  t : Int
  s : Int
deriving DecidableEq
def pkV (p : PK) : Value := .agg #[.int .i64 p.f, .int .i64 p.m, .int .i64 p.t, .int .i64 p.s]
def single (i : Nat) : PK := ⟨i, i, i, 0⟩
def tri3 (last middle first : Nat) : List PK := [⟨first, middle, last, 1⟩, ⟨first, middle, last, 2⟩]
def tri2 (last middle : Nat) : List PK := (List.range middle).flatMap (tri3 last middle)
def tri1 (last : Nat) : List PK := (List.range last).flatMap (tri2 last)
def proofsL (n : Nat) : List PK := (List.range n).map single ++ (List.range n).flatMap tri1

theorem range_split {k n : Nat} (h : k < n) : ∃ r, List.range n = List.range k ++ k :: r := by
  refine ⟨(List.range n).drop (k + 1), ?_⟩
  have h1 : (List.range n).take (k + 1) = List.range (k + 1) := by rw [List.take_range]; congr 1; omega
  have h2 := List.take_append_drop (k + 1) (List.range n)
  rw [h1, List.range_succ, List.append_assoc] at h2
  exact h2.symm
theorem pfx_flat {α : Type} {f : Nat → List α} {k n : Nat} (h : k < n) {s : List α} (hs : s <+: f k) : (List.range k).flatMap f ++ s <+: (List.range n).flatMap f := by
  obtain ⟨r, hr⟩ := range_split h
  obtain ⟨t, ht⟩ := hs
  rw [hr, List.flatMap_append, List.flatMap_cons, ← ht]
  exact ⟨t ++ r.flatMap f, by simp⟩
theorem pfx_map {α : Type} {f : Nat → α} {k n : Nat} (h : k < n) : (List.range k).map f ++ [f k] <+: (List.range n).map f := by
  obtain ⟨r, hr⟩ := range_split h
  rw [hr, List.map_append, List.map_cons]
  exact ⟨r.map f, by simp⟩
theorem pfx_left {α : Type} {a s t : List α} (h : s <+: t) : a ++ s <+: a ++ t := (List.prefix_append_right_inj a).2 h
theorem flat_succ {α : Type} (f : Nat → List α) (k : Nat) : (List.range (k + 1)).flatMap f = (List.range k).flatMap f ++ f k := by
  rw [List.range_succ, List.flatMap_append]; simp
theorem map_succ {α : Type} (f : Nat → α) (k : Nat) : (List.range (k + 1)).map f = (List.range k).map f ++ [f k] := by
  rw [List.range_succ, List.map_append]; rfl
theorem mem_of_pfx {α : Type} {pre l : List α} {x : α} (h : pre ++ [x] <+: l) : x ∈ l := h.subset (by simp)
theorem lt_of_pfx {α : Type} {pre l : List α} {x : α} (h : pre ++ [x] <+: l) : pre.length < l.length := by
  have := h.length_le; simp at this; omega

def dA (k : Nat) : List PK := (List.range k).map single
def dB (n k : Nat) : List PK := (List.range n).map single ++ (List.range k).flatMap tri1
def dC (n last k : Nat) : List PK := dB n last ++ (List.range k).flatMap (tri2 last)
def dD (n last middle k : Nat) : List PK := dC n last middle ++ (List.range k).flatMap (tri3 last middle)
theorem dA_succ (k : Nat) : dA (k + 1) = dA k ++ [single k] := map_succ _ _
theorem dB_succ (n k : Nat) : dB n (k + 1) = dC n k k := by unfold dB dC; rw [flat_succ, ← List.append_assoc]; rfl
theorem dC_succ (n a k : Nat) : dC n a (k + 1) = dD n a k k := by unfold dC dD; rw [flat_succ, ← List.append_assoc]; rfl
theorem dD_succ (n a b k : Nat) : dD n a b (k + 1) = dD n a b k ++ tri3 a b k := by unfold dD; rw [flat_succ, ← List.append_assoc]
theorem dA_pfx {n k : Nat} (h : k < n) : dA k ++ [single k] <+: proofsL n := (pfx_map (f := single) h).trans (List.prefix_append _ _)
theorem dD_pfx {n a b k : Nat} (h1 : a < n) (h2 : b < a) (h3 : k < b) {s : List PK} (hs : s <+: tri3 a b k) : dD n a b k ++ s <+: proofsL n := by
  unfold dD dC dB proofsL
  rw [List.append_assoc, List.append_assoc, List.append_assoc]
  refine pfx_left (pfx_flat h1 ?_)
  exact pfx_flat h2 (pfx_flat h3 hs)
theorem dB_all (n : Nat) : dB n n = proofsL n := rfl
theorem dB_zero (n : Nat) : dB n 0 = dA n := by simp [dB, dA]
theorem dC_zero (n a : Nat) : dC n a 0 = dB n a := by simp [dC]
theorem dD_zero (n a b : Nat) : dD n a b 0 = dC n a b := by simp [dD]

/-- What a round keeps: the blocks that are named, and all cells that are newer than block n₁. -/
structure KpP (Pr : Nat → Prop) (n₁ : Nat) (W W' : World) : Prop where
  size : W.heap.size ≤ W'.heap.size
  same : ∀ (k : Nat) (o : Obj), W.heap[k]? = some o → (Pr k ∨ (n₁ ≤ k ∧ o.isCells = true)) → W'.heap[k]? = some o
theorem KpP.refl (Pr : Nat → Prop) (n₁ : Nat) (W : World) : KpP Pr n₁ W W := ⟨Nat.le_refl _, fun _ _ h _ => h⟩
theorem KpP.trans {Pr : Nat → Prop} {n₁ : Nat} {A B C : World} (h : KpP Pr n₁ A B) (k : KpP Pr n₁ B C) : KpP Pr n₁ A C :=
  ⟨Nat.le_trans h.size k.size, fun i o ho hi => k.same i o (h.same i o ho hi) hi⟩
theorem KpP.of_below {Pr : Nat → Prop} {n₁ : Nat} {A B : World} (h : Below A.heap.size A B) : KpP Pr n₁ A B :=
  ⟨h.size, fun k _ ho _ => (h.block k (Array.getElem?_eq_some_iff.1 ho).1).trans ho⟩
theorem KpP.below {Pr : Nat → Prop} {n₁ : Nat} {A B C : World} (h : KpP Pr n₁ A B) (k : Below B.heap.size B C) : KpP Pr n₁ A C := h.trans (KpP.of_below k)
theorem KpP.alloc {Pr : Nat → Prop} {n₁ : Nat} {A B : World} (h : KpP Pr n₁ A B) (o : Obj) : KpP Pr n₁ A (B.alloc o) := h.below (below1 _ _)
theorem KpP.cell {Pr : Nat → Prop} {n₁ : Nat} {A B : World} (h : KpP Pr n₁ A B) {b o : Nat} (hb : Pr b) {v : Value} (hc : A.cell? ⟨b, o, none⟩ = some v) : B.cell? ⟨b, o, none⟩ = some v := by
  have hlt := lt_of_cell hc
  rw [← hc]
  exact World.cell?_of_block ((h.same b _ (Array.getElem?_eq_getElem hlt) (.inl hb)).trans (Array.getElem?_eq_getElem hlt).symm)
theorem KpP.new {Pr : Nat → Prop} {n₁ : Nat} {A B : World} (h : KpP Pr n₁ A B) {b : Nat} {c : Array Value} {T : TypeId} {z : Nat × Nat} (hb : n₁ ≤ b) (hc : Blk A b (.cells c T z)) : Blk B b (.cells c T z) :=
  h.same b _ hc (.inr ⟨hb, rfl⟩)
theorem kpP_t {Pr : Nat → Prop} {n₁ : Nat} {A B C : World} (h : KpP Pr n₁ A B) (k : KpP Pr n₁ B C) : KpP Pr n₁ A C := h.trans k
theorem kpP_b {Pr : Nat → Prop} {n₁ : Nat} {w : World} (hPr : ∀ k, Pr k → k < w.heap.size) (W : World) (l : Nat) (o o' : Obj) (hl : w.heap.size ≤ l) (h : W.heap[l]? = some o) (hc : o.isCells = false) (_ : o.isWalk = false) : KpP Pr n₁ W (W.putObj l o') := by
  refine ⟨by simp, fun k ob hob hk => ?_⟩
  by_cases e : k = l
  · subst e
    rw [h] at hob
    cases hob
    rcases hk with hk | ⟨_, hk⟩
    · have := hPr k hk; omega
    · rw [hc] at hk; cases hk
  · exact (World.putObj_heap_other e).trans hob

set_option maxRecDepth 100000 in
set_option maxHeartbeats 4000000 in
theorem proofs1_in (n : Nat) (_hn : 1 ≤ n) (l0 Bs L n₁ N : Nat) (Pr : Nat → Prop) (a : Option Addr) (cap : Nat) (W : World) (hN : N ≤ 1000) (hb : Pr Bs) (hL : Pr L) (hnW : n₁ ≤ W.heap.size) (J Jx : List PK → World → Prop)
    (hY : ∀ pre x W, x ∈ proofsL N → J pre W → pre.length < (proofsL N).length → YieldAt Fence.wide (n - 1) Tryd.prog l0 #[pkV x] W fun e W' =>
      (e = .returned (.bool true) ∧ J (pre ++ [x]) W' ∧ KpP Pr n₁ W W') ∨ (e = .returned (.bool false) ∧ Jx (pre ++ [x]) W'))
    (hJa : ∀ pre W o, J pre W → J pre (W.alloc o))
    (hBs : W.cell? ⟨Bs, 0, none⟩ = some (.pointer (some ⟨L, 0, none⟩)))
    (hc : W.cell? ⟨L, 0, none⟩ = some (.slice a N cap)) (h0 : J [] W) :
    CallsIn Fence.wide n Tryd.prog 104 #[.func (.yield l0) #[] #[], .pointer (some ⟨Bs, 0, none⟩)] W fun e W' => (∃ v, e = .returned v) ∧
      ((∃ ys, ys = proofsL N ∧ J ys W') ∨ (∃ pre, (pre <+: proofsL N) ∧ Jx pre W')) := by
  refine callsIn_of_wp Tryd.func104 rfl trivial ?_ rfl
  simp only [Tryd.ntmps104, List.size_toArray, List.length_cons, List.length_nil, Nat.reduceAdd, Nat.reduceSub, Array.replicate_succ, Array.replicate_zero, List.push_toArray, List.append_toArray, List.nil_append, List.cons_append]
  gi_wp2
  gi_loopw [15] (fun i wr => ∃ k : Nat, k ≤ N ∧ i = .int .i64 k ∧ J (dA k) wr ∧ KpP Pr n₁ W wr)
    (fun i _ => N - (intOf i).toNat)
  case atStart => exact ⟨0, Nat.zero_le _, rfl, h0, KpP.refl _ _ _⟩
  case round =>
    obtain ⟨k, hk, rfl, hJs, hnx⟩ := hrel
    by_cases hlt : k < N
    · obtain ⟨fn, tmps, assign, body, hy, hR⟩ := hY _ (single k) wr (mem_of_pfx (dA_pfx hlt)) hJs (lt_of_pfx (dA_pfx hlt))
      unfold pkV single at hy
      gi_wp2
      refine hR.mono ?_
      rintro e W3 (⟨rfl, hJ3, hk3⟩ | ⟨rfl, hJx3⟩)
      · gi_wp2
        go_roundw
        case rel => exact ⟨k + 1, by omega, by simp, by rw [dA_succ]; exact hJ3, hnx.trans hk3⟩
        case measure => simp [intOf]; omega
      · gi_wp2
        refine bodyPost_ret (results_none rfl _ _ _) rfl ?_
        exact ⟨⟨_, rfl⟩, .inr ⟨_, dA_pfx hlt, hJx3⟩⟩
    · obtain rfl : k = N := by omega
      have hBs' := hnx.cell hb hBs
      have hc' := hnx.cell hL hc
      have hJB : J (dB k 0) wr := by rw [dB_zero]; exact hJs
      obtain ⟨W1, rfl⟩ : ∃ W1 : World, W1 = wr := ⟨_, rfl⟩
      clear hJs hlt hk
      gi_wp2
      gi_loopw [32] (fun i wr => ∃ q : Nat, q ≤ k ∧ i = .int .i64 q ∧ J (dB k q) wr ∧ KpP Pr n₁ W wr)
        (fun i _ => k - (intOf i).toNat)
      case atStart => exact ⟨0, Nat.zero_le _, rfl, hJB, hnx⟩
      case round =>
        obtain ⟨q, hq, rfl, hJq, hnq⟩ := hrel
        by_cases hlq : q < k
        · have hJC : J (dC k q 0) wr := by rw [dC_zero]; exact hJq
          obtain ⟨W2, rfl⟩ : ∃ W2 : World, W2 = wr := ⟨_, rfl⟩
          clear hJq
          gi_wp2
          gi_loopw [36] (fun i wr => ∃ p : Nat, p ≤ q ∧ i = .int .i64 p ∧ J (dC k q p) wr ∧ KpP Pr n₁ W wr)
            (fun i _ => q - (intOf i).toNat)
          case atStart => exact ⟨0, Nat.zero_le _, rfl, hJC, hnq⟩
          case round =>
            obtain ⟨p, hp, rfl, hJp, hnp⟩ := hrel
            by_cases hlp : p < q
            · have hJD : J (dD k q p 0) wr := by rw [dD_zero]; exact hJp
              obtain ⟨W3, rfl⟩ : ∃ W3 : World, W3 = wr := ⟨_, rfl⟩
              clear hJp
              gi_wp2
              gi_loopw [40] (fun i wr => ∃ r : Nat, r ≤ p ∧ i = .int .i64 r ∧ J (dD k q p r) wr ∧ KpP Pr n₁ W wr)
                (fun i _ => p - (intOf i).toNat)
              case atStart => exact ⟨0, Nat.zero_le _, rfl, hJD, hnp⟩
              case round =>
                obtain ⟨r, hr, rfl, hJr, hnr⟩ := hrel
                by_cases hlr : r < p
                · obtain ⟨W4, rfl⟩ : ∃ W4 : World, W4 = wr := ⟨_, rfl⟩
                  gi_wp2
                  have hK0 := hnr.alloc (.cells #[.int .i64 1, .int .i64 2] 3)
                  have hJ0 := hJa _ _ (.cells #[.int .i64 1, .int .i64 2] 3) hJr
                  have hB0 := Blk.new W4 (.cells #[.int .i64 1, .int .i64 2] 3)
                  have hn4 : n₁ ≤ W4.heap.size := Nat.le_trans hnW hnr.size
                  obtain ⟨b, hbe⟩ : ∃ b, b = W4.heap.size := ⟨_, rfl⟩
                  rw [← hbe] at hB0 hn4 ⊢
                  clear hbe
                  generalize W4.alloc (.cells #[.int .i64 1, .int .i64 2] 3) = W5 at *
                  gi_loopw [45] (fun i wr => ∃ c : Nat, c ≤ 2 ∧ i = .int .i64 c ∧ J (dD k q p r ++ (tri3 q p r).take c) wr ∧ KpP Pr n₁ W wr ∧ Blk wr b (.cells #[.int .i64 1, .int .i64 2] 3))
                    (fun i _ => 2 - (intOf i).toNat)
                  case atStart => exact ⟨0, Nat.zero_le _, rfl, by simpa using hJ0, hK0, hB0⟩
                  case round =>
                    obtain ⟨c, hcc, rfl, hJc, hKc, hBc⟩ := hrel
                    by_cases hlc : c < 2
                    · have hcell : wr.cell? ⟨b, c, none⟩ = some (.int .i64 ((c : Int) + 1)) := by
                        rw [hBc.cell]
                        rcases (by omega : c = 0 ∨ c = 1) with rfl | rfl <;> rfl
                      have hsn : (tri3 q p r).take (c + 1) = (tri3 q p r).take c ++ [⟨r, p, q, (c : Int) + 1⟩] := by
                        rcases (by omega : c = 0 ∨ c = 1) with rfl | rfl <;> rfl
                      have hpf : (dD k q p r ++ (tri3 q p r).take c) ++ [⟨r, p, q, (c : Int) + 1⟩] <+: proofsL k := by
                        rw [List.append_assoc, ← hsn]
                        exact dD_pfx hlq hlp hlr (List.take_prefix _ _)
                      obtain ⟨fn, tmps, assign, body, hy, hR⟩ := hY _ ⟨r, p, q, (c : Int) + 1⟩ wr (mem_of_pfx hpf) hJc (lt_of_pfx hpf)
                      unfold pkV at hy
                      have HS := Lib.hid hsn
                      clear hsn
                      gi_wp2
                      refine hR.mono ?_
                      rintro e W6 (⟨rfl, hJ3, hk3⟩ | ⟨rfl, hJx3⟩)
                      · gi_wp2
                        go_roundw
                        case rel => exact ⟨c + 1, by omega, by simp, by rw [HS.out, ← List.append_assoc]; exact hJ3, hKc.trans hk3, hk3.new hn4 hBc⟩
                        case measure => simp [intOf]; omega
                      · gi_wp2
                        refine bodyPost_ret (results_none rfl _ _ _) rfl ?_
                        exact ⟨⟨_, rfl⟩, .inr ⟨_, hpf, hJx3⟩⟩
                    · obtain rfl : c = 2 := by omega
                      gi_wp2
                      go_roundw
                      case rel => exact ⟨r + 1, by omega, by simp, by rw [dD_succ]; simpa [tri3] using hJc, hKc⟩
                      case measure => simp [intOf]; omega
                · obtain rfl : r = p := by omega
                  gi_wp2
                  go_roundw
                  case rel => exact ⟨r + 1, by omega, by simp, by rw [dC_succ]; exact hJr, hnr⟩
                  case measure => simp [intOf]; omega
            · obtain rfl : p = q := by omega
              gi_wp2
              go_roundw
              case rel => exact ⟨p + 1, by omega, by simp, by rw [dB_succ]; exact hJp, hnp⟩
              case measure => simp [intOf]; omega
        · obtain rfl : q = k := by omega
          gi_wp2
          go_end0
          exact ⟨⟨_, rfl⟩, .inl ⟨_, rfl, hJq⟩⟩

/-- A proof of a log with N places. -/
abbrev PN (N : Nat) := { p : PK // p ∈ proofsL N }
theorem proofs_stops (n : Nat) (hn : 1 ≤ n) (Bs L n₁ N : Nat) (Pr : Nat → Prop) (a : Option Addr) (cap : Nat) (w : World) (hN : N ≤ 1000) (hb : Pr Bs) (hL : Pr L) (hn₁ : n₁ ≤ w.heap.size)
    (hBs : w.cell? ⟨Bs, 0, none⟩ = some (.pointer (some ⟨L, 0, none⟩))) (hc : w.cell? ⟨L, 0, none⟩ = some (.slice a N cap)) :
    SeqStopsK Fence.wide n Tryd.prog 104 #[.pointer (some ⟨Bs, 0, none⟩)] (fun p : PN N => #[pkV p.1]) (KpP Pr n₁) (fun ys => ys.map (·.1) = proofsL N) (fun pre => pre.map (·.1) <+: proofsL N) (proofsL N).length w := by
  intro l J Jx W hW hJ _ hY h0
  refine (proofs1_in n hn l Bs L n₁ N Pr a cap W hN hb hL (Nat.le_trans hn₁ hW.size) (fun pre W => ∃ pre' : List (PN N), pre'.map (·.1) = pre ∧ J pre' W) (fun pre W => ∃ pre' : List (PN N), pre'.map (·.1) = pre ∧ Jx pre' W)
    ?_ ?_ (cellB hBs hW) (cellB hc hW) ⟨[], rfl, h0⟩).mono ?_
  · rintro pre x W1 hx ⟨pre', rfl, hJ'⟩ hlt
    obtain ⟨fn, tmps, assign, body, hy, hR⟩ := hY pre' ⟨x, hx⟩ W1 hJ' (by simpa using hlt)
    refine ⟨fn, tmps, assign, body, hy, hR.mono ?_⟩
    rintro e W2 (⟨h1, h2, h3⟩ | ⟨h1, h2⟩)
    · exact .inl ⟨h1, ⟨_, by simp, h2⟩, h3⟩
    · exact .inr ⟨h1, ⟨_, by simp, h2⟩⟩
  · rintro pre W1 o ⟨pre', h1, h2⟩
    exact ⟨pre', h1, hJ pre' W1 _ none h2 (World.grownBy_alloc W1 o none) (fun r e => by cases e)⟩
  · rintro e W2 ⟨hv, ⟨ys, rfl, ys', h1, h2⟩ | ⟨pre, h1, pre', rfl, h2⟩⟩
    · exact ⟨hv, .inl ⟨ys', h1, h2⟩⟩
    · exact ⟨hv, .inr ⟨pre', h1, h2⟩⟩

set_option maxHeartbeats 400000 in
theorem proofs_any (L : Nat) (w : World) :
    Calls Tryd.prog 75 #[.pointer (some ⟨L, 0, none⟩)] w fun e w' => e = .returned (.func (.func 104) #[] #[.pointer (some ⟨w.heap.size, 0, none⟩)]) ∧ w.alloc (.cells #[.pointer (some ⟨L, 0, none⟩)] 85) = w' := by
  have hmf : ∀ (fn : Fn) (first cap : Array Value) (w : World), (Instr.makeFunc fn first cap).run Tryd.prog w = .ok (.func fn first cap) w := fun _ _ _ _ => rfl
  go_enter Tryd.func75, Tryd.ntmps75
  go_wp2
  go_ret
  exact ⟨rfl, rfl⟩
end Go.Proofs.YtlhldkiggmlegaaDoor

namespace Go.Proofs.YtlhldkiggmlegaaDoor
open Go.RowKit Go.Shelf
attribute [local go_sem] Oper.semAt_some

/-! ## The best of several, by whatever is better -/
def bestBy (better : Rat → Rat → Bool) (xs : List Rat) : Option Rat :=
  xs.foldl (fun b x => match b with | none => some x | some y => if better x y = true then some x else some y) none
theorem bestBy_snoc (better : Rat → Rat → Bool) (xs : List Rat) (x : Rat) : bestBy better (xs ++ [x]) = match bestBy better xs with | none => some x | some y => if better x y = true then some x else some y := by
  simp [bestBy]
theorem bestBy_some (better : Rat → Rat → Bool) {xs : List Rat} (h : xs ≠ []) : ∃ r, bestBy better xs = some r := by
  suffices H : ∀ (xs : List Rat) (y : Rat), ∃ r, xs.foldl (fun b x => match b with | none => some x | some y => if better x y = true then some x else some y) (some y) = some r by
    cases xs with
    | nil => exact absurd rfl h
    | cons x xs => exact H xs x
  intro xs
  induction xs with
  | nil => intro y; exact ⟨y, rfl⟩
  | cons x xs ih =>
    intro y
    simp only [List.foldl_cons]
    split <;> exact ih _
theorem bestBy_mem {better : Rat → Rat → Bool} {xs : List Rat} {y : Rat} (h : bestBy better xs = some y) : y ∈ xs := by
  suffices H : ∀ (xs : List Rat) (b : Option Rat) (y : Rat), xs.foldl (fun b x => match b with | none => some x | some y => if better x y = true then some x else some y) b = some y → y ∈ xs ∨ b = some y by
    rcases H xs none y h with h | h
    · exact h
    · cases h
  intro xs
  induction xs with
  | nil => intro b y h; exact Or.inr h
  | cons x xs ih =>
    intro b y h
    rcases ih _ y h with h | h
    · exact Or.inl (List.mem_cons_of_mem _ h)
    · cases b with
      | none => simp at h; exact Or.inl (by simp [h])
      | some z =>
        simp only at h
        split at h
        · simp at h; exact Or.inl (by simp [h])
        · exact Or.inr h
/-- The least is at most all others. -/
theorem best_least {xs : List Rat} {y : Rat} (h : bestBy (fun a b => decide (a < b)) xs = some y) : y ∈ xs ∧ ∀ x ∈ xs, y ≤ x := by
  refine ⟨bestBy_mem h, ?_⟩
  suffices H : ∀ (xs : List Rat) (b : Option Rat) (y : Rat), xs.foldl (fun b x => match b with | none => some x | some y => if decide (x < y) = true then some x else some y) b = some y → (∀ x ∈ xs, y ≤ x) ∧ ∀ z, b = some z → y ≤ z from
    (H xs none y h).1
  intro xs
  induction xs with
  | nil => intro b y h; exact ⟨by simp, fun z hz => by simp at h; rw [hz] at h; cases h; exact Rat.le_refl⟩
  | cons x xs ih =>
    intro b y h
    obtain ⟨h1, h2⟩ := ih _ y h
    cases b with
    | none =>
      refine ⟨fun z hz => ?_, fun z hz => by cases hz⟩
      rcases List.mem_cons.1 hz with rfl | hz
      · exact h2 _ rfl
      · exact h1 z hz
    | some w =>
      by_cases hx : x < w
      · have h3 := h2 x (by simp [hx])
        refine ⟨fun z hz => ?_, fun z hz => by cases hz; grind⟩
        rcases List.mem_cons.1 hz with rfl | hz
        · exact h3
        · exact h1 z hz
      · have h3 := h2 w (by simp [hx])
        refine ⟨fun z hz => ?_, fun z hz => by cases hz; exact h3⟩
        rcases List.mem_cons.1 hz with rfl | hz
        · grind
        · exact h1 z hz
theorem best_most {xs : List Rat} {y : Rat} (h : bestBy (fun a b => decide (b < a)) xs = some y) : y ∈ xs ∧ ∀ x ∈ xs, x ≤ y := by
  refine ⟨bestBy_mem h, ?_⟩
  suffices H : ∀ (xs : List Rat) (b : Option Rat) (y : Rat), xs.foldl (fun b x => match b with | none => some x | some y => if decide (y < x) = true then some x else some y) b = some y → (∀ x ∈ xs, x ≤ y) ∧ ∀ z, b = some z → z ≤ y from
    (H xs none y h).1
  intro xs
  induction xs with
  | nil => intro b y h; exact ⟨by simp, fun z hz => by simp at h; rw [hz] at h; cases h; exact Rat.le_refl⟩
  | cons x xs ih =>
    intro b y h
    obtain ⟨h1, h2⟩ := ih _ y h
    cases b with
    | none =>
      refine ⟨fun z hz => ?_, fun z hz => by cases hz⟩
      rcases List.mem_cons.1 hz with rfl | hz
      · exact h2 _ rfl
      · exact h1 z hz
    | some w =>
      by_cases hx : w < x
      · have h3 := h2 x (by simp [hx])
        refine ⟨fun z hz => ?_, fun z hz => by cases hz; grind⟩
        rcases List.mem_cons.1 hz with rfl | hz
        · exact h3
        · exact h1 z hz
      · have h3 := h2 w (by simp [hx])
        refine ⟨fun z hz => ?_, fun z hz => by cases hz; exact h3⟩
        rcases List.mem_cons.1 hz with rfl | hz
        · grind
        · exact h1 z hz

/-- What a round keeps: all that is older than n, and all maps and walks. -/
def KpW (n : Nat) (W W' : World) : Prop := Below n W W' ∧ KeepsWalks W W'
theorem kpW_t {n : Nat} {A B C : World} (h : KpW n A B) (k : KpW n B C) : KpW n A C := ⟨h.1.trans k.1, h.2.trans k.2⟩
theorem kpW_b {n : Nat} {w : World} (hn : n ≤ w.heap.size) (W : World) (l : Nat) (o o' : Obj) (hl : w.heap.size ≤ l) (h : W.heap[l]? = some o) (hc : o.isCells = false) (hw : o.isWalk = false) : KpW n W (W.putObj l o') :=
  ⟨belowK_b hn W l o o' hl h hc hw, KeepsWalks.putObj _ h hw⟩
theorem SeqStopsK.weak {α : Type} {F : Fence} {n : Nat} {P : Program} {g : Nat} {lb : Array Value} {encs : α → Array Value} {Kp Kp' : World → World → Prop} {S Sp : List α → Prop} {N : Nat} {w : World}
    (hk : ∀ W W', Kp' W W' → Kp W W') (h : SeqStopsK F n P g lb encs Kp S Sp N w) : SeqStopsK F n P g lb encs Kp' S Sp N w :=
  fun l J Jx W hW hJ hJx hY h0 => h l J Jx W hW hJ hJx (fun pre x W1 hj hl => by
    obtain ⟨fn, tmps, assign, body, hy, hR⟩ := hY pre x W1 hj hl
    refine ⟨fn, tmps, assign, body, hy, hR.mono ?_⟩
    rintro e W' (⟨h1, h2, h3⟩ | h4)
    · exact .inl ⟨h1, h2, hk _ _ h3⟩
    · exact .inr h4) h0

set_option maxRecDepth 100000 in
set_option maxHeartbeats 2000000 in
theorem pick_any (n : Nat) (hn : 4 ≤ n) (gc : Nat) (better : Rat → Rat → Bool) (hgc : ∀ args w, (callFunc gc args).run Tryd.prog w = .ok (.enter gc args) w) (hcmp : ∀ (a b : Rat) (w : World), Fine a → Fine b → Calls Tryd.prog gc #[qv a, qv b] w fun e w' => e = .returned (.bool (better a b)) ∧ Below w.heap.size w w') (gf : Nat) (lb : Array Value) (S Sp : List FR → Prop) (N : Nat) (hne : ∀ xs, S xs → xs ≠ []) (w : World)
    (eg : ∀ args w, (callFunc gf args).run Tryd.prog w = .ok (.enter gf args) w)
    (hseq : ∀ n, 1 ≤ n → SeqStopsK Fence.wide n Tryd.prog gf lb (fun x : FR => #[qv x.1]) (KpW w.heap.size) S Sp N w) :
    CallsIn Fence.wide n Tryd.prog 78 #[.func (.func gf) #[] lb, .func (.func gc) #[] #[]] w fun e w' => 
      (∃ xs r, S xs ∧ bestBy better (xs.map Subtype.val) = some r ∧ e = .returned (qv r)) ∧ Below w.heap.size w w' := by
  have h1 : 1 ≤ n := by omega
  refine callsIn_of_wp_marks Tryd.func78 rfl trivial ?_ rfl
  simp only [Tryd.ntmps78, List.size_toArray, List.length_cons, List.length_nil, Nat.reduceAdd, Nat.reduceSub, Array.replicate_succ, Array.replicate_zero, List.push_toArray, List.append_toArray, List.nil_append, List.cons_append]
  gi_wp2
  obtain ⟨W0, hW0⟩ : ∃ W0, (((w.alloc (.cells #[.func (.func gc) #[] #[]] 62)).alloc (.cells #[.int .i64 0, .int .i64 0] 31)).alloc (.cells #[.int .i64 0, .int .i64 0] 31)).alloc (.cells #[.bool false] 4) = W0 := ⟨_, rfl⟩
  have hF : Blk W0 w.heap.size (.cells #[.func (.func gc) #[] #[]] 62) ∧ Blk W0 (w.heap.size + 1) (.cells #[.int .i64 0, .int .i64 0] 31) ∧ Blk W0 (w.heap.size + 1 + 1) (.cells #[.int .i64 0, .int .i64 0] 31) ∧ Blk W0 (w.heap.size + 1 + 1 + 1) (.cells #[.bool false] 4) ∧ Below w.heap.size w W0 ∧ W0.heap.size = w.heap.size + 4 := by
    subst hW0
    refine ⟨(((Blk.new _ _).alloc _).alloc _).alloc _, ?_, ?_, ?_, below4 _ _ _ _ _, by simp⟩
    · have := ((Blk.new (w.alloc (.cells #[.func (.func gc) #[] #[]] 62)) (.cells #[.int .i64 0, .int .i64 0] 31)).alloc (.cells #[.int .i64 0, .int .i64 0] 31)).alloc (.cells #[.bool false] 4)
      rwa [World.size_alloc] at this
    · have := (Blk.new ((w.alloc (.cells #[.func (.func gc) #[] #[]] 62)).alloc (.cells #[.int .i64 0, .int .i64 0] 31)) (.cells #[.int .i64 0, .int .i64 0] 31)).alloc (.cells #[.bool false] 4)
      rwa [World.size_alloc, World.size_alloc] at this
    · have := Blk.new (((w.alloc (.cells #[.func (.func gc) #[] #[]] 62)).alloc (.cells #[.int .i64 0, .int .i64 0] 31)).alloc (.cells #[.int .i64 0, .int .i64 0] 31)) (.cells #[.bool false] 4)
      rwa [World.size_alloc, World.size_alloc, World.size_alloc] at this
  rw [hW0]
  clear hW0
  obtain ⟨b0, b1, b2, b3, hB0, hz0⟩ := hF
  refine wpIn_rangeFunc_ownH (F := Fence.wide) rfl h1 (gf := gf) (lb := lb) rfl trivial eg
    (SeqStopsK.from hB0 (hseq (n - 1) (by omega))) kpW_t (kpW_b (by omega)) (Below.refl _ _) (fun _ => rfl)
    (fun (pre : List FR) W => Blk W w.heap.size (.cells #[.func (.func gc) #[] #[]] 62) ∧ Blk W (w.heap.size + 1) (.cells #[.int .i64 0, .int .i64 0] 31) ∧ Blk W (w.heap.size + 1 + 1) (.cells (cellsR (bestBy better (pre.map Subtype.val))) 31) ∧ Blk W (w.heap.size + 1 + 1 + 1) (.cells #[.bool (bestBy better (pre.map Subtype.val)).isSome] 4) ∧ Below w.heap.size w W ∧ w.heap.size + 4 ≤ W.heap.size)
    (fun _ _ _ => False)
    (ownFrom_of fun pre W W' ⟨c0, c1, c2, c3, hB, hs⟩ hk => ⟨c0.keepsC hk, c1.keepsC hk, c2.keepsC hk, c3.keepsC hk, below_keeps hB hk (by omega) hB.size, Nat.le_trans hs hk.size⟩)
    (fun _ _ _ _ _ hs _ _ => hs)
    ⟨b0, b1, b2, b3, hB0, by omega⟩
    (fun x a' W => ∃ Bx, W0.heap.size ≤ Bx ∧ Blk W Bx (.cells #[.int .i64 x.1.num, .int .i64 x.1.den] 31) ∧ a' = { tmps := #[.func (.func gf) #[] lb, .func (.func gc) #[] #[], undef, .pointer (some ⟨w.heap.size, 0, none⟩), .pointer (some ⟨w.heap.size + 1, 0, none⟩), .pointer (some ⟨w.heap.size + 1 + 1, 0, none⟩), .pointer (some ⟨w.heap.size + 1 + 1 + 1, 0, none⟩), .pointer (some ⟨Bx, 0, none⟩), .func (.func gf) #[] lb, qv x.1, undef, undef, undef, undef, undef, undef, undef, undef, undef, undef], defers := [] })
    (fun x a' => ownFrom_of fun _ W W' h hk => by obtain ⟨Bx, h1, h2, h3⟩ := h; exact ⟨Bx, h1, h2.keepsC hk, h3⟩)
    ?assign ?body ?done ?stop
  case assign =>
    rintro l pre x W K ⟨c0, c1, c2, c3, hB1, hs1⟩ hK
    unfold qv
    gi_wp2
    exact hK _ _ ((KeepsOthers.alloc _ _).from _) ⟨(Below.refl _ W).alloc hB1.size _, (KeepsOthers.alloc _ _).walks⟩ ⟨c0.alloc _, c1.alloc _, c2.alloc _, c3.alloc _, hB1.alloc hB1.size _, by simp; omega⟩ ⟨W.heap.size, by omega, Blk.new W _, rfl⟩
  case body =>
    rintro l pre x a' W hl ⟨r, hr⟩ ⟨c0, c1, c2, c3, hB1, hs1⟩ ⟨Bx, hBx, bX, rfl⟩ hlt
    have hltX := bX.lt
    have e0 := c0.cell 0
    have e2 := c2.cell 0
    have e2' := c2.cell 1
    have e3 := c3.cell 0
    have f2 := c2.frozen 0
    have f2' := c2.frozen 1
    have f3 := c3.frozen 0
    have eX := bX.cell 0
    have eX' := bX.cell 1
    unfold qv
    rcases hle : bestBy better (pre.map Subtype.val) with _ | y
    · rw [hle] at e2 e2' e3 c2 c3
      simp [cellsR] at e0 e2 e2' e3 eX eX'
      gi_wp2
      refine ⟨fun _ h => (by cases h), ?_⟩
      gi_wp2
      have d2 := ((c2.set (j := 0) (.int .i64 x.1.num)).set (j := 1) (.int .i64 x.1.den)).other (b := w.heap.size + 1 + 1 + 1) (j := 0) (by omega) (.bool true)
      have d3 := ((c3.other (b := w.heap.size + 1 + 1) (j := 0) (by omega) (.int .i64 x.1.num)).other (b := w.heap.size + 1 + 1) (j := 1) (by omega) (.int .i64 x.1.den)).set (j := 0) (.bool true)
      refine ⟨(((KeepsOthers.setCell _ _ _).trans (KeepsOthers.setCell _ _ _)).trans (KeepsOthers.setCell _ _ _)).from _, ⟨(((Below.refl _ W).setCell (by simp; omega) _).setCell (by simp; omega) _).setCell (by simp; omega) _, (((KeepsOthers.setCell _ _ _).trans (KeepsOthers.setCell _ _ _)).trans (KeepsOthers.setCell _ _ _)).walks⟩,
        ((c0.other (by omega) _).other (by omega) _).other (by omega) _, ((c1.other (by omega) _).other (by omega) _).other (by omega) _, ?_, ?_, ((hB1.setCell (by simp; omega) _).setCell (by simp; omega) _).setCell (by simp; omega) _, by simpa [World.setCell] using hs1⟩
      · rw [List.map_append, List.map_singleton, bestBy_snoc, hle]; simpa [cellsR] using d2
      · rw [List.map_append, List.map_singleton, bestBy_snoc, hle]; simpa using d3
    · rw [hle] at e2 e2' e3 c2 c3
      simp [cellsR] at e0 e2 e2' e3 eX eX'
      have hy : Fine y := by
        obtain ⟨z, _, rfl⟩ := List.mem_map.1 (bestBy_mem hle)
        exact z.2
      have hP := hcmp x.1 y W x.2 hy
      unfold qv at hP
      have hP' := Lib.hid hP
      clear hP
      rcases Bool.eq_false_or_eq_true (better x.1 y) with hxy | hxy
      · rw [hxy] at hP'
        gi_wp2
        refine ⟨trivial, (fun h => (by cases h)), (CallsIn.inRound l (callsIn_wide.2 hP'.out)).mono ?_⟩
        rintro e w' ⟨rfl, hb⟩
        replace c0 := c0.below hb
        replace c1 := c1.below hb
        replace c2 := c2.below hb
        replace c3 := c3.below hb
        replace bX := bX.below hb
        have e2 := c2.cell 0
        have e2' := c2.cell 1
        have e3 := c3.cell 0
        have f2 := c2.frozen 0
        have f2' := c2.frozen 1
        have f3 := c3.frozen 0
        have eX := bX.cell 0
        have eX' := bX.cell 1
        simp [cellsR] at e2 e2' e3 eX eX'
        have hz := hb.size
        gi_wp2
        have d2 := ((c2.set (j := 0) (.int .i64 x.1.num)).set (j := 1) (.int .i64 x.1.den)).other (b := w.heap.size + 1 + 1 + 1) (j := 0) (by omega) (.bool true)
        have d3 := ((c3.other (b := w.heap.size + 1 + 1) (j := 0) (by omega) (.int .i64 x.1.num)).other (b := w.heap.size + 1 + 1) (j := 1) (by omega) (.int .i64 x.1.den)).set (j := 0) (.bool true)
        have hB2 : Below w.heap.size W w' := hb.mono hB1.size
        refine ⟨((KeepsOthers.of_below hb).trans (((KeepsOthers.setCell _ _ _).trans (KeepsOthers.setCell _ _ _)).trans (KeepsOthers.setCell _ _ _))).from _, ⟨((hB2.setCell (by simp; omega) _).setCell (by simp; omega) _).setCell (by simp; omega) _, ((KeepsOthers.of_below hb).trans (((KeepsOthers.setCell _ _ _).trans (KeepsOthers.setCell _ _ _)).trans (KeepsOthers.setCell _ _ _))).walks⟩,
          ((c0.other (by omega) _).other (by omega) _).other (by omega) _, ((c1.other (by omega) _).other (by omega) _).other (by omega) _, ?_, ?_, (((hB1.trans hB2).setCell (by simp; omega) _).setCell (by simp; omega) _).setCell (by simp; omega) _, by simp [World.setCell]; omega⟩
        · rw [List.map_append, List.map_singleton, bestBy_snoc, hle]; simpa [cellsR, hxy] using d2
        · rw [List.map_append, List.map_singleton, bestBy_snoc, hle]; simpa [hxy] using d3
      · rw [hxy] at hP'
        gi_wp2
        refine ⟨trivial, (fun h => (by cases h)), (CallsIn.inRound l (callsIn_wide.2 hP'.out)).mono ?_⟩
        rintro e w' ⟨rfl, hb⟩
        gi_wp2
        have hz := hb.size
        have hB2 : Below w.heap.size W w' := hb.mono hB1.size
        refine ⟨(KeepsOthers.of_below hb).from _, ⟨hB2, (KeepsOthers.of_below hb).walks⟩, c0.below hb, c1.below hb, ?_, ?_, hB1.trans hB2, by omega⟩
        · rw [List.map_append, List.map_singleton, bestBy_snoc, hle]; simpa [hxy] using c2.below hb
        · rw [List.map_append, List.map_singleton, bestBy_snoc, hle]; simpa [hxy] using c3.below hb
  case done =>
    rintro D zs W hD hS ⟨c0, c1, c2, c3, hB1, hs1⟩ hK
    obtain ⟨r, hr⟩ : ∃ r, bestBy better (zs.map Subtype.val) = some r := bestBy_some better (by simp only [ne_eq, List.map_eq_nil_iff]; exact hne _ hS)
    rw [hr] at c2 c3
    have e1 := c1.cell 0
    have e1' := c1.cell 1
    have f1 := c1.frozen 0
    have f1' := c1.frozen 1
    have e2 := c2.cell 0
    have e2' := c2.cell 1
    simp [cellsR] at e1 e1' e2 e2'
    have hDlt := (Array.getElem?_eq_some_iff.1 hK).1
    gi_wp2
    have d1 := (c1.set (j := 0) (.int .i64 r.num)).set (j := 1) (.int .i64 r.den)
    have hK3 := ((KeepsOthers.setCell W ⟨w.heap.size + 1, 0, none⟩ (.int .i64 r.num)).trans (KeepsOthers.setCell _ ⟨w.heap.size + 1, 1, none⟩ (.int .i64 r.den))).same D _ hK rfl
    refine ⟨by simp, .inl ⟨_, _, rfl, run_takeDeferred hK3, ?_⟩⟩
    have d1' := d1.put (b := D) (by omega) (.deferred none)
    have g0 := d1'.cell 0
    have g1 := d1'.cell 1
    simp at g0 g1
    refine ⟨qv r, ?_, ⟨zs, r, hS, by first | rfl | exact hr, rfl⟩, ?_⟩
    · simp [results, Tryd.results78, go_sem, qv, g0, g1]
    · exact ((hB1.setCell (by simp) _).setCell (by simp) _).trans (belowK_b (w := w) (Nat.le_refl _) _ D _ _ (by omega) hK3 rfl rfl)
  case stop =>
    rintro D c pre W _ _ h _
    exact h.elim

end Go.Proofs.YtlhldkiggmlegaaDoor
