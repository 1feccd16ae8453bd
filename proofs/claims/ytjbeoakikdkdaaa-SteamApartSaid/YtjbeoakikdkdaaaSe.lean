import Derived.Test.YtjbeoakikdkdaaaSd
import Derived.Test.YtjbeoakikdkdaaaSb
import Derived.Test.YtjbeoakikdkdaaaSc
namespace Go.Proofs.Ytjbeoakikdkdaaa
open Go.RowKit Go.Vat

/-! ## The vat's block, cell by cell -/
structure VCs (cs : Array Value) (load : Int) (sv : Value) (U H : Nat → Int) (M : Nat) : Prop where
  size : cs.size = 206
  e0 : cs[0]? = some (.int .i64 load)
  e1 : cs[1]? = some sv
  mp : cs[2]? = some (.map (some M))
  up : ∀ p, p < 102 → cs[3 + p]? = some (.int .i64 (U p))
  hv : ∀ p, p < 101 → cs[105 + p]? = some (.int .i64 (H p))
theorem get_set_ne {cs : Array Value} {i j : Nat} {v : Value} (h : i ≠ j) : (cs.setIfInBounds i v)[j]? = cs[j]? := by
  rw [Array.getElem?_setIfInBounds, if_neg h]
section
variable {cs : Array Value} {load : Int} {sv : Value} {U H : Nat → Int} {M : Nat}
theorem VCs.setUp {p : Nat} (h : VCs cs load sv U H M) (hp : p < 102) (v : Int) : VCs (cs.setIfInBounds (3 + p) (.int .i64 v)) load sv (updF U p v) H M := by
  refine ⟨by simpa using h.size, ?_, ?_, ?_, ?_, ?_⟩
  · rw [get_set_ne (by omega)]; exact h.e0
  · rw [get_set_ne (by omega)]; exact h.e1
  · rw [get_set_ne (by omega)]; exact h.mp
  · intro q hq
    by_cases e : q = p
    · subst e
      rw [Array.getElem?_setIfInBounds, if_pos rfl, if_pos (by have := h.size; omega), updF_same]
    · rw [get_set_ne (by omega), updF_other _ e]; exact h.up q hq
  · intro q hq
    rw [get_set_ne (by omega)]; exact h.hv q hq
theorem VCs.setHv {p : Nat} (h : VCs cs load sv U H M) (hp : p < 101) (v : Int) : VCs (cs.setIfInBounds (105 + p) (.int .i64 v)) load sv U (updF H p v) M := by
  refine ⟨by simpa using h.size, ?_, ?_, ?_, ?_, ?_⟩
  · rw [get_set_ne (by omega)]; exact h.e0
  · rw [get_set_ne (by omega)]; exact h.e1
  · rw [get_set_ne (by omega)]; exact h.mp
  · intro q hq
    rw [get_set_ne (by omega)]; exact h.up q hq
  · intro q hq
    by_cases e : q = p
    · subst e
      rw [Array.getElem?_setIfInBounds, if_pos rfl, if_pos (by have := h.size; omega), updF_same]
    · rw [get_set_ne (by omega), updF_other _ e]; exact h.hv q hq
theorem VCs.setYard (h : VCs cs load sv U H M) (load' : Int) (sv' : Value) : VCs ((cs.setIfInBounds 0 (.int .i64 load')).setIfInBounds 1 sv') load' sv' U H M := by
  have hs := h.size
  refine ⟨by simpa using h.size, ?_, ?_, ?_, ?_, ?_⟩
  · rw [get_set_ne (by omega), Array.getElem?_setIfInBounds, if_pos rfl, if_pos (by omega)]
  · rw [Array.getElem?_setIfInBounds, if_pos rfl, if_pos (by simp; omega)]
  · rw [get_set_ne (by omega), get_set_ne (by omega)]; exact h.mp
  · intro q hq
    rw [get_set_ne (by omega), get_set_ne (by omega)]; exact h.up q hq
  · intro q hq
    rw [get_set_ne (by omega), get_set_ne (by omega)]; exact h.hv q hq
end
/-- The logs of a yard, in a block that is older than n₀ and neither T nor M. -/
def LogsIn (w : World) (n₀ T M : Nat) (sv : Value) (ls : List (Int × Int)) : Prop :=
  ∃ a cap, sv = .slice a ls.length cap ∧ (ls ≠ [] → ∃ b off, a = some ⟨b, off, none⟩ ∧ (b < n₀ ∧ b ≠ T ∧ b ≠ M) ∧ ∀ i (h : i < ls.length), w.cell? ⟨b, off + i * 2, none⟩ = some (.int .i64 ls[i].1) ∧ w.cell? ⟨b, off + i * 2 + 1, none⟩ = some (.int .i64 ls[i].2))
theorem LogsIn.pairs {w : World} {n₀ T M : Nat} {sv : Value} {ls : List (Int × Int)} (h : LogsIn w n₀ T M sv ls) : PairsAt w sv ls := by
  obtain ⟨a, cap, e, h⟩ := h
  exact ⟨a, cap, e, fun hn => let ⟨b, off, ea, _, hc⟩ := h hn; ⟨b, off, ea, hc⟩⟩
theorem LogsIn.move {w w' : World} {n₀ T M : Nat} {sv : Value} {ls : List (Int × Int)} (h : LogsIn w n₀ T M sv ls) (hb : ∀ k, k < n₀ → k ≠ T → k ≠ M → w'.heap[k]? = w.heap[k]?) : LogsIn w' n₀ T M sv ls := by
  obtain ⟨a, cap, e, h⟩ := h
  refine ⟨a, cap, e, fun hn => ?_⟩
  obtain ⟨b, off, ea, ⟨h1, h2, h3⟩, hc⟩ := h hn
  refine ⟨b, off, ea, ⟨h1, h2, h3⟩, fun i hi => ?_⟩
  obtain ⟨c1, c2⟩ := hc i hi
  have e : ∀ o, w'.cell? ⟨b, o, none⟩ = w.cell? ⟨b, o, none⟩ := fun o => World.cell?_of_block (hb b h1 h2 h3)
  exact ⟨(e _).trans c1, (e _).trans c2⟩
theorem LogsIn.get {w : World} {n₀ T M : Nat} {a : Option Addr} {n cap : Nat} {ls : List (Int × Int)} (h : LogsIn w n₀ T M (.slice a n cap) ls) (k : Nat) (hk : k < ls.length) : ∃ b off, a = some ⟨b, off, none⟩ ∧ (b < n₀ ∧ b ≠ T ∧ b ≠ M) ∧ w.cell? ⟨b, off + k * 2, none⟩ = some (.int .i64 ls[k].1) ∧ w.cell? ⟨b, off + k * 2 + 1, none⟩ = some (.int .i64 ls[k].2) := by
  obtain ⟨a', cap', e, h⟩ := h
  cases e
  obtain ⟨b, off, ea, hb, hc⟩ := h (fun e => by subst e; exact absurd hk (Nat.not_lt_zero _))
  exact ⟨b, off, ea, hb, hc k hk⟩
theorem LogsIn.slice {w : World} {n₀ T M : Nat} {sv : Value} {ls : List (Int × Int)} (h : LogsIn w n₀ T M sv ls) : ∃ a cap, sv = .slice a ls.length cap := let ⟨a, cap, e, _⟩ := h; ⟨a, cap, e⟩
/-- A vat at T (its map is M, the blocks of both and of its logs below n₀). -/
def VatAt (w : World) (n₀ T M : Nat) (y : YardD) (sv : Value) (U H : Nat → Int) : Prop :=
  ∃ cs, Blk w T (.cells cs 78) ∧ VCs cs y.load sv U H M ∧ LogsIn w n₀ T M sv y.logs ∧ (T < n₀ ∧ M < n₀ ∧ T ≠ M)
section
variable {w w' : World} {n₀ T M : Nat} {y : YardD} {sv : Value} {U H : Nat → Int}
theorem VatAt.load (h : VatAt w n₀ T M y sv U H) : w.cell? ⟨T, 0, none⟩ = some (.int .i64 y.load) := by
  obtain ⟨cs, h1, h2, _⟩ := h
  exact (h1.cell 0).trans h2.e0
theorem VatAt.sl (h : VatAt w n₀ T M y sv U H) : w.cell? ⟨T, 1, none⟩ = some sv := by
  obtain ⟨cs, h1, h2, _⟩ := h
  exact (h1.cell 1).trans h2.e1
theorem VatAt.mp (h : VatAt w n₀ T M y sv U H) : w.cell? ⟨T, 2, none⟩ = some (.map (some M)) := by
  obtain ⟨cs, h1, h2, _⟩ := h
  exact (h1.cell 2).trans h2.mp
theorem VatAt.up (h : VatAt w n₀ T M y sv U H) {p : Nat} (hp : p < 102) : w.cell? ⟨T, 3 + p, none⟩ = some (.int .i64 (U p)) := by
  obtain ⟨cs, h1, h2, _⟩ := h
  exact (h1.cell _).trans (h2.up p hp)
theorem VatAt.hv (h : VatAt w n₀ T M y sv U H) {p : Nat} (hp : p < 101) : w.cell? ⟨T, 105 + p, none⟩ = some (.int .i64 (H p)) := by
  obtain ⟨cs, h1, h2, _⟩ := h
  exact (h1.cell _).trans (h2.hv p hp)
theorem VatAt.logs (h : VatAt w n₀ T M y sv U H) : LogsIn w n₀ T M sv y.logs := by
  obtain ⟨cs, _, _, h, _⟩ := h
  exact h
theorem VatAt.frozen (h : VatAt w n₀ T M y sv U H) (j : Nat) : w.frozen? ⟨T, j, none⟩ = false := by
  obtain ⟨cs, h1, _⟩ := h
  exact h1.frozen j
theorem VatAt.lt (h : VatAt w n₀ T M y sv U H) : T < w.heap.size ∧ T < n₀ ∧ M < n₀ ∧ T ≠ M := by
  obtain ⟨cs, h1, _, _, h4⟩ := h
  exact ⟨h1.lt, h4⟩
theorem VatAt.move (h : VatAt w n₀ T M y sv U H) (hb : ∀ k, k < n₀ → k ≠ M → w'.heap[k]? = w.heap[k]?) : VatAt w' n₀ T M y sv U H := by
  obtain ⟨cs, h1, h2, h3, h4⟩ := h
  exact ⟨cs, (hb T h4.1 h4.2.2).trans h1, h2, h3.move fun k a _ c => hb k a c, h4⟩
theorem VatAt.below (h : VatAt w n₀ T M y sv U H) (hn : n₀ ≤ w.heap.size) (hb : Below w.heap.size w w') : VatAt w' n₀ T M y sv U H := h.move fun k hk _ => hb.block k (by omega)
theorem VatAt.new (h : VatAt w n₀ T M y sv U H) {b j : Nat} (hb : n₀ ≤ b) (v : Value) : VatAt (w.setCell ⟨b, j, none⟩ v) n₀ T M y sv U H := h.move fun k hk _ => Below.heap_setCell _ _ _ _ (by simp; omega)
theorem VatAt.putM (h : VatAt w n₀ T M y sv U H) (o : Obj) : VatAt (w.putObj M o) n₀ T M y sv U H := h.move fun _ _ hM => World.putObj_heap_other (fun e => hM e)
theorem VatAt.keeps {B : Nat} (h : VatAt w n₀ T M y sv U H) (hn : n₀ ≤ B) (hs : n₀ ≤ w.heap.size) (hb : KeepsB B w w') : VatAt w' n₀ T M y sv U H := h.move fun k hk _ => by
  have hlt : k < w.heap.size := by omega
  rw [hb.same k w.heap[k] (Array.getElem?_eq_getElem hlt) (.inl (by omega)), Array.getElem?_eq_getElem hlt]
theorem VatAt.more (h : VatAt w n₀ T M y sv U H) {n₁ : Nat} (hn : n₀ ≤ n₁) : VatAt w n₁ T M y sv U H := by
  obtain ⟨cs, h1, h2, ⟨a, cap, e, h3⟩, h4⟩ := h
  exact ⟨cs, h1, h2, ⟨a, cap, e, fun hne => let ⟨b, off, ea, hb, hc⟩ := h3 hne; ⟨b, off, ea, ⟨by omega, hb.2⟩, hc⟩⟩, by omega, by omega, h4.2.2⟩
theorem VatAt.setUp (h : VatAt w n₀ T M y sv U H) {p : Nat} (hp : p < 102) (v : Int) : VatAt (w.setCell ⟨T, 3 + p, none⟩ (.int .i64 v)) n₀ T M y sv (updF U p v) H := by
  obtain ⟨cs, h1, h2, h3, h4⟩ := h
  exact ⟨_, h1.set _, h2.setUp hp v, h3.move fun k _ hT _ => Below.heap_setCell _ _ _ _ (by simpa using hT), h4⟩
theorem VatAt.setHv (h : VatAt w n₀ T M y sv U H) {p : Nat} (hp : p < 101) (v : Int) : VatAt (w.setCell ⟨T, 105 + p, none⟩ (.int .i64 v)) n₀ T M y sv U (updF H p v) := by
  obtain ⟨cs, h1, h2, h3, h4⟩ := h
  exact ⟨_, h1.set _, h2.setHv hp v, h3.move fun k _ hT _ => Below.heap_setCell _ _ _ _ (by simpa using hT), h4⟩
theorem VatAt.same (h : VatAt w n₀ T M y sv U H) {U' H' : Nat → Int} (hU : ∀ p, p < 102 → U p = U' p) (hH : ∀ p, p < 101 → H p = H' p) : VatAt w n₀ T M y sv U' H' := by
  obtain ⟨cs, h1, h2, h3, h4⟩ := h
  exact ⟨cs, h1, ⟨h2.size, h2.e0, h2.e1, h2.mp, fun p hp => by rw [← hU p hp]; exact h2.up p hp, fun p hp => by rw [← hH p hp]; exact h2.hv p hp⟩, h3, h4⟩
end

/-! ## What else stays: all but T and M -/
section
variable {w W W' : World} {T M : Nat}
theorem FrLM.refl (w : World) (T M : Nat) : FrLM w T M w := ⟨Nat.le_refl _, fun _ _ _ _ => rfl, rfl, rfl, rfl⟩
theorem FrLM.below (h : FrLM w T M W) (hb : Below W.heap.size W W') : FrLM w T M W' :=
  ⟨Nat.le_trans h.size hb.size, fun k hk h1 h2 => (hb.block k (Nat.lt_of_lt_of_le hk h.size)).trans (h.same k hk h1 h2), hb.os.trans h.os, hb.tape.trans h.tape, hb.output.trans h.output⟩
theorem FrLM.setT (h : FrLM w T M W) (j : Nat) (v : Value) : FrLM w T M (W.setCell ⟨T, j, none⟩ v) :=
  ⟨by simpa [World.setCell] using h.size, fun k hk h1 h2 => (Below.heap_setCell _ _ _ _ (by simp; omega)).trans (h.same k hk h1 h2), h.os, h.tape, h.output⟩
theorem FrLM.new (h : FrLM w T M W) {b : Nat} (hb : w.heap.size ≤ b) (j : Nat) (v : Value) : FrLM w T M (W.setCell ⟨b, j, none⟩ v) :=
  ⟨by simpa [World.setCell] using h.size, fun k hk h1 h2 => (Below.heap_setCell _ _ _ _ (by simp; omega)).trans (h.same k hk h1 h2), h.os, h.tape, h.output⟩
theorem FrLM.putM (h : FrLM w T M W) (o : Obj) : FrLM w T M (W.putObj M o) :=
  ⟨by simpa using h.size, fun k hk h1 h2 => (World.putObj_heap_other h2).trans (h.same k hk h1 h2), h.os, h.tape, h.output⟩
theorem FrLM.keeps {B : Nat} (h : FrLM w T M W) (hB : w.heap.size ≤ B) (hk : KeepsB B W W') : FrLM w T M W' :=
  ⟨Nat.le_trans h.size hk.size, fun k hk' h1 h2 => by
    have hlt : k < W.heap.size := Nat.lt_of_lt_of_le hk' h.size
    have e : W'.heap[k]? = W.heap[k]? := by rw [hk.same k W.heap[k] (Array.getElem?_eq_getElem hlt) (.inl (by omega)), Array.getElem?_eq_getElem hlt]
    exact e.trans (h.same k hk' h1 h2), hk.os.trans h.os, hk.tape.trans h.tape, hk.output.trans h.output⟩
theorem FrLM.trans {W2 : World} (h : FrLM w T M W) (h2 : FrLM W T M W2) : FrLM w T M W2 :=
  ⟨Nat.le_trans h.size h2.size, fun k hk a b => (h2.same k (Nat.lt_of_lt_of_le hk h.size) a b).trans (h.same k hk a b), h2.os.trans h.os, h2.tape.trans h.tape, h2.output.trans h.output⟩
theorem MapIs.keeps {B : Nat} {f : SK → Int} {S : SK → Prop} (h : MapIs W M f S) (hM : M < B) (hk : KeepsB B W W') : MapIs W' M f S := by
  refine h.of_block ?_
  have hlt := h.lt
  rw [hk.same M W.heap[M] (Array.getElem?_eq_getElem hlt) (.inl hM), Array.getElem?_eq_getElem hlt]
end
end Go.Proofs.Ytjbeoakikdkdaaa

namespace Go.Proofs.Ytjbeoakikdkdaaa
open Go.RowKit Go.Vat Go.Sort Go.Shelf
attribute [local go_sem] Oper.semAt_some

/-! ## The vat: what windows need -/
theorem up_tdiv {n m : Int} (h : 0 ≤ n) (hm : 1 ≤ m) : (n + m - 1).tdiv m = up n m := by
  unfold up
  exact Int.tdiv_eq_ediv_of_nonneg (by omega)
set_option maxHeartbeats 2000000 in
theorem loadsFor_any (n₀ T M : Nat) (y : YardD) (u : Value) (U H : Nat → Int) (n : Int) (w : World) (hV : VatAt w n₀ T M y u U H) (hy : y.Ok) (h0 : 0 ≤ n) (h1 : n ≤ 1000) :
    Calls Try.prog 79 #[.pointer (some ⟨T, 0, none⟩), .int .i64 n] w fun e w' => e = .returned (.int .i64 (up n y.load)) ∧ Below w.heap.size w w' := by
  have hl1 := hy.l1
  have hl2 := hy.l2
  have HQ := Lib.hid (up_tdiv h0 hl1)
  have c0 := hV.load
  have ww : IntKind.i64.wrap (n + y.load) = n + y.load := IntWalk.i64_in _ (by omega)
  have ww2 : IntKind.i64.wrap (n + y.load - 1) = n + y.load - 1 := IntWalk.i64_in _ (by omega)
  have h5 : (n + y.load - 1).tdiv y.load ≤ 2000 ∧ 0 ≤ (n + y.load - 1).tdiv y.load := by
    rw [HQ.out]
    have := up_le_self hl1 h0
    have := up_nonneg hl1 h0
    omega
  obtain ⟨q, hq⟩ : ∃ q, (n + y.load - 1).tdiv y.load = q := ⟨_, rfl⟩
  rw [hq] at h5
  have HE := Lib.hid (show q = up n y.load by rw [← hq]; exact HQ.out)
  have wq : IntKind.i64.wrap q = q := IntWalk.i64_in _ (by omega)
  have hq2 : (n + y.load - 1) / y.load = q := by rw [← hq, Int.tdiv_eq_ediv_of_nonneg (by omega)]
  clear hV hy
  go_enter Try.func79, Try.ntmps79
  go_wp2_with fail
  go_quiet (fail)
  go_wp2
  go_ret
  exact ⟨ret_int (by rw [← HE.out]), below_drewN (Below.refl _ _) _⟩
theorem inW_okInts {a b : Int} {l : Int × Int} (h : l.1 ≤ l.2) : okInts a b [l.1, l.2] = inW a b l := by
  unfold inW okInts
  simp only [List.all_cons, List.all_nil, Bool.and_true]
  by_cases h1 : a ≤ l.1
  · by_cases h2 : l.2 ≤ b
    · rw [decide_eq_true h1, decide_eq_true h2, decide_eq_true (show l.1 ≤ b by omega), decide_eq_true (show a ≤ l.2 by omega)]; rfl
    · rw [decide_eq_false h2]; simp
  · rw [decide_eq_false h1]; rfl
theorem countP_take {α : Type} {p : α → Bool} {l : List α} {k : Nat} (h : k < l.length) : (l.take (k + 1)).countP p = (l.take k).countP p + if p l[k] = true then 1 else 0 := by
  rw [List.take_succ_eq_append_getElem h, List.countP_append, List.countP_cons, List.countP_nil]
  omega
set_option maxRecDepth 100000 in
set_option maxHeartbeats 4000000 in
theorem need_any (n₀ T M : Nat) (y : YardD) (u : Value) (U H : Nat → Int) (a b : Int) (w : World) (hV : VatAt w n₀ T M y u U H) (hy : y.Ok) (hn : n₀ ≤ w.heap.size) :
    Calls Try.prog 58 #[.pointer (some ⟨T, 0, none⟩), .agg #[.int .i64 a, .int .i64 b]] w fun e w' => e = .returned (.int .i64 (need y a b)) ∧ Below w.heap.size w w' := by
  obtain ⟨sa, cap, rfl⟩ := hV.logs.slice
  have hl10 := hy.count
  have HY := Lib.hid hy
  have c1 := hV.sl
  have HV := Lib.hid hV
  have bX := Blk.new w (.cells #[.int .i64 a, .int .i64 b] 27)
  have hB0 := below1 w (.cells #[.int .i64 a, .int .i64 b] 27)
  have HB0 := Lib.hid hB0
  have HX := Lib.hid bX
  have HTl := hV.lt.1
  clear hV hy bX
  go_enter Try.func58, Try.ntmps58
  go_wp2
  clear c1
  generalize w.alloc (.cells #[.int .i64 a, .int .i64 b] 27) = W0 at *
  go_loopw [5, 7, 14] (fun m _ i wr => ∃ k : Nat, k ≤ y.logs.length ∧ i = .int .i64 k ∧ m = .int .i64 (((y.logs.take k).countP (inW a b) : Nat) : Int) ∧ Below W0.heap.size W0 wr) (fun _ _ i _ => y.logs.length - (intOf i).toNat)
  case atStart => exact ⟨0, Nat.zero_le _, rfl, rfl, Below.refl _ _⟩
  case round =>
    obtain ⟨k, hk, rfl, rfl, hB⟩ := hrel
    have HB := Lib.hid hB
    have hcl : (y.logs.take k).countP (inW a b) ≤ 10 := by
      have := List.countP_le_length (p := inW a b) (l := y.logs.take k)
      have := List.length_take_le k y.logs
      omega
    have hBW := bC HB0.out hB
    have HVw := Lib.hid (HV.out.below hn hBW)
    have x0 := (HX.out.below hB).cell 0
    have x1 := (HX.out.below hB).cell 1
    simp at x0 x1
    have hz1 := hBW.size
    have hz0 := hB.size
    have hz2 : w.heap.size < wr.heap.size := by have := HX.out.lt; omega
    obtain ⟨cn, hcn⟩ : ∃ c, (y.logs.take k).countP (inW a b) = c := ⟨_, rfl⟩
    rw [hcn] at hcl ⊢
    have HCN := Lib.hid hcn
    clear hB hBW hcn
    by_cases hlt : k < y.logs.length
    · obtain ⟨lb, off, hsa, ⟨hb1, hb2, hb3⟩, hc, hc'⟩ := HVw.out.logs.get k hlt
      subst hsa
      have hlg := HY.out.log _ (List.getElem_mem hlt)
      have HCT := Lib.hid (countP_take (p := inW a b) hlt)
      have HIN := Lib.hid (inW_okInts (a := a) (b := b) hlg.2.1)
      obtain ⟨l1, hl1⟩ : ∃ x, y.logs[k].1 = x := ⟨_, rfl⟩
      obtain ⟨l2, hl2⟩ : ∃ x, y.logs[k].2 = x := ⟨_, rfl⟩
      rw [hl1] at hc
      rw [hl2] at hc'
      have HL1 := Lib.hid hl1
      have HL2 := Lib.hid hl2
      clear hlg hl1 hl2
      have lbw : lb < wr.heap.size := by omega
      go_wp2_with fail
      refine (within_any a b _ [l1, l2] _ (IntsAt.mk2 (by go_simp) (by go_simp)) (by simp)).mono ?_
      rintro e w' ⟨rfl, rfl⟩
      have hin : okInts a b [l1, l2] = inW a b y.logs[k] := by rw [← HL1.out, ← HL2.out]; exact HIN.out
      rw [hin]
      clear hin x0 x1 hc hc'
      cases hq : inW a b y.logs[k] with
      | true =>
        have HQ := Lib.hid hq
        clear hq
        go_wp2
        go_roundw
        case rel => exact ⟨k + 1, by omega, by go_num, by rw [HCT.out, HCN.out, HQ.out]; go_num, (HB.out.alloc hz0 _).alloc (by simp; omega) _⟩
        case measure => simp [intOf]; omega
      | false =>
        have HQ := Lib.hid hq
        clear hq
        go_wp2
        go_roundw
        case rel => exact ⟨k + 1, by omega, by go_num, by rw [HCT.out, HCN.out, HQ.out]; simp, (HB.out.alloc hz0 _).alloc (by simp; omega) _⟩
        case measure => simp [intOf]; omega
    · obtain rfl : k = y.logs.length := by omega
      rw [List.take_length] at HCN
      clear x0 x1
      go_wp2_with fail
      refine (loadsFor_any n₀ T M y _ U H (cn : Int) _ HVw.out HY.out (by omega) (by omega)).mono ?_
      rintro e w' ⟨rfl, hb⟩
      go_wp2
      go_ret
      refine ⟨ret_int ?_, bC (bC HB0.out HB.out) hb⟩
      unfold need cnt
      rw [HCN.out]
set_option maxRecDepth 100000 in
set_option maxHeartbeats 4000000 in
theorem provenWith_any (n₀ T M : Nat) (y : YardD) (u : Value) (U H : Nat → Int) (a : Nat) (b : Int) (f : SK → Int) (S : SK → Prop) (w : World) (hV : VatAt w n₀ T M y u U H) (hn : n₀ ≤ w.heap.size) (hM : MapIs w M f S) (hS : ¬ S ((a : Int), b) → f ((a : Int), b) = 0) (ha : a ≤ 101)
    (hU : 0 ≤ U a ∧ U a ≤ 1000) (hf : 0 ≤ f ((a : Int), b) ∧ f ((a : Int), b) ≤ 1000) :
    Calls Try.prog 83 #[.pointer (some ⟨T, 0, none⟩), .agg #[.int .i64 a, .int .i64 b]] w fun e w' => e = .returned (.int .i64 (U a + f ((a : Int), b))) ∧ Below w.heap.size w w' := by
  obtain ⟨fv, hfv⟩ : ∃ x, f ((a : Int), b) = x := ⟨_, rfl⟩
  obtain ⟨uv, huv⟩ : ∃ x, U a = x := ⟨_, rfl⟩
  have hB0 := below1 w (.cells #[.int .i64 a, .int .i64 b] 27)
  have bX := Blk.new w (.cells #[.int .i64 a, .int .i64 b] 27)
  have hV0 := hV.below hn hB0
  have hM0 := hM.below hB0
  have hlk : ∀ k, (Instr.lookup 73 (.map (some M)) (.agg #[.int .i64 a, .int .i64 b]) false).run Try.prog ((w.alloc (.cells #[.int .i64 a, .int .i64 b] 27)).drewN k) = .ok (.int .i64 fv) ((w.alloc (.cells #[.int .i64 a, .int .i64 b] 27)).drewN k) := fun k => by
    have hMk : MapIs ((w.alloc (.cells #[.int .i64 a, .int .i64 b] 27)).drewN k) M f S := hM0.of_block rfl
    by_cases c : S ((a : Int), b)
    · rw [← hfv]; exact hMk.look_yes ((a : Int), b) c
    · rw [← hfv, hS c]; exact hMk.look_no ((a : Int), b) c
  have c2 := hV0.mp
  have cu := hV0.up (p := a) (by omega)
  have hTl := hV0.lt.1
  rw [huv] at cu hU
  rw [hfv] at hf
  have ww : IntKind.i64.wrap (uv + fv) = uv + fv := IntWalk.i64_in _ (by omega)
  have HE := Lib.hid (show uv + fv = U a + f ((a : Int), b) by rw [huv, hfv])
  obtain ⟨hu0, hu1⟩ := hU
  obtain ⟨hf0, hf1⟩ := hf
  clear hfv huv hM hS hV hM0 hV0
  go_enter Try.func83, Try.ntmps83
  go_wp2_with fail
  generalize w.alloc (.cells #[.int .i64 a, .int .i64 b] 27) = W0 at *
  have x0 := bX.cell 0
  have x1 := bX.cell 1
  simp at x0 x1
  have ha102 : (a : Int) < 102 := by omega
  go_quiet (fail)
  go_wp2
  go_ret
  exact ⟨ret_int HE.out, below_drewN hB0 _⟩
end Go.Proofs.Ytjbeoakikdkdaaa
