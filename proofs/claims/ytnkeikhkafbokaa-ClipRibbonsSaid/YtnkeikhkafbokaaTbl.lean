import Derived.Test.YtnkeikhkafbokaaProgE
import Derived.Test.YtnkeikhkafbokaaMapT
namespace Go.Proofs.Ytnkeikhkafbokaa
open Go.RowKit Go.Dag

/-! ## The table's block, cell by cell -/
structure TCs (cs : Array Value) (len : Int) (sv kv fv : Value) (U Y : Nat → Int) (M : Nat) : Prop where
  size : cs.size = 55
  e0 : cs[0]? = some (.int .i64 len)
  e1 : cs[1]? = some sv
  e2 : cs[2]? = some kv
  e3 : cs[3]? = some fv
  up : ∀ p, p < 25 → cs[4 + p]? = some (.int .i64 (U p))
  wy : ∀ p, p < 25 → cs[29 + p]? = some (.int .i64 (Y p))
  mp : cs[54]? = some (.map (some M))
theorem get_set_ne {cs : Array Value} {i j : Nat} {v : Value} (h : i ≠ j) : (cs.setIfInBounds i v)[j]? = cs[j]? := by
  rw [Array.getElem?_setIfInBounds, if_neg h]
theorem TCs.setUp {cs : Array Value} {len : Int} {sv kv fv : Value} {U Y : Nat → Int} {M p : Nat} (h : TCs cs len sv kv fv U Y M) (hp : p < 25) (v : Int) : TCs (cs.setIfInBounds (4 + p) (.int .i64 v)) len sv kv fv (updF U p v) Y M := by
  refine ⟨by simpa using h.size, ?_, ?_, ?_, ?_, ?_, ?_, ?_⟩
  · rw [get_set_ne (by omega)]; exact h.e0
  · rw [get_set_ne (by omega)]; exact h.e1
  · rw [get_set_ne (by omega)]; exact h.e2
  · rw [get_set_ne (by omega)]; exact h.e3
  · intro q hq
    by_cases e : q = p
    · subst e
      rw [Array.getElem?_setIfInBounds, if_pos rfl, if_pos (by have := h.size; omega), updF_same]
    · rw [get_set_ne (by omega), updF_other _ e]; exact h.up q hq
  · intro q hq
    rw [get_set_ne (by omega)]; exact h.wy q hq
  · rw [get_set_ne (by omega)]; exact h.mp
theorem TCs.setWy {cs : Array Value} {len : Int} {sv kv fv : Value} {U Y : Nat → Int} {M p : Nat} (h : TCs cs len sv kv fv U Y M) (hp : p < 25) (v : Int) : TCs (cs.setIfInBounds (29 + p) (.int .i64 v)) len sv kv fv U (updF Y p v) M := by
  refine ⟨by simpa using h.size, ?_, ?_, ?_, ?_, ?_, ?_, ?_⟩
  · rw [get_set_ne (by omega)]; exact h.e0
  · rw [get_set_ne (by omega)]; exact h.e1
  · rw [get_set_ne (by omega)]; exact h.e2
  · rw [get_set_ne (by omega)]; exact h.e3
  · intro q hq
    rw [get_set_ne (by omega)]; exact h.up q hq
  · intro q hq
    by_cases e : q = p
    · subst e
      rw [Array.getElem?_setIfInBounds, if_pos rfl, if_pos (by have := h.size; omega), updF_same]
    · rw [get_set_ne (by omega), updF_other _ e]; exact h.wy q hq
  · rw [get_set_ne (by omega)]; exact h.mp
structure TbIn (w : World) (n₀ T M : Nat) (r : RibD) (ks : List KindD) (U Y : Nat → Int) (cs : Array Value) (sv : Value) (kb koff kcap q mb moff mcap : Nat) : Prop where
  blk : Blk w T (.cells cs 84)
  tcs : TCs cs r.len sv (.slice (some ⟨kb, koff, none⟩) ks.length kcap) (sumsV q) U Y M
  kin : ∀ i (h : i < ks.length), w.cell? ⟨kb, koff + i * 3, none⟩ = some (.int .i64 ks[i].w) ∧ w.cell? ⟨kb, koff + i * 3 + 1, none⟩ = some (.int .i64 ks[i].p) ∧ w.cell? ⟨kb, koff + i * 3 + 2, none⟩ = some (.int .i64 ks[i].m)
  qc : w.cell? ⟨q, 0, none⟩ = some (.slice (some ⟨mb, moff, none⟩) (marks r).length mcap)
  mc : ∀ i (h : i < (marks r).length), w.cell? ⟨mb, moff + i, none⟩ = some (.int .i64 (marks r)[i])
  cap : (marks r).length ≤ mcap
  cap2 : mcap ≤ 1000000
  nk : kb ≠ T ∧ kb ≠ M ∧ kb < n₀
  nq : q ≠ T ∧ q ≠ M ∧ q < n₀
  nm : mb ≠ T ∧ mb ≠ M ∧ mb < n₀
  nT : T < n₀ ∧ M < n₀ ∧ T ≠ M
/-- A table at T (its map is M, all of its blocks below n₀), with its numbers: what cuts up to a place are worth, in how many ways they go on. -/
def TbAt (w : World) (n₀ T M : Nat) (r : RibD) (ks : List KindD) (U Y : Nat → Int) : Prop := ∃ cs sv kb koff kcap q mb moff mcap, TbIn w n₀ T M r ks U Y cs sv kb koff kcap q mb moff mcap
section
variable {w w' : World} {n₀ T M : Nat} {r : RibD} {ks : List KindD} {U Y : Nat → Int}
theorem TbAt.tab (h : TbAt w n₀ T M r ks U Y) : TabAt w T M r ks := by
  obtain ⟨cs, sv, kb, koff, kcap, q, mb, moff, mcap, h⟩ := h
  exact ⟨kb, koff, kcap, q, mb, moff, mcap, (h.blk.cell 0).trans h.tcs.e0, (h.blk.cell 2).trans h.tcs.e2, (h.blk.cell 3).trans h.tcs.e3, h.kin, h.qc, h.mc, h.cap, h.cap2, ⟨h.nk.1, h.nk.2.1⟩, ⟨h.nq.1, h.nq.2.1⟩, ⟨h.nm.1, h.nm.2.1⟩⟩
theorem TbAt.up (h : TbAt w n₀ T M r ks U Y) : UpAt w T U := by
  obtain ⟨cs, sv, kb, koff, kcap, q, mb, moff, mcap, h⟩ := h
  exact fun p hp => (h.blk.cell _).trans (h.tcs.up p hp)
theorem TbAt.wy (h : TbAt w n₀ T M r ks U Y) {p : Nat} (hp : p < 25) : w.cell? ⟨T, 29 + p, none⟩ = some (.int .i64 (Y p)) := by
  obtain ⟨cs, sv, kb, koff, kcap, q, mb, moff, mcap, h⟩ := h
  exact (h.blk.cell _).trans (h.tcs.wy p hp)
theorem TbAt.len (h : TbAt w n₀ T M r ks U Y) : w.cell? ⟨T, 0, none⟩ = some (.int .i64 r.len) := by
  obtain ⟨cs, sv, kb, koff, kcap, q, mb, moff, mcap, h⟩ := h
  exact (h.blk.cell _).trans h.tcs.e0
theorem TbAt.mp (h : TbAt w n₀ T M r ks U Y) : w.cell? ⟨T, 54, none⟩ = some (.map (some M)) := by
  obtain ⟨cs, sv, kb, koff, kcap, q, mb, moff, mcap, h⟩ := h
  exact (h.blk.cell _).trans h.tcs.mp
theorem TbAt.frozen (h : TbAt w n₀ T M r ks U Y) (j : Nat) : w.frozen? ⟨T, j, none⟩ = false := by
  obtain ⟨cs, sv, kb, koff, kcap, q, mb, moff, mcap, h⟩ := h
  exact h.blk.frozen j
theorem TbAt.lt (h : TbAt w n₀ T M r ks U Y) : T < w.heap.size ∧ T < n₀ ∧ M < n₀ ∧ T ≠ M := by
  obtain ⟨cs, sv, kb, koff, kcap, q, mb, moff, mcap, h⟩ := h
  exact ⟨h.blk.lt, h.nT⟩
theorem TbAt.move (h : TbAt w n₀ T M r ks U Y) (hb : ∀ k, k < n₀ → k ≠ M → w'.heap[k]? = w.heap[k]?) : TbAt w' n₀ T M r ks U Y := by
  obtain ⟨cs, sv, kb, koff, kcap, q, mb, moff, mcap, h⟩ := h
  have c : ∀ {b o : Nat} {v : Value}, b < n₀ → b ≠ M → w.cell? ⟨b, o, none⟩ = some v → w'.cell? ⟨b, o, none⟩ = some v := fun h1 h2 h3 => by
    rw [← h3]; exact World.cell?_of_block (hb _ h1 h2)
  exact ⟨cs, sv, kb, koff, kcap, q, mb, moff, mcap, (hb T h.nT.1 h.nT.2.2).trans h.blk, h.tcs, fun i hi => ⟨c h.nk.2.2 h.nk.2.1 (h.kin i hi).1, c h.nk.2.2 h.nk.2.1 (h.kin i hi).2.1, c h.nk.2.2 h.nk.2.1 (h.kin i hi).2.2⟩,
    c h.nq.2.2 h.nq.2.1 h.qc, fun i hi => c h.nm.2.2 h.nm.2.1 (h.mc i hi), h.cap, h.cap2, h.nk, h.nq, h.nm, h.nT⟩
theorem TbAt.below (h : TbAt w n₀ T M r ks U Y) (hn : n₀ ≤ w.heap.size) (hb : Below w.heap.size w w') : TbAt w' n₀ T M r ks U Y := h.move fun k hk _ => hb.block k (by omega)
theorem TbAt.below' {B : Nat} (h : TbAt w n₀ T M r ks U Y) (hn : n₀ ≤ B) (hb : Below B w w') : TbAt w' n₀ T M r ks U Y := h.move fun k hk _ => hb.block k (by omega)
theorem TbAt.new (h : TbAt w n₀ T M r ks U Y) {b j : Nat} (hb : n₀ ≤ b) (v : Value) : TbAt (w.setCell ⟨b, j, none⟩ v) n₀ T M r ks U Y := h.move fun k hk _ => Below.heap_setCell _ _ _ _ (by simp; omega)
theorem TbAt.putM (h : TbAt w n₀ T M r ks U Y) (o : Obj) : TbAt (w.putObj M o) n₀ T M r ks U Y := h.move fun _ _ hM => World.putObj_heap_other (fun e => hM e)
theorem TbAt.keeps {B : Nat} (h : TbAt w n₀ T M r ks U Y) (hn : n₀ ≤ B) (hs : n₀ ≤ w.heap.size) (hb : KeepsB B w w') : TbAt w' n₀ T M r ks U Y := h.move fun k hk _ => by
  have hlt : k < w.heap.size := by omega
  rw [hb.same k w.heap[k] (Array.getElem?_eq_getElem hlt) (.inl (by omega)), Array.getElem?_eq_getElem hlt]
theorem TbAt.setUp (h : TbAt w n₀ T M r ks U Y) {p : Nat} (hp : p < 25) (v : Int) : TbAt (w.setCell ⟨T, 4 + p, none⟩ (.int .i64 v)) n₀ T M r ks (updF U p v) Y := by
  obtain ⟨cs, sv, kb, koff, kcap, q, mb, moff, mcap, h⟩ := h
  exact ⟨_, sv, kb, koff, kcap, q, mb, moff, mcap, h.blk.set _, h.tcs.setUp hp v, fun i hi => ⟨cell_other (h.kin i hi).1 h.nk.1, cell_other (h.kin i hi).2.1 h.nk.1, cell_other (h.kin i hi).2.2 h.nk.1⟩, cell_other h.qc h.nq.1, fun i hi => cell_other (h.mc i hi) h.nm.1, h.cap, h.cap2, h.nk, h.nq, h.nm, h.nT⟩
theorem TbAt.setWy (h : TbAt w n₀ T M r ks U Y) {p : Nat} (hp : p < 25) (v : Int) : TbAt (w.setCell ⟨T, 29 + p, none⟩ (.int .i64 v)) n₀ T M r ks U (updF Y p v) := by
  obtain ⟨cs, sv, kb, koff, kcap, q, mb, moff, mcap, h⟩ := h
  exact ⟨_, sv, kb, koff, kcap, q, mb, moff, mcap, h.blk.set _, h.tcs.setWy hp v, fun i hi => ⟨cell_other (h.kin i hi).1 h.nk.1, cell_other (h.kin i hi).2.1 h.nk.1, cell_other (h.kin i hi).2.2 h.nk.1⟩, cell_other h.qc h.nq.1, fun i hi => cell_other (h.mc i hi) h.nm.1, h.cap, h.cap2, h.nk, h.nq, h.nm, h.nT⟩
end

/-! ## What else stays: all but T and M -/
section
variable {w W W' : World} {T M : Nat}
theorem FrLM.refl (w : World) (T M : Nat) : FrLM w T M w := ⟨Nat.le_refl _, fun _ _ _ _ => rfl, rfl, rfl, rfl⟩
theorem FrLM.below (h : FrLM w T M W) (hb : Below W.heap.size W W') : FrLM w T M W' :=
  ⟨Nat.le_trans h.size hb.size, fun k hk h1 h2 => (hb.block k (Nat.lt_of_lt_of_le hk h.size)).trans (h.same k hk h1 h2), hb.os.trans h.os, hb.tape.trans h.tape, hb.output.trans h.output⟩
theorem FrLM.setT (h : FrLM w T M W) (j : Nat) (v : Value) : FrLM w T M (W.setCell ⟨T, j, none⟩ v) :=
  ⟨by simpa [World.setCell] using h.size, fun k hk h1 h2 => (Below.heap_setCell _ _ _ _ (by simp; omega)).trans (h.same k hk h1 h2), h.os, h.tape, h.output⟩
theorem FrLM.new (h : FrLM w T M W) {b : Nat} (hb : w.heap.size ≤ b) (j : Nat) (v : Value) : FrLM w T M (W.setCell ⟨b, j, none⟩ v) :=
  ⟨by simpa [World.setCell] using h.size, fun k hk h1 h2 => (Below.heap_setCell _ _ _ _ (by simp; omega)).trans (h.same k hk h1 h2), h.os, h.tape, h.output⟩
theorem FrLM.putM (h : FrLM w T M W) (o : Obj) : FrLM w T M (W.putObj M o) :=
  ⟨by simpa using h.size, fun k hk h1 h2 => (World.putObj_heap_other h2).trans (h.same k hk h1 h2), h.os, h.tape, h.output⟩
theorem FrLM.keeps {B : Nat} (h : FrLM w T M W) (hB : w.heap.size ≤ B) (hk : KeepsB B W W') : FrLM w T M W' :=
  ⟨Nat.le_trans h.size hk.size, fun k hk' h1 h2 => by
    have hlt : k < W.heap.size := Nat.lt_of_lt_of_le hk' h.size
    have e : W'.heap[k]? = W.heap[k]? := by rw [hk.same k W.heap[k] (Array.getElem?_eq_getElem hlt) (.inl (by omega)), Array.getElem?_eq_getElem hlt]
    exact e.trans (h.same k hk' h1 h2), hk.os.trans h.os, hk.tape.trans h.tape, hk.output.trans h.output⟩
theorem MapIs.keeps {B : Nat} {S : SK → Prop} (h : MapIs W M S) (hM : M < B) (hk : KeepsB B W W') : MapIs W' M S := by
  refine h.of_block ?_
  have hlt := h.lt
  rw [hk.same M W.heap[M] (Array.getElem?_eq_getElem hlt) (.inl hM), Array.getElem?_eq_getElem hlt]
end
end Go.Proofs.Ytnkeikhkafbokaa
