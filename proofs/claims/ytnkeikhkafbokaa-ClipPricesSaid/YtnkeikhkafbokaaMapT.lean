import Derived.Test.YtnkeikhkafbokaaMapS
namespace Go.Proofs.Ytnkeikhkafbokaa
open Go.RowKit

/-! ## A map as a set of sheets -/
structure MapIn (W : World) (M : Nat) (S : SK → Prop) (es : List (SK × Value × Nat)) (clock : Nat) : Prop where
  blk : Blk W M (entsO es clock)
  keys : (keysOf es).Nodup
  vals : ∀ e ∈ es, e.2.1 = .bool true
  born : (es.map (·.2.2)).Nodup
  old : ∀ e ∈ es, e.2.2 < clock
  mem : ∀ k, k ∈ keysOf es ↔ S k
def MapIs (W : World) (M : Nat) (S : SK → Prop) : Prop := ∃ es clock, MapIn W M S es clock
section
variable {W W' : World} {M : Nat} {S : SK → Prop}
theorem MapIs.lt (h : MapIs W M S) : M < W.heap.size := by obtain ⟨_, _, h⟩ := h; exact h.blk.lt
theorem MapIs.of_block (h : MapIs W M S) (e : W'.heap[M]? = W.heap[M]?) : MapIs W' M S := by
  obtain ⟨es, c, h⟩ := h
  exact ⟨es, c, ⟨e.trans h.blk, h.keys, h.vals, h.born, h.old, h.mem⟩⟩
theorem MapIs.below (h : MapIs W M S) (hb : Below W.heap.size W W') : MapIs W' M S := h.of_block (hb.block M h.lt)
theorem MapIs.other (h : MapIs W M S) {b j : Nat} (hne : M ≠ b) (v : Value) : MapIs (W.setCell ⟨b, j, none⟩ v) M S := by
  obtain ⟨es, c, h⟩ := h
  exact ⟨es, c, ⟨h.blk.other hne v, h.keys, h.vals, h.born, h.old, h.mem⟩⟩
theorem MapIs.same (h : MapIs W M S) {S' : SK → Prop} (e : ∀ k, S k ↔ S' k) : MapIs W M S' := by
  obtain ⟨es, c, h⟩ := h
  exact ⟨es, c, ⟨h.blk, h.keys, h.vals, h.born, h.old, fun k => (h.mem k).trans (e k)⟩⟩
theorem MapIs.empty (c : Nat) (h : Blk W M (.map #[] c)) : MapIs W M (fun _ => False) :=
  ⟨[], c, ⟨h, List.nodup_nil, (fun e he => by cases he), List.nodup_nil, (fun e he => by cases he), fun k => by simp [keysOf]⟩⟩
theorem MapIs.store (h : MapIs W M S) (k : SK) (hk : ¬ S k) :
    ∃ o, (Instr.mapUpdate 82 (.map (some M)) (pkV k) (.bool true)).run Try.prog W = .ok () (W.putObj M o) ∧ MapIs (W.putObj M o) M (fun x => S x ∨ x = k) := by
  obtain ⟨es, c, h⟩ := h
  have hn : k ∉ keysOf es := fun hh => hk ((h.mem k).1 hh)
  refine ⟨_, run_store_pk h.blk k (.bool true) hn, es ++ [(k, Value.bool true, c)], c + 1, ⟨show Blk (W.putObj M (entsO (es ++ [(k, Value.bool true, c)]) (c + 1))) M (entsO (es ++ [(k, Value.bool true, c)]) (c + 1)) from World.putObj_heap_same h.blk.lt, ?_, ?_, ?_, ?_, ?_⟩⟩
  · unfold keysOf at hn ⊢
    rw [List.map_append]
    exact List.nodup_append.2 ⟨h.keys, by simp, fun a ha b hb => by
      simp only [List.map_cons, List.map_nil, List.mem_singleton] at hb
      subst hb
      exact fun e => hn (e ▸ ha)⟩
  · intro e he
    rcases List.mem_append.1 he with he | he
    · exact h.vals e he
    · simp only [List.mem_singleton] at he; rw [he]
  · rw [List.map_append]
    exact List.nodup_append.2 ⟨h.born, by simp, fun a ha b hb => by
      simp only [List.map_cons, List.map_nil, List.mem_singleton] at hb
      obtain ⟨e, he, rfl⟩ := List.mem_map.1 ha
      have := h.old e he
      omega⟩
  · intro e he
    rcases List.mem_append.1 he with he | he
    · have := h.old e he; omega
    · simp only [List.mem_singleton] at he; rw [he]; simp
  · intro x
    unfold keysOf
    rw [List.map_append, List.mem_append]
    have := h.mem x
    unfold keysOf at this
    rw [this]
    simp
theorem MapIs.look_yes (h : MapIs W M S) (k : SK) (hk : S k) : (Instr.lookup 82 (.map (some M)) (pkV k) false).run Try.prog W = .ok (.bool true) W := by
  obtain ⟨es, c, h⟩ := h
  rw [run_look_pk h.blk k]
  obtain ⟨j, e, h1, h2, h3, _⟩ := findE_some (i := 0) ((h.mem k).2 hk)
  rw [h3]
  simp only
  rw [h.vals e (List.mem_of_getElem? h1)]
theorem MapIs.look_no (h : MapIs W M S) (k : SK) (hk : ¬ S k) : (Instr.lookup 82 (.map (some M)) (pkV k) false).run Try.prog W = .ok (.bool false) W := by
  obtain ⟨es, c, h⟩ := h
  rw [run_look_pk h.blk k, findE_none (fun hh => hk ((h.mem k).1 hh))]
theorem putObj_self {o : Obj} (h : Blk W M o) : W.putObj M o = W := by
  unfold Blk at h
  have hl := (Array.getElem?_eq_some_iff.1 h).1
  have e : W.heap.setIfInBounds M o = W.heap := by
    apply Array.ext_getElem?
    intro i
    rw [Array.getElem?_setIfInBounds]
    by_cases hi : M = i
    · subst hi; rw [if_pos rfl, if_pos hl, h]
    · rw [if_neg hi]
  unfold World.putObj
  rw [e]
theorem run_delete_none {es : List (SK × Value × Nat)} {clock : Nat} (h : Blk W M (entsO es clock)) (k : SK) (hk : k ∉ keysOf es) (ty ts : TypeId) :
    (Builtin.delete_ #[82, ts] ty #[.map (some M), pkV k]).run Try.prog W = .ok (.tuple #[]) W := by
  have ht : Try.prog.underlying 82 = some (.map 56 4) := by kernel_rfl
  have hf := run_findKey_pk k es W
  rw [findE_none hk] at hf
  unfold entsO at h
  simp only [Builtin.delete_, Sem.run_bind, List.getElem?_toArray, List.getElem?_cons_zero, List.getElem?_cons_succ, run_underlying ht, Result.andThen_ok, run_getObj_map h, run_checkKey_pk, hf, run_setObj_map h, Sem.run_pure]
  rw [putObj_self h]
theorem MapIs.delete (h : MapIs W M S) (k : SK) : ∃ o, (∀ ty ts, (Builtin.delete_ #[82, ts] ty #[.map (some M), pkV k]).run Try.prog W = .ok (.tuple #[]) (W.putObj M o)) ∧ MapIs (W.putObj M o) M (fun x => S x ∧ x ≠ k) := by
  obtain ⟨es, c, h⟩ := h
  by_cases hk : k ∈ keysOf es
  · refine ⟨_, fun ty ts => run_delete_pk h.blk k h.keys hk ty ts, es.filter (fun e => !decide (e.1 = k)), c, ⟨World.putObj_heap_same h.blk.lt, ?_, ?_, ?_, ?_, ?_⟩⟩
    · exact (List.filter_sublist.map _).nodup h.keys
    · exact fun e he => h.vals e (List.mem_filter.1 he).1
    · exact (List.filter_sublist.map _).nodup h.born
    · exact fun e he => h.old e (List.mem_filter.1 he).1
    · intro x
      rw [← h.mem x]
      unfold keysOf
      simp only [List.mem_map, List.mem_filter, Bool.not_eq_true', decide_eq_false_iff_not]
      constructor
      · rintro ⟨e, ⟨h1, h2⟩, rfl⟩; exact ⟨⟨e, h1, rfl⟩, h2⟩
      · rintro ⟨⟨e, h1, rfl⟩, h2⟩; exact ⟨e, ⟨h1, h2⟩, rfl⟩
  · refine ⟨entsO es c, fun ty ts => ?_, ?_⟩
    · rw [putObj_self h.blk]; exact run_delete_none h.blk k hk ty ts
    · rw [putObj_self h.blk]
      refine ⟨es, c, ⟨h.blk, h.keys, h.vals, h.born, h.old, fun x => ?_⟩⟩
      rw [h.mem x]
      exact ⟨fun hx => ⟨hx, fun e => hk ((h.mem k).2 (e ▸ hx))⟩, fun hx => hx.1⟩
end
end Go.Proofs.Ytnkeikhkafbokaa
