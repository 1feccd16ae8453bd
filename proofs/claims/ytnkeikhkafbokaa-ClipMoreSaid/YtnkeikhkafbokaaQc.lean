import Derived.Test.YtnkeikhkafbokaaQb
import Derived.Laws.StructEq
import Derived.Maps.RangeRun
namespace Go.Proofs.Ytnkeikhkafbokaa
open Go.RowKit

/-! ## A map by sheets -/
abbrev SK := Int × Int
def pkV (s : SK) : Value := .agg #[.int .i64 s.1, .int .i64 s.2]
def ent (e : SK × Value × Nat) : MapEntry := ⟨pkV e.1, e.2.1, e.2.2⟩
def entsO (es : List (SK × Value × Nat)) (clock : Nat) : Obj := .map (es.map ent).toArray clock
def findE (k : SK) : List (SK × Value × Nat) → Nat → Option (Nat × Value)
  | [], _ => none
  | e :: es, i => if k = e.1 then some (i, e.2.1) else findE k es (i + 1)

theorem pk_eq (x y : SK) (w : World) : (Op.equal 56 (pkV x) (pkV y)).run Try.prog w = .ok (decide (x = y)) w := by
  have hp : Try.prog.stoodInHeld 56 = false := by kernel_rfl
  have ht : Try.prog.underlying 56 = some (.struct (Try.prog.fieldsOf 56)) := by kernel_rfl
  have he : Try.prog.underlying 3 = some (.int .i64) := by kernel_rfl
  have hf : (Try.prog.fieldsOf 56).toList.map (fun f => (f.name, f.type, f.offset)) = [("From", 3, 0), ("Kind", 3, 1)] := by kernel_rfl
  have p0 : ∀ (a b : Int) w, (part 3 #[.int .i64 a, .int .i64 b] 0).run Try.prog w = .ok (.int .i64 a) w := fun _ _ w => by kernel_rfl
  have p1 : ∀ (a b : Int) w, (part 3 #[.int .i64 a, .int .i64 b] 1).run Try.prog w = .ok (.int .i64 b) w := fun _ _ w => by kernel_rfl
  have h : ∀ a b w, (Op.equalIn 9999 3 (.int .i64 a) (.int .i64 b)).run Try.prog w = .ok (a == b) w := fun a b w => run_equalIn_int w 9998 _ _ _ a b he
  unfold Op.equal Op.maxDepth pkV
  rw [run_equalIn_agg w 9999 _ _ _ ht hp]
  obtain ⟨f0, f1, hl⟩ : ∃ f0 f1, (Try.prog.fieldsOf 56).toList = [f0, f1] := by
    have hlen : (Try.prog.fieldsOf 56).toList.length = 2 := by have := congrArg List.length hf; simpa using this
    generalize (Try.prog.fieldsOf 56).toList = fl at hlen
    match fl, hlen with
    | [f0, f1], _ => exact ⟨f0, f1, rfl⟩
  rw [hl] at hf ⊢
  simp only [List.map_cons, List.map_nil, List.cons.injEq, Prod.mk.injEq, and_true] at hf
  obtain ⟨⟨n0, t0, o0⟩, n1, t1, o1⟩ := hf
  obtain ⟨xf, xm⟩ := x
  obtain ⟨yf, ym⟩ := y
  simp only [Op.eqFields, n0, t0, o0, n1, t1, o1]
  by_cases h1 : xf = yf <;> by_cases h2 : xm = ym <;> simp [p0, p1, h, h1, h2]

theorem run_find_pk (k : SK) : ∀ (es : List (SK × Value × Nat)) (i : Nat) (w : World), (Instr.findAsking 56 (pkV k) (es.map ent) i).run Try.prog w = .ok (findE k es i) w
  | [], _, w => by simp [Instr.findAsking, findE]
  | e :: es, i, w => by
    have ih := run_find_pk k es (i + 1) w
    simp only [List.map_cons, Instr.findAsking, findE, Sem.run_bind, ent, pk_eq, Result.andThen_ok]
    by_cases h : k = e.1
    · simp [h]
    · simp [h, ih]
theorem run_findKey_pk (k : SK) (es : List (SK × Value × Nat)) (w : World) : (Instr.findKey 56 (pkV k) (es.map ent)).run Try.prog w = .ok (findE k es 0) w := by
  have ht : Try.prog.underlying 56 = some (.struct (Try.prog.fieldsOf 56)) := by kernel_rfl
  have h := run_find_pk k es 0 w
  unfold Instr.findKey
  cases es with
  | nil => simp [run_underlying ht, Instr.findNow, findE]
  | cons e es =>
    simp only [List.map_cons] at h ⊢
    simp only [Sem.run_bind, run_underlying ht, Result.andThen_ok, Instr.findNow, Instr.sameNow]
    exact h
theorem run_checkKey_pk (k : SK) (em : Bool) (w : World) : (Instr.checkKey em 10000 56 (pkV k)).run Try.prog w = .ok () w := by
  cases em <;> kernel_rfl

def keysOf (es : List (SK × Value × Nat)) : List SK := es.map (·.1)
theorem findE_none {k : SK} : ∀ {es : List (SK × Value × Nat)} {i : Nat}, k ∉ keysOf es → findE k es i = none
  | [], _, _ => rfl
  | e :: es, i, h => by
    simp [keysOf] at h
    rw [findE, if_neg h.1]
    exact findE_none (by simpa [keysOf] using h.2)
theorem findE_some {k : SK} : ∀ {es : List (SK × Value × Nat)} {i : Nat}, k ∈ keysOf es → ∃ j e, es[j]? = some e ∧ e.1 = k ∧ findE k es i = some (i + j, e.2.1) ∧ ∀ j', j' < j → ∀ e', es[j']? = some e' → e'.1 ≠ k
  | [], _, h => by cases h
  | e :: es, i, h => by
    by_cases he : k = e.1
    · exact ⟨0, e, rfl, he.symm, by rw [findE, if_pos he]; rfl, fun j' h => by omega⟩
    · obtain ⟨j, e', h1, h2, h3, h4⟩ := findE_some (es := es) (i := i + 1) (k := k) (by simpa [keysOf, he] using h)
      refine ⟨j + 1, e', by simpa using h1, h2, by rw [findE, if_neg he, h3]; congr 2; omega, fun j' hj' e'' he'' => ?_⟩
      cases j' with
      | zero => simp at he''; rw [← he'']; exact fun h => he h.symm
      | succ j' => exact h4 j' (by omega) e'' (by simpa using he'')

theorem run_setObj_map {es : Array MapEntry} {clock M : Nat} {W : World} (h : Blk W M (.map es clock)) (o : Obj) : (setObj M o).run Try.prog W = .ok () (W.putObj M o) := by
  unfold Blk at h
  simp [setObj, Sem.run, h, World.putObj]
theorem run_getObj_map {es : Array MapEntry} {clock M : Nat} {W : World} (h : Blk W M (.map es clock)) : (getObj M).run Try.prog W = .ok (.map es clock) W := by
  unfold Blk at h
  simp [getObj, Sem.run, h]

/-- A store at a new key. -/
theorem run_store_pk {es : List (SK × Value × Nat)} {clock M : Nat} {W : World} (h : Blk W M (entsO es clock)) (k : SK) (v : Value) (hk : k ∉ keysOf es) :
    (Instr.mapUpdate 82 (.map (some M)) (pkV k) v).run Try.prog W = .ok () (W.putObj M (entsO (es ++ [(k, v, clock)]) (clock + 1))) := by
  have ht : Try.prog.underlying 82 = some (.map 56 4) := by kernel_rfl
  have hf := run_findKey_pk k es W
  rw [findE_none hk] at hf
  unfold entsO at h ⊢
  simp only [Instr.mapUpdate, Sem.run_bind, run_underlying ht, Result.andThen_ok, run_getObj_map h, run_checkKey_pk, hf, run_setObj_map h]
  simp [ent]
/-- A look at a key. -/
theorem run_look_pk {es : List (SK × Value × Nat)} {clock M : Nat} {W : World} (h : Blk W M (entsO es clock)) (k : SK) :
    (Instr.lookup 82 (.map (some M)) (pkV k) false).run Try.prog W = .ok (match findE k es 0 with | some (_, v) => v | none => .bool false) W := by
  have ht : Try.prog.underlying 82 = some (.map 56 4) := by kernel_rfl
  have hz : (zeroValue 4).run Try.prog W = .ok (.bool false) W := by kernel_rfl
  have hf := run_findKey_pk k es W
  unfold entsO at h
  simp only [Instr.lookup, Sem.run_bind, run_underlying ht, Result.andThen_ok, run_getObj_map h, Sem.run_pure, run_checkKey_pk, hf]
  cases findE k es 0 with
  | none => simp [hz]
  | some x => obtain ⟨_, v⟩ := x; simp
set_option maxRecDepth 100000 in
/-- A key that is there is struck. -/
theorem run_delete_pk {es : List (SK × Value × Nat)} {clock M : Nat} {W : World} (h : Blk W M (entsO es clock)) (k : SK) (hn : (keysOf es).Nodup) (hk : k ∈ keysOf es) (ty : TypeId) (ts : TypeId) :
    (Builtin.delete_ #[82, ts] ty #[.map (some M), pkV k]).run Try.prog W = .ok (.tuple #[]) (W.putObj M (entsO (es.filter fun e => !decide (e.1 = k)) clock)) := by
  have ht : Try.prog.underlying 82 = some (.map 56 4) := by kernel_rfl
  have hf := run_findKey_pk k es W
  obtain ⟨j, e, h1, h2, h3, h4⟩ := findE_some (i := 0) hk
  rw [h3] at hf
  have he : (es.map ent).toArray.eraseIdxIfInBounds (0 + j) = ((es.filter fun e => !decide (e.1 = k)).map ent).toArray := by
    have hj : j < es.length := (List.getElem?_eq_some_iff.1 h1).1
    rw [Nat.zero_add]
    simp only [List.eraseIdxIfInBounds_toArray]
    congr 1
    rw [← ChangeMaps.map_eraseIdx]
    congr 1
    clear h hf h3 W
    induction es generalizing j with
    | nil => simp at hj
    | cons a es ih =>
      have hn' := List.nodup_cons.1 (show (a.1 :: keysOf es).Nodup from hn)
      cases j with
      | zero =>
        simp at h1
        subst h1
        rw [List.eraseIdx_cons_zero, List.filter_cons, if_neg (by simp [h2])]
        symm
        rw [List.filter_eq_self]
        intro x hx
        have : x.1 ≠ k := fun e => hn'.1 (by rw [h2, ← e]; exact List.mem_map_of_mem hx)
        simpa using this
      | succ j =>
        have ha : a.1 ≠ k := h4 0 (by omega) a rfl
        rw [List.eraseIdx_cons_succ, List.filter_cons, if_pos (by simpa using ha)]
        congr 1
        exact ih hn'.2 ((List.mem_cons.1 (show k ∈ a.1 :: keysOf es from hk)).resolve_left (fun e => ha e.symm)) _ (by simpa using h1) (fun j' hj' e' he' => h4 (j' + 1) (by omega) e' (by simpa using he')) (by simpa using hj)
  unfold entsO at h ⊢
  simp only [Builtin.delete_, Sem.run_bind, List.getElem?_toArray, List.getElem?_cons_zero, List.getElem?_cons_succ, run_underlying ht, Result.andThen_ok, run_getObj_map h, run_checkKey_pk, hf, run_setObj_map h, he, Sem.run_pure]

theorem same_pk (k : SK) : Instr.sameBits 10000 (pkV k) (pkV k) = true := by
  unfold pkV
  simp [Instr.sameBits]
/-- A store at a key that is there, of what is there. -/
theorem run_store_old {es : List (SK × Value × Nat)} {clock M : Nat} {W : World} (h : Blk W M (entsO es clock)) (k : SK) (v : Value) (hk : k ∈ keysOf es) (hv : ∀ e ∈ es, e.1 = k → e.2.1 = v) :
    (Instr.mapUpdate 82 (.map (some M)) (pkV k) v).run Try.prog W = .ok () (W.putObj M (entsO es clock)) := by
  have ht : Try.prog.underlying 82 = some (.map 56 4) := by kernel_rfl
  have hf := run_findKey_pk k es W
  obtain ⟨j, e, h1, h2, h3, _⟩ := findE_some (i := 0) hk
  rw [h3, Nat.zero_add] at hf
  have hj : j < es.length := (List.getElem?_eq_some_iff.1 h1).1
  have hej : ((es.map ent).toArray)[j]? = some (ent e) := by simp [h1]
  have hst : (Instr.keyThatStays (pkV k) (pkV k)).run Try.prog W = .ok (pkV k) W := by
    unfold Instr.keyThatStays
    rw [same_pk]
    rfl
  have hm : ((es.map ent).toArray.modify j fun e => { e with key := pkV k, val := v }) = (es.map ent).toArray := by
    apply Array.ext_getElem?
    intro i
    rw [Array.getElem?_modify]
    by_cases hij : j = i
    · subst hij
      rw [if_pos rfl, hej]
      have h5 := hv e (List.mem_of_getElem? h1) h2
      simp [ent, h2, h5]
    · rw [if_neg hij]
  unfold entsO at h ⊢
  simp only [Instr.mapUpdate, Sem.run_bind, run_underlying ht, Result.andThen_ok, run_getObj_map h, run_checkKey_pk, hf, hej, Option.map_some, Option.getD_some, ent, h2, hst, run_setObj_map h]
  rw [hm]
end Go.Proofs.Ytnkeikhkafbokaa

namespace Go.Proofs.Ytnkeikhkafbokaa
open Go.RowKit

/-! ## A map as a set of sheets -/
structure MapIn (W : World) (M : Nat) (S : SK → Prop) (es : List (SK × Value × Nat)) (clock : Nat) : Prop where
  blk : Blk W M (entsO es clock)
  keys : (keysOf es).Nodup
  vals : ∀ e ∈ es, e.2.1 = .bool true
  born : (es.map (·.2.2)).Nodup
  old : ∀ e ∈ es, e.2.2 < clock
  mem : ∀ k, k ∈ keysOf es ↔ S k
def MapIs (W : World) (M : Nat) (S : SK → Prop) : Prop := ∃ es clock, MapIn W M S es clock
section
variable {W W' : World} {M : Nat} {S : SK → Prop}
theorem MapIs.lt (h : MapIs W M S) : M < W.heap.size := by obtain ⟨_, _, h⟩ := h; exact h.blk.lt
theorem MapIs.of_block (h : MapIs W M S) (e : W'.heap[M]? = W.heap[M]?) : MapIs W' M S := by
  obtain ⟨es, c, h⟩ := h
  exact ⟨es, c, ⟨e.trans h.blk, h.keys, h.vals, h.born, h.old, h.mem⟩⟩
theorem MapIs.below (h : MapIs W M S) (hb : Below W.heap.size W W') : MapIs W' M S := h.of_block (hb.block M h.lt)
theorem MapIs.other (h : MapIs W M S) {b j : Nat} (hne : M ≠ b) (v : Value) : MapIs (W.setCell ⟨b, j, none⟩ v) M S := by
  obtain ⟨es, c, h⟩ := h
  exact ⟨es, c, ⟨h.blk.other hne v, h.keys, h.vals, h.born, h.old, h.mem⟩⟩
theorem MapIs.same (h : MapIs W M S) {S' : SK → Prop} (e : ∀ k, S k ↔ S' k) : MapIs W M S' := by
  obtain ⟨es, c, h⟩ := h
  exact ⟨es, c, ⟨h.blk, h.keys, h.vals, h.born, h.old, fun k => (h.mem k).trans (e k)⟩⟩
theorem MapIs.empty (c : Nat) (h : Blk W M (.map #[] c)) : MapIs W M (fun _ => False) :=
  ⟨[], c, ⟨h, List.nodup_nil, (fun e he => by cases he), List.nodup_nil, (fun e he => by cases he), fun k => by simp [keysOf]⟩⟩
theorem MapIs.store (h : MapIs W M S) (k : SK) (hk : ¬ S k) :
    ∃ o, (Instr.mapUpdate 82 (.map (some M)) (pkV k) (.bool true)).run Try.prog W = .ok () (W.putObj M o) ∧ MapIs (W.putObj M o) M (fun x => S x ∨ x = k) := by
  obtain ⟨es, c, h⟩ := h
  have hn : k ∉ keysOf es := fun hh => hk ((h.mem k).1 hh)
  refine ⟨_, run_store_pk h.blk k (.bool true) hn, es ++ [(k, Value.bool true, c)], c + 1, ⟨show Blk (W.putObj M (entsO (es ++ [(k, Value.bool true, c)]) (c + 1))) M (entsO (es ++ [(k, Value.bool true, c)]) (c + 1)) from World.putObj_heap_same h.blk.lt, ?_, ?_, ?_, ?_, ?_⟩⟩
  · unfold keysOf at hn ⊢
    rw [List.map_append]
    exact List.nodup_append.2 ⟨h.keys, by simp, fun a ha b hb => by
      simp only [List.map_cons, List.map_nil, List.mem_singleton] at hb
      subst hb
      exact fun e => hn (e ▸ ha)⟩
  · intro e he
    rcases List.mem_append.1 he with he | he
    · exact h.vals e he
    · simp only [List.mem_singleton] at he; rw [he]
  · rw [List.map_append]
    exact List.nodup_append.2 ⟨h.born, by simp, fun a ha b hb => by
      simp only [List.map_cons, List.map_nil, List.mem_singleton] at hb
      obtain ⟨e, he, rfl⟩ := List.mem_map.1 ha
      have := h.old e he
      omega⟩
  · intro e he
    rcases List.mem_append.1 he with he | he
    · have := h.old e he; omega
    · simp only [List.mem_singleton] at he; rw [he]; simp
  · intro x
    unfold keysOf
    rw [List.map_append, List.mem_append]
    have := h.mem x
    unfold keysOf at this
    rw [this]
    simp
theorem MapIs.look_yes (h : MapIs W M S) (k : SK) (hk : S k) : (Instr.lookup 82 (.map (some M)) (pkV k) false).run Try.prog W = .ok (.bool true) W := by
  obtain ⟨es, c, h⟩ := h
  rw [run_look_pk h.blk k]
  obtain ⟨j, e, h1, h2, h3, _⟩ := findE_some (i := 0) ((h.mem k).2 hk)
  rw [h3]
  simp only
  rw [h.vals e (List.mem_of_getElem? h1)]
theorem MapIs.look_no (h : MapIs W M S) (k : SK) (hk : ¬ S k) : (Instr.lookup 82 (.map (some M)) (pkV k) false).run Try.prog W = .ok (.bool false) W := by
  obtain ⟨es, c, h⟩ := h
  rw [run_look_pk h.blk k, findE_none (fun hh => hk ((h.mem k).1 hh))]
theorem putObj_self {o : Obj} (h : Blk W M o) : W.putObj M o = W := by
  unfold Blk at h
  have hl := (Array.getElem?_eq_some_iff.1 h).1
  have e : W.heap.setIfInBounds M o = W.heap := by
    apply Array.ext_getElem?
    intro i
    rw [Array.getElem?_setIfInBounds]
    by_cases hi : M = i
    · subst hi; rw [if_pos rfl, if_pos hl, h]
    · rw [if_neg hi]
  unfold World.putObj
  rw [e]
theorem run_delete_none {es : List (SK × Value × Nat)} {clock : Nat} (h : Blk W M (entsO es clock)) (k : SK) (hk : k ∉ keysOf es) (ty ts : TypeId) :
    (Builtin.delete_ #[82, ts] ty #[.map (some M), pkV k]).run Try.prog W = .ok (.tuple #[]) W := by
  have ht : Try.prog.underlying 82 = some (.map 56 4) := by kernel_rfl
  have hf := run_findKey_pk k es W
  rw [findE_none hk] at hf
  unfold entsO at h
  simp only [Builtin.delete_, Sem.run_bind, List.getElem?_toArray, List.getElem?_cons_zero, List.getElem?_cons_succ, run_underlying ht, Result.andThen_ok, run_getObj_map h, run_checkKey_pk, hf, run_setObj_map h, Sem.run_pure]
  rw [putObj_self h]
theorem MapIs.delete (h : MapIs W M S) (k : SK) : ∃ o, (∀ ty ts, (Builtin.delete_ #[82, ts] ty #[.map (some M), pkV k]).run Try.prog W = .ok (.tuple #[]) (W.putObj M o)) ∧ MapIs (W.putObj M o) M (fun x => S x ∧ x ≠ k) := by
  obtain ⟨es, c, h⟩ := h
  by_cases hk : k ∈ keysOf es
  · refine ⟨_, fun ty ts => run_delete_pk h.blk k h.keys hk ty ts, es.filter (fun e => !decide (e.1 = k)), c, ⟨World.putObj_heap_same h.blk.lt, ?_, ?_, ?_, ?_, ?_⟩⟩
    · exact (List.filter_sublist.map _).nodup h.keys
    · exact fun e he => h.vals e (List.mem_filter.1 he).1
    · exact (List.filter_sublist.map _).nodup h.born
    · exact fun e he => h.old e (List.mem_filter.1 he).1
    · intro x
      rw [← h.mem x]
      unfold keysOf
      simp only [List.mem_map, List.mem_filter, Bool.not_eq_true', decide_eq_false_iff_not]
      constructor
      · rintro ⟨e, ⟨h1, h2⟩, rfl⟩; exact ⟨⟨e, h1, rfl⟩, h2⟩
      · rintro ⟨⟨e, h1, rfl⟩, h2⟩; exact ⟨e, ⟨h1, h2⟩, rfl⟩
  · refine ⟨entsO es c, fun ty ts => ?_, ?_⟩
    · rw [putObj_self h.blk]; exact run_delete_none h.blk k hk ty ts
    · rw [putObj_self h.blk]
      refine ⟨es, c, ⟨h.blk, h.keys, h.vals, h.born, h.old, fun x => ?_⟩⟩
      rw [h.mem x]
      exact ⟨fun hx => ⟨hx, fun e => hk ((h.mem k).2 (e ▸ hx))⟩, fun hx => hx.1⟩
end
end Go.Proofs.Ytnkeikhkafbokaa
