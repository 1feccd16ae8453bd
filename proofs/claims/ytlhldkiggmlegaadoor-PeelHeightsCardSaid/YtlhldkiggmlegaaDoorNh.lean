import Derived.Test.YtlhldkiggmlegaaDoorNg
import Derived.Laws.StructEq
import Derived.Maps.RangeRun
namespace Go.Proofs.YtlhldkiggmlegaaDoor
open Go.RowKit

/-! ## A map by proofs -/
def ent (e : PK × Value × Nat) : MapEntry := ⟨pkV e.1, e.2.1, e.2.2⟩
def entsO (es : List (PK × Value × Nat)) (clock : Nat) : Obj := .map (es.map ent).toArray clock
def findE (k : PK) : List (PK × Value × Nat) → Nat → Option (Nat × Value)
  | [], _ => none
  | e :: es, i => if k = e.1 then some (i, e.2.1) else findE k es (i + 1)

theorem pk_eq (x y : PK) (w : World) : (Op.equal 45 (pkV x) (pkV y)).run Tryd.prog w = .ok (decide (x = y)) w := by
  have hp : Tryd.prog.stoodInHeld 45 = false := by kernel_rfl
  have ht : Tryd.prog.underlying 45 = some (.struct (Tryd.prog.fieldsOf 45)) := by kernel_rfl
  have he : Tryd.prog.underlying 3 = some (.int .i64) := by kernel_rfl
  have hf : (Tryd.prog.fieldsOf 45).toList.map (fun f => (f.name, f.type, f.offset)) = [("First", 3, 0), ("Middle", 3, 1), ("Last", 3, 2), ("Side", 3, 3)] := by kernel_rfl
  have p0 : ∀ (a b c d : Int) w, (part 3 #[.int .i64 a, .int .i64 b, .int .i64 c, .int .i64 d] 0).run Tryd.prog w = .ok (.int .i64 a) w := fun _ _ _ _ w => by kernel_rfl
  have p1 : ∀ (a b c d : Int) w, (part 3 #[.int .i64 a, .int .i64 b, .int .i64 c, .int .i64 d] 1).run Tryd.prog w = .ok (.int .i64 b) w := fun _ _ _ _ w => by kernel_rfl
  have p2 : ∀ (a b c d : Int) w, (part 3 #[.int .i64 a, .int .i64 b, .int .i64 c, .int .i64 d] 2).run Tryd.prog w = .ok (.int .i64 c) w := fun _ _ _ _ w => by kernel_rfl
  have p3 : ∀ (a b c d : Int) w, (part 3 #[.int .i64 a, .int .i64 b, .int .i64 c, .int .i64 d] 3).run Tryd.prog w = .ok (.int .i64 d) w := fun _ _ _ _ w => by kernel_rfl
  have h : ∀ a b w, (Op.equalIn 9999 3 (.int .i64 a) (.int .i64 b)).run Tryd.prog w = .ok (a == b) w := fun a b w => run_equalIn_int w 9998 _ _ _ a b he
  unfold Op.equal Op.maxDepth pkV
  rw [run_equalIn_agg w 9999 _ _ _ ht hp]
  obtain ⟨f0, f1, f2, f3, hl⟩ : ∃ f0 f1 f2 f3, (Tryd.prog.fieldsOf 45).toList = [f0, f1, f2, f3] := by
    have hlen : (Tryd.prog.fieldsOf 45).toList.length = 4 := by have := congrArg List.length hf; simpa using this
    generalize (Tryd.prog.fieldsOf 45).toList = fl at hlen
    match fl, hlen with
    | [f0, f1, f2, f3], _ => exact ⟨f0, f1, f2, f3, rfl⟩
  rw [hl] at hf ⊢
  simp only [List.map_cons, List.map_nil, List.cons.injEq, Prod.mk.injEq, and_true] at hf
  obtain ⟨⟨n0, t0, o0⟩, ⟨n1, t1, o1⟩, ⟨n2, t2, o2⟩, n3, t3, o3⟩ := hf
  obtain ⟨xf, xm, xt, xs⟩ := x
  obtain ⟨yf, ym, yt, ys⟩ := y
  simp only [Op.eqFields, n0, t0, o0, n1, t1, o1, n2, t2, o2, n3, t3, o3]
  by_cases h1 : xf = yf <;> by_cases h2 : xm = ym <;> by_cases h3 : xt = yt <;> by_cases h4 : xs = ys <;> simp [p0, p1, p2, p3, h, h1, h2, h3, h4]

theorem run_find_pk (k : PK) : ∀ (es : List (PK × Value × Nat)) (i : Nat) (w : World), (Instr.findAsking 45 (pkV k) (es.map ent) i).run Tryd.prog w = .ok (findE k es i) w
  | [], _, w => by simp [Instr.findAsking, findE]
  | e :: es, i, w => by
    have ih := run_find_pk k es (i + 1) w
    simp only [List.map_cons, Instr.findAsking, findE, Sem.run_bind, ent, pk_eq, Result.andThen_ok]
    by_cases h : k = e.1
    · simp [h]
    · simp [h, ih]
theorem run_findKey_pk (k : PK) (es : List (PK × Value × Nat)) (w : World) : (Instr.findKey 45 (pkV k) (es.map ent)).run Tryd.prog w = .ok (findE k es 0) w := by
  have ht : Tryd.prog.underlying 45 = some (.struct (Tryd.prog.fieldsOf 45)) := by kernel_rfl
  have h := run_find_pk k es 0 w
  unfold Instr.findKey
  cases es with
  | nil => simp [run_underlying ht, Instr.findNow, findE]
  | cons e es =>
    simp only [List.map_cons] at h ⊢
    simp only [Sem.run_bind, run_underlying ht, Result.andThen_ok, Instr.findNow, Instr.sameNow]
    exact h
theorem run_checkKey_pk (k : PK) (em : Bool) (w : World) : (Instr.checkKey em 10000 45 (pkV k)).run Tryd.prog w = .ok () w := by
  cases em <;> kernel_rfl

def keysOf (es : List (PK × Value × Nat)) : List PK := es.map (·.1)
theorem findE_none {k : PK} : ∀ {es : List (PK × Value × Nat)} {i : Nat}, k ∉ keysOf es → findE k es i = none
  | [], _, _ => rfl
  | e :: es, i, h => by
    simp [keysOf] at h
    rw [findE, if_neg h.1]
    exact findE_none (by simpa [keysOf] using h.2)
theorem findE_some {k : PK} : ∀ {es : List (PK × Value × Nat)} {i : Nat}, k ∈ keysOf es → ∃ j e, es[j]? = some e ∧ e.1 = k ∧ findE k es i = some (i + j, e.2.1) ∧ ∀ j', j' < j → ∀ e', es[j']? = some e' → e'.1 ≠ k
  | [], _, h => by cases h
  | e :: es, i, h => by
    by_cases he : k = e.1
    · exact ⟨0, e, rfl, he.symm, by rw [findE, if_pos he]; rfl, fun j' h => by omega⟩
    · obtain ⟨j, e', h1, h2, h3, h4⟩ := findE_some (es := es) (i := i + 1) (k := k) (by simpa [keysOf, he] using h)
      refine ⟨j + 1, e', by simpa using h1, h2, by rw [findE, if_neg he, h3]; congr 2; omega, fun j' hj' e'' he'' => ?_⟩
      cases j' with
      | zero => simp at he''; rw [← he'']; exact fun h => he h.symm
      | succ j' => exact h4 j' (by omega) e'' (by simpa using he'')

theorem run_setObj_map {es : Array MapEntry} {clock M : Nat} {W : World} (h : Blk W M (.map es clock)) (o : Obj) : (setObj M o).run Tryd.prog W = .ok () (W.putObj M o) := by
  unfold Blk at h
  simp [setObj, Sem.run, h, World.putObj]
theorem run_getObj_map {es : Array MapEntry} {clock M : Nat} {W : World} (h : Blk W M (.map es clock)) : (getObj M).run Tryd.prog W = .ok (.map es clock) W := by
  unfold Blk at h
  simp [getObj, Sem.run, h]

/-- A store at a new key. -/
theorem run_store_pk {es : List (PK × Value × Nat)} {clock M : Nat} {W : World} (h : Blk W M (entsO es clock)) (k : PK) (v : Value) (hk : k ∉ keysOf es) :
    (Instr.mapUpdate 110 (.map (some M)) (pkV k) v).run Tryd.prog W = .ok () (W.putObj M (entsO (es ++ [(k, v, clock)]) (clock + 1))) := by
  have ht : Tryd.prog.underlying 110 = some (.map 45 31) := by kernel_rfl
  have hf := run_findKey_pk k es W
  rw [findE_none hk] at hf
  unfold entsO at h ⊢
  simp only [Instr.mapUpdate, Sem.run_bind, run_underlying ht, Result.andThen_ok, run_getObj_map h, run_checkKey_pk, hf, run_setObj_map h]
  simp [ent]
/-- A look at a key. -/
theorem run_look_pk {es : List (PK × Value × Nat)} {clock M : Nat} {W : World} (h : Blk W M (entsO es clock)) (k : PK) :
    (Instr.lookup 110 (.map (some M)) (pkV k) true).run Tryd.prog W = .ok (match findE k es 0 with | some (_, v) => .tuple #[v, .bool true] | none => .tuple #[.agg #[.int .i64 0, .int .i64 0], .bool false]) W := by
  have ht : Tryd.prog.underlying 110 = some (.map 45 31) := by kernel_rfl
  have hz : (zeroValue 31).run Tryd.prog W = .ok (.agg #[.int .i64 0, .int .i64 0]) W := by kernel_rfl
  have hf := run_findKey_pk k es W
  unfold entsO at h
  simp only [Instr.lookup, Sem.run_bind, run_underlying ht, Result.andThen_ok, run_getObj_map h, Sem.run_pure, run_checkKey_pk, hf]
  cases findE k es 0 with
  | none => simp [hz]
  | some x => obtain ⟨_, v⟩ := x; simp
set_option maxRecDepth 100000 in
/-- A key that is there is struck. -/
theorem run_delete_pk {es : List (PK × Value × Nat)} {clock M : Nat} {W : World} (h : Blk W M (entsO es clock)) (k : PK) (hn : (keysOf es).Nodup) (hk : k ∈ keysOf es) (ty : TypeId) (ts : TypeId) :
    (Builtin.delete_ #[110, ts] ty #[.map (some M), pkV k]).run Tryd.prog W = .ok (.tuple #[]) (W.putObj M (entsO (es.filter fun e => !decide (e.1 = k)) clock)) := by
  have ht : Tryd.prog.underlying 110 = some (.map 45 31) := by kernel_rfl
  have hf := run_findKey_pk k es W
  obtain ⟨j, e, h1, h2, h3, h4⟩ := findE_some (i := 0) hk
  rw [h3] at hf
  have he : (es.map ent).toArray.eraseIdxIfInBounds (0 + j) = ((es.filter fun e => !decide (e.1 = k)).map ent).toArray := by
    have hj : j < es.length := (List.getElem?_eq_some_iff.1 h1).1
    rw [Nat.zero_add]
    simp only [List.eraseIdxIfInBounds_toArray]
    congr 1
    rw [← ChangeMaps.map_eraseIdx]
    congr 1
    clear h hf h3 W
    induction es generalizing j with
    | nil => simp at hj
    | cons a es ih =>
      have hn' := List.nodup_cons.1 (show (a.1 :: keysOf es).Nodup from hn)
      cases j with
      | zero =>
        simp at h1
        subst h1
        rw [List.eraseIdx_cons_zero, List.filter_cons, if_neg (by simp [h2])]
        symm
        rw [List.filter_eq_self]
        intro x hx
        have : x.1 ≠ k := fun e => hn'.1 (by rw [h2, ← e]; exact List.mem_map_of_mem hx)
        simpa using this
      | succ j =>
        have ha : a.1 ≠ k := h4 0 (by omega) a rfl
        rw [List.eraseIdx_cons_succ, List.filter_cons, if_pos (by simpa using ha)]
        congr 1
        exact ih hn'.2 ((List.mem_cons.1 (show k ∈ a.1 :: keysOf es from hk)).resolve_left (fun e => ha e.symm)) _ (by simpa using h1) (fun j' hj' e' he' => h4 (j' + 1) (by omega) e' (by simpa using he')) (by simpa using hj)
  unfold entsO at h ⊢
  simp only [Builtin.delete_, Sem.run_bind, List.getElem?_toArray, List.getElem?_cons_zero, List.getElem?_cons_succ, run_underlying ht, Result.andThen_ok, run_getObj_map h, run_checkKey_pk, hf, run_setObj_map h, he, Sem.run_pure]

theorem same_pk (k : PK) : Instr.sameBits 10000 (pkV k) (pkV k) = true := by
  unfold pkV
  simp [Instr.sameBits]
/-- A store at a key that is there, of what is there. -/
theorem run_store_old {es : List (PK × Value × Nat)} {clock M : Nat} {W : World} (h : Blk W M (entsO es clock)) (k : PK) (v : Value) (hk : k ∈ keysOf es) (hv : ∀ e ∈ es, e.1 = k → e.2.1 = v) :
    (Instr.mapUpdate 110 (.map (some M)) (pkV k) v).run Tryd.prog W = .ok () (W.putObj M (entsO es clock)) := by
  have ht : Tryd.prog.underlying 110 = some (.map 45 31) := by kernel_rfl
  have hf := run_findKey_pk k es W
  obtain ⟨j, e, h1, h2, h3, _⟩ := findE_some (i := 0) hk
  rw [h3, Nat.zero_add] at hf
  have hj : j < es.length := (List.getElem?_eq_some_iff.1 h1).1
  have hej : ((es.map ent).toArray)[j]? = some (ent e) := by simp [h1]
  have hst : (Instr.keyThatStays (pkV k) (pkV k)).run Tryd.prog W = .ok (pkV k) W := by
    unfold Instr.keyThatStays
    rw [same_pk]
    rfl
  have hm : ((es.map ent).toArray.modify j fun e => { e with key := pkV k, val := v }) = (es.map ent).toArray := by
    apply Array.ext_getElem?
    intro i
    rw [Array.getElem?_modify]
    by_cases hij : j = i
    · subst hij
      rw [if_pos rfl, hej]
      have h5 := hv e (List.mem_of_getElem? h1) h2
      simp [ent, h2, h5]
    · rw [if_neg hij]
  unfold entsO at h ⊢
  simp only [Instr.mapUpdate, Sem.run_bind, run_underlying ht, Result.andThen_ok, run_getObj_map h, run_checkKey_pk, hf, hej, Option.map_some, Option.getD_some, ent, h2, hst, run_setObj_map h]
  rw [hm]
end Go.Proofs.YtlhldkiggmlegaaDoor

namespace Go.Proofs.YtlhldkiggmlegaaDoor
open Go.RowKit Go.Shelf
attribute [local go_sem] Oper.semAt_some

/-! ## The values of a map, in whatever order -/
abbrev EL := List (PK × FR × Nat)
def asE (l : EL) : List (PK × Value × Nat) := l.map fun e => (e.1, qv e.2.1.1, e.2.2)
def bornsOf (l : EL) : List Nat := l.map (·.2.2)
def leftE (l : EL) (seen : Array Nat) : EL := l.filter fun e => !seen.contains e.2.2
def entE (e : PK × FR × Nat) : MapEntry := ⟨pkV e.1, qv e.2.1.1, e.2.2⟩
theorem asE_ent (l : EL) : (asE l).map ent = l.map entE := by simp [asE, ent, entE]
theorem leftOf_asE (l : EL) (seen : Array Nat) : leftOf ((asE l).map ent).toArray seen = ((leftE l seen).map entE).toArray := by
  rw [asE_ent]
  unfold leftOf leftE
  apply Array.toList_inj.1
  rw [Array.toList_filter]
  show List.filter _ (l.map entE) = _
  rw [List.filter_map]
  rfl
theorem filter_one {α : Type} {f : α → Nat} : ∀ {L : List α}, (L.map f).Nodup → ∀ {e}, e ∈ L → L.Perm (e :: L.filter fun x => !decide (f x = f e))
  | a :: L, hn, e, he => by
    obtain ⟨h1, h2⟩ := List.nodup_cons.1 hn
    rcases List.mem_cons.1 he with rfl | he
    · rw [List.filter_cons, if_neg (by simp), List.filter_eq_self.2]
      intro x hx
      have : f x ≠ f e := fun h => h1 (h ▸ List.mem_map_of_mem hx)
      simpa using this
    · have hne : f a ≠ f e := fun h => h1 (h ▸ List.mem_map_of_mem he)
      rw [List.filter_cons, if_pos (by simpa using hne)]
      exact ((filter_one h2 he).cons a).trans (List.Perm.swap _ _ _)
theorem leftE_push (l : EL) (seen : Array Nat) (b : Nat) : leftE l (seen.push b) = (leftE l seen).filter fun x => !decide (x.2.2 = b) := by
  unfold leftE
  rw [List.filter_filter]
  congr 1
  funext x
  rw [Bool.eq_iff_iff]
  simp
  exact And.comm
theorem leftE_perm {l : EL} (hn : (bornsOf l).Nodup) {seen : Array Nat} {e : PK × FR × Nat} (he : e ∈ leftE l seen) : (leftE l seen).Perm (e :: leftE l (seen.push e.2.2)) := by
  rw [leftE_push]
  refine filter_one (f := fun x : PK × FR × Nat => x.2.2) ?_ he
  exact (List.filter_sublist.map _).nodup hn
def leftN (M r : Nat) (w : World) : Nat :=
  match w.heap[M]?, w.heap[r]? with
  | some (.map es _), some (.mapIter _ _ seen _) => (leftOf es seen).size
  | _, _ => 0
theorem leftN_eq {M r : Nat} {w : World} {l : EL} {clock s c : Nat} {m : Option Nat} {seen : Array Nat} (h1 : Blk w M (entsO (asE l) clock)) (h2 : Blk w r (.mapIter m s seen c)) : leftN M r w = (leftE l seen).length := by
  unfold leftN
  unfold Blk entsO at h1
  unfold Blk at h2
  rw [h1, h2]
  show (leftOf _ seen).size = _
  rw [leftOf_asE, List.size_toArray, List.length_map]

set_option maxRecDepth 100000 in
set_option maxHeartbeats 4000000 in
theorem mvals1_in (n : Nat) (_hn : 1 ≤ n) (l0 Bs M n₀ clock : Nat) (l : EL) (W : World) (hnd : (bornsOf l).Nodup) (hold : ∀ e ∈ l, e.2.2 < clock) (hM : M < n₀) (hnW : n₀ ≤ W.heap.size) (J Jx : List FR → World → Prop)
    (hY : ∀ pre x W, J pre W → pre.length < l.length → YieldAt Fence.wide (n - 1) Tryd.prog l0 #[qv x.1] W fun e W' =>
      (e = .returned (.bool true) ∧ J (pre ++ [x]) W' ∧ KpW n₀ W W') ∨ (e = .returned (.bool false) ∧ Jx (pre ++ [x]) W'))
    (hJa : ∀ pre W o, J pre W → J pre (W.alloc o)) (hJ : AbidesFrom W.heap.size J)
    (hBs : W.cell? ⟨Bs, 0, none⟩ = some (.map (some M)))
    (hc : Blk W M (entsO (asE l) clock)) (h0 : J [] W) :
    CallsIn Fence.wide n Tryd.prog 108 #[.func (.yield l0) #[] #[], .pointer (some ⟨Bs, 0, none⟩)] W fun e W' => (∃ v, e = .returned v) ∧
      ((∃ ys : List FR, ys.Perm (l.map (·.2.1)) ∧ J ys W') ∨ (∃ pre, True ∧ Jx pre W')) := by
  have hrng : (Instr.range 110 (.map (some M))).run Tryd.prog W = .ok (.pointer (some ⟨W.heap.size, 0, none⟩)) (W.alloc (.mapIter (some M) clock #[] clock)) := by
    have ht : Tryd.prog.underlying 110 = some (.map 45 31) := by kernel_rfl
    simp only [Instr.range, Sem.run_bind, run_underlying ht, Result.andThen_ok, run_getObj_map hc, Sem.run_pure]
    rfl
  refine callsIn_of_wp Tryd.func108 rfl trivial ?_ rfl
  simp only [Tryd.ntmps108, List.size_toArray, List.length_cons, List.length_nil, Nat.reduceAdd, Nat.reduceSub, Array.replicate_succ, Array.replicate_zero, List.push_toArray, List.append_toArray, List.nil_append, List.cons_append]
  gi_wp2
  have hit0 := Blk.new W (.mapIter (some M) clock #[] clock)
  have hW1 := below1 W (.mapIter (some M) clock #[] clock)
  have hJ1 := hJa _ _ (.mapIter (some M) clock #[] clock) h0
  obtain ⟨r, hr⟩ : ∃ r, r = W.heap.size := ⟨_, rfl⟩
  rw [← hr] at hit0 ⊢
  have hrn : n₀ ≤ r := by omega
  have HR := Lib.hid hr
  clear hr hrng hBs
  gi_loopw [7] (fun _ wr => ∃ (seen : Array Nat) (done : List FR), Blk wr r (.mapIter (some M) clock seen clock) ∧ J done wr ∧ (done ++ (leftE l seen).map (·.2.1)).Perm (l.map (·.2.1)) ∧ Below n₀ W wr)
    (fun _ wr => leftN M r wr)
  case atStart =>
    refine ⟨#[], [], hit0, hJ1, ?_, hW1.mono hnW⟩
    have : leftE l #[] = l := by unfold leftE; rw [List.filter_eq_self]; simp
    rw [this]
    exact List.Perm.refl _
  case round =>
    obtain ⟨seen, done, hit, hJs, hperm, hB⟩ := hrel
    have hMb : Blk wr M (entsO (asE l) clock) := hc.below' hB hM
    have hN := Lib.hid (leftN_eq hMb hit)
    have hrlt := hit.lt
    have hMr : M ≠ r := by omega
    have hnx := run_next_at (P := Tryd.prog) wr 0 r M clock clock seen ((asE l).map ent).toArray clock hit hMb (by
      intro x hx
      rw [asE_ent] at hx
      obtain ⟨e, he, rfl⟩ := List.mem_map.1 hx
      exact hold e he) (Nat.le_refl _)
    rw [leftOf_asE] at hnx
    rcases hnx with ⟨hz, hrun⟩ | ⟨me, hme, w1, hw1, hrun⟩
    · have hnil : leftE l seen = [] := by simpa using hz
      have hrun' : ∀ ty, (Instr.next (.pointer (some ⟨r, 0, none⟩)) false ty).run Tryd.prog wr = .ok (.tuple #[.bool false]) wr := fun ty => hrun
      have hP := Lib.hid hperm
      have hNil := Lib.hid hnil
      clear hrun hz hperm hnil hN
      gi_wp2
      go_end0
      have hp := hP.out
      rw [hNil.out] at hp
      exact ⟨⟨_, rfl⟩, .inl ⟨done, by simpa using hp, hJs⟩⟩
    · obtain ⟨e, he, rfl⟩ := List.mem_map.1 hme
      have hrun' : ∀ ty, (Instr.next (.pointer (some ⟨r, 0, none⟩)) false ty).run Tryd.prog wr = .ok (.tuple #[.bool true, pkV e.1, qv e.2.1.1]) (w1.putObj r (.mapIter (some M) clock (seen.push e.2.2) clock)) := fun ty => hrun
      have hBw : Below n₀ W w1 ∧ Blk w1 r (.mapIter (some M) clock seen clock) ∧ Blk w1 M (entsO (asE l) clock) ∧ J done w1 := by
        rcases hw1 with rfl | rfl
        · exact ⟨hB, hit, hMb, hJs⟩
        · exact ⟨hB.drew, hit, hMb, hJ _ _ _ none hJs ⟨rfl, rfl, rfl, Nat.le_refl _, fun _ _ _ => rfl⟩ (fun r e => by cases e)⟩
      clear hrun hw1 hme
      obtain ⟨hB1, hit1, hM1, hJ1'⟩ := hBw
      have hrlt1 := hit1.lt
      have hit2 : Blk (w1.putObj r (.mapIter (some M) clock (seen.push e.2.2) clock)) r (.mapIter (some M) clock (seen.push e.2.2) clock) := World.putObj_heap_same hrlt1
      have hM2 := hM1.put (b := r) hMr (.mapIter (some M) clock (seen.push e.2.2) clock)
      have hJ2 : J done (w1.putObj r (.mapIter (some M) clock (seen.push e.2.2) clock)) := hJ _ _ _ (some r) hJ1' (grownBy_putObj' w1 r _) (fun r' e' => by cases e'; exact ⟨Nat.le_of_eq HR.out.symm, _, hit1, rfl⟩)
      have hB2 : Below n₀ W (w1.putObj r (.mapIter (some M) clock (seen.push e.2.2) clock)) := hB1.trans ((Below.refl n₀ w1).grown (grownBy_putObj' w1 r _) (by omega) (fun k e' => by cases e'; omega))
      generalize w1.putObj r (.mapIter (some M) clock (seen.push e.2.2) clock) = w2 at *
      have hent : (Instr.entry (.pointer (some ⟨r, 0, none⟩))).run Tryd.prog w2 = .ok (.tuple #[pkV e.1, qv e.2.1.1]) w2 := by
        refine run_entry_at (P := Tryd.prog) w2 r M clock seen ((asE l).map ent).toArray clock (entE e) hit2 hM2 ?_ ?_
        · rw [asE_ent]
          exact List.mem_map_of_mem (List.mem_filter.1 he).1
        · rw [asE_ent]
          show ((l.map entE).map (·.born)).Nodup
          rw [List.map_map]
          exact hnd
      have hpl := leftE_perm hnd he
      have hlen : (leftE l (seen.push e.2.2)).length < (leftE l seen).length := by have := hpl.length_eq; simp at this; omega
      have hp2 : ((done ++ [e.2.1]) ++ (leftE l (seen.push e.2.2)).map (·.2.1)).Perm (l.map (·.2.1)) := by
        refine List.Perm.trans ?_ hperm
        rw [List.append_assoc]
        exact (List.Perm.refl done).append (hpl.map (fun x : PK × FR × Nat => x.2.1)).symm
      have hlt : done.length < l.length := by
        have := hp2.length_eq
        simp at this
        omega
      obtain ⟨fn, tmps, assign, body, hy, hR⟩ := hY _ e.2.1 (w2.alloc (.cells #[.int .i64 e.2.1.1.num, .int .i64 e.2.1.1.den] 31)) (hJa _ _ _ hJ2) hlt
      have hM3 := hM2.alloc (.cells #[.int .i64 e.2.1.1.num, .int .i64 e.2.1.1.den] 31)
      have hit3 := hit2.alloc (.cells #[.int .i64 e.2.1.1.num, .int .i64 e.2.1.1.den] 31)
      have hB3 := hB2.alloc (Nat.le_trans hnW hB2.size) (.cells #[.int .i64 e.2.1.1.num, .int .i64 e.2.1.1.den] 31)
      have HL := Lib.hid hlen
      clear hlen hpl hperm hJ1' hJ2 hJs hB hit hMb hlt hB2 hM2 hit2
      unfold qv at hy hent hrun'
      unfold pkV at hent hrun'
      gi_wp2
      refine hR.mono ?_
      rintro e' W3 (⟨rfl, hJ3, hk3⟩ | ⟨rfl, hJx3⟩)
      · have hit4 : Blk W3 r (.mapIter (some M) clock (seen.push e.2.2) clock) := hk3.2.same r _ hit3 rfl
        have hM4 : Blk W3 M (entsO (asE l) clock) := hk3.2.same M _ hM3 rfl
        have hN4 := Lib.hid (leftN_eq hM4 hit4)
        gi_wp2
        go_roundw
        case rel => exact ⟨seen.push e.2.2, done ++ [e.2.1], hit4, hJ3, hp2, hB3.trans hk3.1⟩
        case measure => rw [hN.out, hN4.out]; exact HL.out
      · gi_wp2
        refine bodyPost_ret (results_none rfl _ _ _) rfl ?_
        exact ⟨⟨_, rfl⟩, .inr ⟨_, trivial, hJx3⟩⟩

theorem mvals_stops (n : Nat) (hn : 1 ≤ n) (Bs M n₀ clock : Nat) (l : EL) (w : World) (hnd : (bornsOf l).Nodup) (hold : ∀ e ∈ l, e.2.2 < clock) (hM : M < n₀) (hnW : n₀ ≤ w.heap.size)
    (hBs : w.cell? ⟨Bs, 0, none⟩ = some (.map (some M))) (hc : Blk w M (entsO (asE l) clock)) :
    SeqStopsK Fence.wide n Tryd.prog 108 #[.pointer (some ⟨Bs, 0, none⟩)] (fun x : FR => #[qv x.1]) (KpW n₀) (fun ys => ys.Perm (l.map (·.2.1))) (fun _ => True) l.length w := by
  intro l0 J Jx W hW hJ _ hY h0
  exact mvals1_in n hn l0 Bs M n₀ clock l W hnd hold hM (Nat.le_trans hnW hW.size) J Jx hY (fun pre W o hJ' => hJ pre W _ none hJ' (World.grownBy_alloc W o none) (fun r e => by cases e)) hJ (cellB hBs hW) (hc.below hW) h0

set_option maxHeartbeats 400000 in
theorem mValues_any (M : Nat) (w : World) :
    Calls Tryd.prog 93 #[.map (some M)] w fun e w' => e = .returned (.func (.func 108) #[] #[.pointer (some ⟨w.heap.size, 0, none⟩)]) ∧ w.alloc (.cells #[.map (some M)] 110) = w' := by
  have hmf : ∀ (fn : Fn) (first cap : Array Value) (w : World), (Instr.makeFunc fn first cap).run Tryd.prog w = .ok (.func fn first cap) w := fun _ _ _ _ => rfl
  go_enter Tryd.func93, Tryd.ntmps93
  go_wp2
  go_ret
  exact ⟨rfl, rfl⟩
end Go.Proofs.YtlhldkiggmlegaaDoor
