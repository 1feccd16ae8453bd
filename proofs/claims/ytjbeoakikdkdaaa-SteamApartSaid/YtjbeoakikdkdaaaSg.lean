import Derived.Test.YtjbeoakikdkdaaaSf
import Derived.Test.YtjbeoakikdkdaaaSb
namespace Go.Proofs.Ytjbeoakikdkdaaa
open Go.RowKit Go.Vat Go.Sort Go.Shelf
attribute [local go_sem] Oper.semAt_some

/-! ## The vat: a yard is put into it -/
def nf (y : YardD) (x : SK) : Int := need y x.1 x.2
/-- The windows that end before an hour. -/
def Sw (y : YardD) (k : Nat) (x : SK) : Prop := ∃ h : Nat, h < k ∧ x ∈ wins y (h : Int)
theorem Sw_zero (y : YardD) (x : SK) : ¬ Sw y 0 x := fun ⟨_, h, _⟩ => absurd h (Nat.not_lt_zero _)
theorem Sw_step (y : YardD) (k : Nat) (x : SK) : Sw y (k + 1) x ↔ Sw y k x ∨ x ∈ wins y (k : Int) := by
  constructor
  · rintro ⟨h, h1, h2⟩
    by_cases e : h = k
    · subst e; exact .inr h2
    · exact .inl ⟨h, by omega, h2⟩
  · rintro (⟨h, h1, h2⟩ | h)
    · exact ⟨h, by omega, h2⟩
    · exact ⟨k, by omega, h⟩
/-- The windows that need something. -/
def Sy (y : YardD) (x : SK) : Prop := Sw y 101 x ∧ nf y x ≠ 0
def Ux (y : YardD) (U0 : Nat → Int) (k q : Nat) : Int := if q ≤ k then U y q else U0 q
theorem Ux_set (y : YardD) (U0 : Nat → Int) (k : Nat) : updF (Ux y U0 k) (k + 1) (U y (k + 1)) = Ux y U0 (k + 1) := by
  funext q
  unfold updF Ux
  by_cases e : q = k + 1
  · subst e; rw [if_pos rfl, if_pos (by omega)]
  · rw [if_neg e]
    by_cases h : q ≤ k
    · rw [if_pos h, if_pos (by omega)]
    · rw [if_neg h, if_neg (by omega)]
theorem Ux_zero (y : YardD) {U0 : Nat → Int} (h : U0 0 = 0) : Ux y U0 0 = U0 := by
  funext q
  unfold Ux
  split
  · obtain rfl : q = 0 := by omega
    rw [h]; rfl
  · rfl
theorem Ux_bd {y : YardD} (hy : y.Ok) {U0 : Nat → Int} (h : ∀ q, q ≤ 101 → 0 ≤ U0 q ∧ U0 q ≤ 1000) (k q : Nat) (hq : q ≤ 101) : 0 ≤ Ux y U0 k q ∧ Ux y U0 k q ≤ 1000 := by
  unfold Ux
  split
  · have h1 := U_nonneg y q
    have h2 := U_len hy q
    have h3 := hy.count
    omega
  · exact h q hq
theorem Ux_mx {y : YardD} (hy : y.Ok) (U0 : Nat → Int) (k : Nat) : mxL (fun x => Ux y U0 k x.1.toNat + nf y x) (wins y (k : Int)) (Ux y U0 k k) = U y (k + 1) := by
  rw [U_succ, show Ux y U0 k k = U y k by unfold Ux; rw [if_pos (Nat.le_refl _)]]
  refine mxL_congr _ fun x hx => ?_
  obtain ⟨_, h2, l, hl, h3, h4⟩ := wins_iff.1 hx
  have := hy.log l hl
  unfold Ux nf
  rw [if_pos (by omega)]
theorem nf_bd {y : YardD} (hy : y.Ok) (x : SK) : 0 ≤ nf y x ∧ nf y x ≤ 1000 := by
  unfold nf need
  have h1 := cnt_nonneg y x.1 x.2
  have h2 := cnt_len y x.1 x.2
  have h3 := hy.count
  have h4 := up_le_self hy.l1 h1
  have h5 := up_nonneg hy.l1 h1
  omega
theorem MapIs.clear {W : World} {M : Nat} {f : SK → Int} {S : SK → Prop} (h : MapIs W M f S) : ∃ o, (∀ ty, (Builtin.clear_ #[73] ty #[.map (some M)]).run Try.prog W = .ok (.tuple #[]) (W.putObj M o)) ∧ ∀ g, MapIs (W.putObj M o) M g (fun _ => False) := by
  obtain ⟨es, c, h⟩ := h
  exact ⟨_, fun ty => run_clear_map (ty := ty) Try.underlying73 h.blk, fun g => .empty c (World.putObj_heap_same h.blk.lt)⟩
theorem MapIn.strike {W : World} {M : Nat} {f : SK → Int} {S : SK → Prop} {es : List (SK × Value × Nat)} {c : Nat} (h : MapIn W M f S es c) (k : SK) (hk : k ∈ keysOf es) :
    (∀ ty ts, (Builtin.delete_ #[73, ts] ty #[.map (some M), pkV k]).run Try.prog W = .ok (.tuple #[]) (W.putObj M (entsO (es.filter (fun e => !decide (e.1 = k))) c))) ∧
      MapIn (W.putObj M (entsO (es.filter (fun e => !decide (e.1 = k))) c)) M f (fun x => S x ∧ x ≠ k) (es.filter (fun e => !decide (e.1 = k))) c := by
  refine ⟨fun ty ts => run_delete_pk h.blk k h.keys hk ty ts, ⟨World.putObj_heap_same h.blk.lt, ?_, ?_, ?_, ?_, ?_⟩⟩
  · exact (List.filter_sublist.map _).nodup h.keys
  · exact fun e he => h.vals e (List.mem_filter.1 he).1
  · exact (List.filter_sublist.map _).nodup h.born
  · exact fun e he => h.old e (List.mem_filter.1 he).1
  · intro x
    rw [← h.mem x]
    unfold keysOf
    simp only [List.mem_map, List.mem_filter, Bool.not_eq_true', decide_eq_false_iff_not]
    constructor
    · rintro ⟨e, ⟨h1, h2⟩, rfl⟩; exact ⟨⟨e, h1, rfl⟩, h2⟩
    · rintro ⟨⟨e, h1, rfl⟩, h2⟩; exact ⟨e, ⟨h1, h2⟩, rfl⟩
theorem wp_only {P : Program} {c : Code} {Q : Exit → Act → World → Prop} {a : Act} {w : World} (h : c.wp P (OnlyN (fun a' w' => Q .normal a' w')) a w) : c.wp P Q a w :=
  wp_mono h (fun e a w h => by
    cases e with
    | normal => exact h
    | _ => exact (show False from h).elim)
theorem Marks.keeps {B0 B : Nat} {ds : List Deferred} {w w' : World} (h : Marks B0 ds w) (hlt : ∀ E, ({ target := .collected E, args := #[] } : Deferred) ∈ ds → E < B) (hk : KeepsB B w w') : Marks B0 ds w' := by
  obtain ⟨Ds, rfl, hn, hD⟩ := h
  exact ⟨Ds, rfl, hn, fun D hd => ⟨(hD D hd).1, hk.same D _ (hD D hd).2 (.inl (hlt D (List.mem_map.2 ⟨D, hd, rfl⟩)))⟩⟩
/-- The vat while a yard is put into it; b1 the method's own variable. -/
structure PS (w : World) (T M b1 : Nat) (y : YardD) (sv : Value) (U H : Nat → Int) (S : SK → Prop) (wr : World) : Prop where
  vat : VatAt wr w.heap.size T M y sv U H
  map : MapIs wr M (nf y) S
  fr : FrLM w T M wr
  box : Blk wr b1 (.cells #[.pointer (some ⟨T, 0, none⟩)] 70)
  own : w.heap.size ≤ b1
section
variable {w : World} {T M b1 : Nat} {y : YardD} {sv : Value} {U H : Nat → Int} {S : SK → Prop} {wr w' : World}
theorem PS.below (h : PS w T M b1 y sv U H S wr) (hb : Below wr.heap.size wr w') : PS w T M b1 y sv U H S w' := ⟨h.vat.below h.fr.size hb, h.map.below hb, h.fr.below hb, h.box.below hb, h.own⟩
theorem PS.keeps {B : Nat} (h : PS w T M b1 y sv U H S wr) (hB : w.heap.size ≤ B) (hb : KeepsB B wr w') : PS w T M b1 y sv U H S w' := by
  have := h.vat.lt
  exact ⟨h.vat.keeps hB h.fr.size hb, h.map.keeps (by omega) hb, h.fr.keeps hB hb, h.box.keepsC hb, h.own⟩
theorem PS.putM {S' : SK → Prop} (h : PS w T M b1 y sv U H S wr) {o : Obj} (hm : MapIs (wr.putObj M o) M (nf y) S') : PS w T M b1 y sv U H S' (wr.putObj M o) := by
  have := h.vat.lt
  have := h.own
  exact ⟨h.vat.putM o, hm, h.fr.putM o, h.box.put (by omega) o, h.own⟩
theorem PS.same {S' : SK → Prop} (h : PS w T M b1 y sv U H S wr) (e : ∀ k, S k ↔ S' k) : PS w T M b1 y sv U H S' wr := ⟨h.vat, h.map.same e, h.fr, h.box, h.own⟩
theorem PS.setUp (h : PS w T M b1 y sv U H S wr) {q : Nat} (hq : q < 102) (v : Int) : PS w T M b1 y sv (updF U q v) H S (wr.setCell ⟨T, 3 + q, none⟩ (.int .i64 v)) := by
  have := h.vat.lt
  have := h.own
  exact ⟨h.vat.setUp hq v, h.map.other (by omega) _, h.fr.setT _ _, h.box.other (by omega) _, h.own⟩
end
theorem list_succ {n : Nat} {l : List Value} (h : l.length = n + 1) : ∃ u tl, l = u :: tl ∧ tl.length = n := by
  match l, h with
  | u :: tl, h => exact ⟨u, tl, rfl, by simpa using h⟩
theorem list68 {l : List Value} (h : l.length = 68) : ∃ u4 u5 u6 u7 u8 u9 u10 u11 u12 u13 u14 u15 u16 u17 u18 u19 u20 u21 u22 u23 u24 u25 u26 u27 u28 u29 u30 u31 u32 u33 u34 u35 u36 u37 u38 u39 u40 u41 u42 u43 u44 u45 u46 u47 u48 u49 u50 u51 u52 u53 u54 u55 u56 u57 u58 u59 u60 u61 u62 u63 u64 u65 u66 u67 u68 u69 u70 u71 : Value, l = [u4, u5, u6, u7, u8, u9, u10, u11, u12, u13, u14, u15, u16, u17, u18, u19, u20, u21, u22, u23, u24, u25, u26, u27, u28, u29, u30, u31, u32, u33, u34, u35, u36, u37, u38, u39, u40, u41, u42, u43, u44, u45, u46, u47, u48, u49, u50, u51, u52, u53, u54, u55, u56, u57, u58, u59, u60, u61, u62, u63, u64, u65, u66, u67, u68, u69, u70, u71] := by
  obtain ⟨u4, lu4, rfl, hu4⟩ := list_succ h
  obtain ⟨u5, lu5, rfl, hu5⟩ := list_succ hu4
  obtain ⟨u6, lu6, rfl, hu6⟩ := list_succ hu5
  obtain ⟨u7, lu7, rfl, hu7⟩ := list_succ hu6
  obtain ⟨u8, lu8, rfl, hu8⟩ := list_succ hu7
  obtain ⟨u9, lu9, rfl, hu9⟩ := list_succ hu8
  obtain ⟨u10, lu10, rfl, hu10⟩ := list_succ hu9
  obtain ⟨u11, lu11, rfl, hu11⟩ := list_succ hu10
  obtain ⟨u12, lu12, rfl, hu12⟩ := list_succ hu11
  obtain ⟨u13, lu13, rfl, hu13⟩ := list_succ hu12
  obtain ⟨u14, lu14, rfl, hu14⟩ := list_succ hu13
  obtain ⟨u15, lu15, rfl, hu15⟩ := list_succ hu14
  obtain ⟨u16, lu16, rfl, hu16⟩ := list_succ hu15
  obtain ⟨u17, lu17, rfl, hu17⟩ := list_succ hu16
  obtain ⟨u18, lu18, rfl, hu18⟩ := list_succ hu17
  obtain ⟨u19, lu19, rfl, hu19⟩ := list_succ hu18
  obtain ⟨u20, lu20, rfl, hu20⟩ := list_succ hu19
  obtain ⟨u21, lu21, rfl, hu21⟩ := list_succ hu20
  obtain ⟨u22, lu22, rfl, hu22⟩ := list_succ hu21
  obtain ⟨u23, lu23, rfl, hu23⟩ := list_succ hu22
  obtain ⟨u24, lu24, rfl, hu24⟩ := list_succ hu23
  obtain ⟨u25, lu25, rfl, hu25⟩ := list_succ hu24
  obtain ⟨u26, lu26, rfl, hu26⟩ := list_succ hu25
  obtain ⟨u27, lu27, rfl, hu27⟩ := list_succ hu26
  obtain ⟨u28, lu28, rfl, hu28⟩ := list_succ hu27
  obtain ⟨u29, lu29, rfl, hu29⟩ := list_succ hu28
  obtain ⟨u30, lu30, rfl, hu30⟩ := list_succ hu29
  obtain ⟨u31, lu31, rfl, hu31⟩ := list_succ hu30
  obtain ⟨u32, lu32, rfl, hu32⟩ := list_succ hu31
  obtain ⟨u33, lu33, rfl, hu33⟩ := list_succ hu32
  obtain ⟨u34, lu34, rfl, hu34⟩ := list_succ hu33
  obtain ⟨u35, lu35, rfl, hu35⟩ := list_succ hu34
  obtain ⟨u36, lu36, rfl, hu36⟩ := list_succ hu35
  obtain ⟨u37, lu37, rfl, hu37⟩ := list_succ hu36
  obtain ⟨u38, lu38, rfl, hu38⟩ := list_succ hu37
  obtain ⟨u39, lu39, rfl, hu39⟩ := list_succ hu38
  obtain ⟨u40, lu40, rfl, hu40⟩ := list_succ hu39
  obtain ⟨u41, lu41, rfl, hu41⟩ := list_succ hu40
  obtain ⟨u42, lu42, rfl, hu42⟩ := list_succ hu41
  obtain ⟨u43, lu43, rfl, hu43⟩ := list_succ hu42
  obtain ⟨u44, lu44, rfl, hu44⟩ := list_succ hu43
  obtain ⟨u45, lu45, rfl, hu45⟩ := list_succ hu44
  obtain ⟨u46, lu46, rfl, hu46⟩ := list_succ hu45
  obtain ⟨u47, lu47, rfl, hu47⟩ := list_succ hu46
  obtain ⟨u48, lu48, rfl, hu48⟩ := list_succ hu47
  obtain ⟨u49, lu49, rfl, hu49⟩ := list_succ hu48
  obtain ⟨u50, lu50, rfl, hu50⟩ := list_succ hu49
  obtain ⟨u51, lu51, rfl, hu51⟩ := list_succ hu50
  obtain ⟨u52, lu52, rfl, hu52⟩ := list_succ hu51
  obtain ⟨u53, lu53, rfl, hu53⟩ := list_succ hu52
  obtain ⟨u54, lu54, rfl, hu54⟩ := list_succ hu53
  obtain ⟨u55, lu55, rfl, hu55⟩ := list_succ hu54
  obtain ⟨u56, lu56, rfl, hu56⟩ := list_succ hu55
  obtain ⟨u57, lu57, rfl, hu57⟩ := list_succ hu56
  obtain ⟨u58, lu58, rfl, hu58⟩ := list_succ hu57
  obtain ⟨u59, lu59, rfl, hu59⟩ := list_succ hu58
  obtain ⟨u60, lu60, rfl, hu60⟩ := list_succ hu59
  obtain ⟨u61, lu61, rfl, hu61⟩ := list_succ hu60
  obtain ⟨u62, lu62, rfl, hu62⟩ := list_succ hu61
  obtain ⟨u63, lu63, rfl, hu63⟩ := list_succ hu62
  obtain ⟨u64, lu64, rfl, hu64⟩ := list_succ hu63
  obtain ⟨u65, lu65, rfl, hu65⟩ := list_succ hu64
  obtain ⟨u66, lu66, rfl, hu66⟩ := list_succ hu65
  obtain ⟨u67, lu67, rfl, hu67⟩ := list_succ hu66
  obtain ⟨u68, lu68, rfl, hu68⟩ := list_succ hu67
  obtain ⟨u69, lu69, rfl, hu69⟩ := list_succ hu68
  obtain ⟨u70, lu70, rfl, hu70⟩ := list_succ hu69
  obtain ⟨u71, lu71, rfl, hu71⟩ := list_succ hu70
  obtain rfl := List.length_eq_zero_iff.1 hu71
  exact ⟨u4, u5, u6, u7, u8, u9, u10, u11, u12, u13, u14, u15, u16, u17, u18, u19, u20, u21, u22, u23, u24, u25, u26, u27, u28, u29, u30, u31, u32, u33, u34, u35, u36, u37, u38, u39, u40, u41, u42, u43, u44, u45, u46, u47, u48, u49, u50, u51, u52, u53, u54, u55, u56, u57, u58, u59, u60, u61, u62, u63, u64, u65, u66, u67, u68, u69, u70, u71, rfl⟩
def leftS (es : List (SK × Value × Nat)) (seen : Array Nat) : List (SK × Value × Nat) := es.filter fun e => !seen.contains e.2.2
theorem leftOf_S (es : List (SK × Value × Nat)) (seen : Array Nat) : leftOf (es.map ent).toArray seen = ((leftS es seen).map ent).toArray := by
  unfold leftOf leftS
  apply Array.toList_inj.1
  rw [Array.toList_filter]
  show List.filter _ (es.map ent) = _
  rw [List.filter_map]
  rfl
theorem leftS_push {es : List (SK × Value × Nat)} {seen : Array Nat} {e : SK × Value × Nat} (he : e ∈ leftS es seen) : (leftS es (seen.push e.2.2)).length < (leftS es seen).length := by
  have h : leftS es (seen.push e.2.2) = (leftS es seen).filter fun x => !decide (x.2.2 = e.2.2) := by
    unfold leftS
    rw [List.filter_filter]
    congr 1
    funext x
    rw [Bool.eq_iff_iff]
    simp
    exact And.comm
  rw [h, List.length_filter_lt_length_iff_exists]
  exact ⟨e, he, by simp⟩
theorem born_inj : ∀ {es : List (SK × Value × Nat)}, (es.map (·.2.2)).Nodup → ∀ {e e' : SK × Value × Nat}, e ∈ es → e' ∈ es → e.2.2 = e'.2.2 → e = e'
  | [], _, _, _, h, _, _ => by cases h
  | a :: es, hn, e, e', h1, h2, hb => by
    obtain ⟨n1, n2⟩ := List.nodup_cons.1 hn
    rcases List.mem_cons.1 h1 with q1 | q1 <;> rcases List.mem_cons.1 h2 with q2 | q2
    · rw [q1, q2]
    · rw [q1] at hb; exact (n1 (List.mem_map.2 ⟨e', q2, hb.symm⟩)).elim
    · rw [q2] at hb; exact (n1 (List.mem_map.2 ⟨e, q1, hb⟩)).elim
    · exact born_inj n2 q1 q2 hb
theorem leftS_filter (es : List (SK × Value × Nat)) (seen : Array Nat) (p : SK × Value × Nat → Bool) : (leftS (es.filter p) seen).length ≤ (leftS es seen).length := by
  unfold leftS
  rw [List.filter_filter, show (fun a => (!seen.contains a.2.2) && p a) = fun a => p a && (!seen.contains a.2.2) from funext fun a => Bool.and_comm _ _, ← List.filter_filter]
  exact List.length_filter_le _ _
/-- A vat before a yard is put into it. -/
structure PreV (w : World) (T M : Nat) (U H : Nat → Int) : Prop where
  blk : ∃ cs l0 s0, Blk w T (.cells cs 78) ∧ VCs cs l0 s0 U H M
  ne : T ≠ M
  lt : M < w.heap.size
  zero : U 0 = 0
  bd : ∀ q, q ≤ 101 → 0 ≤ U q ∧ U q ≤ 1000
/-- A vat with a yard. -/
structure LaidV (w : World) (T M : Nat) (y : YardD) (n₀ : Nat) (sv : Value) (H : Nat → Int) : Prop where
  vat : VatAt w n₀ T M y sv (U y) H
  size : n₀ ≤ w.heap.size
  map : MapIs w M (nf y) (Sy y)
set_option maxRecDepth 100000 in
set_option maxHeartbeats 16000000 in
theorem put_any (T M : Nat) (sv : Value) (y : YardD) (U0 H0 : Nat → Int) (f0 : SK → Int) (S0 : SK → Prop) (w : World) (hl : LogsIn w w.heap.size T M sv y.logs) (hp : PreV w T M U0 H0) (hM : MapIs w M f0 S0) (hy : y.Ok) :
    Calls Try.prog 67 #[.pointer (some ⟨T, 0, none⟩), .agg #[.int .i64 y.load, sv]] w fun e w' => (∃ v, e = .returned v) ∧ LaidV w' T M y w.heap.size sv H0 ∧ FrLM w T M w' := by
  obtain ⟨sa, cap, hsve⟩ := hl.slice
  obtain ⟨⟨cs, l0, s0, hb, hvc⟩, hTM, hMl, hU0, hUb⟩ := hp
  have hTl := hb.lt
  have HYD := Lib.hid hy
  have HU0 := Lib.hid hU0
  have HUB := Lib.hid hUb
  have t0 := (hb.cell 0).trans hvc.e0
  have t1 := (hb.cell 1).trans hvc.e1
  have f0' := hb.frozen 0
  have f1' := hb.frozen 1
  have t2 := (hb.cell 2).trans hvc.mp
  have hm1 : MapIs ((w.setCell ⟨T, 0, none⟩ (.int .i64 y.load)).setCell ⟨T, 1, none⟩ sv) M f0 S0 := (hM.other (fun e => hTM e.symm) _).other (fun e => hTM e.symm) _
  have hm2 : MapIs ((((w.setCell ⟨T, 0, none⟩ (.int .i64 y.load)).setCell ⟨T, 1, none⟩ sv).alloc (.cells #[.pointer (some ⟨T, 0, none⟩)] 70)).alloc (.cells #[.int .i64 y.load, sv] 24)) M f0 S0 := hm1.below (below2 _ _ _)
  obtain ⟨o, hclr, hcm⟩ := hm2.clear
  have hMl2 := hm2.lt
  have HP0 : Hid (PS w T M w.heap.size y sv U0 H0 (Sw y 0) (((((w.setCell ⟨T, 0, none⟩ (.int .i64 y.load)).setCell ⟨T, 1, none⟩ sv).alloc (.cells #[.pointer (some ⟨T, 0, none⟩)] 70)).alloc (.cells #[.int .i64 y.load, sv] 24)).putObj M o)) := Lib.hid (by
    have hbs := ((hb.set (j := 0) (.int .i64 y.load)).set (j := 1) sv)
    have hbn := (hbs.alloc (.cells #[.pointer (some ⟨T, 0, none⟩)] 70)).alloc (.cells #[.int .i64 y.load, sv] 24)
    have hsz : ((w.setCell ⟨T, 0, none⟩ (.int .i64 y.load)).setCell ⟨T, 1, none⟩ sv).heap.size = w.heap.size := by simp [World.setCell]
    have hbx := (Blk.new ((w.setCell ⟨T, 0, none⟩ (.int .i64 y.load)).setCell ⟨T, 1, none⟩ sv) (.cells #[.pointer (some ⟨T, 0, none⟩)] 70)).alloc (.cells #[.int .i64 y.load, sv] 24)
    rw [hsz] at hbx
    have hfr := (((FrLM.refl w T M).setT 0 (.int .i64 y.load)).setT 1 sv).below (below2 _ (.cells #[.pointer (some ⟨T, 0, none⟩)] 70) (.cells #[.int .i64 y.load, sv] 24))
    have hvt : VatAt ((((w.setCell ⟨T, 0, none⟩ (.int .i64 y.load)).setCell ⟨T, 1, none⟩ sv).alloc (.cells #[.pointer (some ⟨T, 0, none⟩)] 70)).alloc (.cells #[.int .i64 y.load, sv] 24)) w.heap.size T M y sv U0 H0 :=
      ⟨_, hbn, hvc.setYard y.load sv, hl.move fun k h1 h2 h3 => hfr.same k h1 h2 h3, hTl, hMl, hTM⟩
    exact ⟨hvt.putM o, (hcm (nf y)).same fun k => ⟨fun h => h.elim, fun h => (Sw_zero y k h).elim⟩, hfr.putM o, hbx.put (by omega) o, Nat.le_refl _⟩)
  clear hl hb hvc hM hy hm1 hm2 hcm hU0 hUb
  refine (callsIn_wide (n := 12)).1 ?_
  refine callsIn_of_wp_marks Try.func67 rfl trivial ?_ rfl
  simp only [Try.ntmps67, List.size_toArray, List.length_cons, List.length_nil, Nat.reduceAdd, Nat.reduceSub, Array.replicate_succ, Array.replicate_zero, List.push_toArray, List.append_toArray, List.nil_append, List.cons_append]
  subst hsve
  gi_wp2
  clear t0 t1 f0' f1' t2 hclr hMl2
  generalize hsvg : Value.slice sa y.logs.length cap = sv at *
  generalize (((((w.setCell ⟨T, 0, none⟩ (.int .i64 y.load)).setCell ⟨T, 1, none⟩ sv).alloc (.cells #[.pointer (some ⟨T, 0, none⟩)] 70)).alloc (.cells #[.int .i64 y.load, sv] 24)).putObj M o) = W1 at *
  refine wpIn_loop_inv (Inv := fun m a wr => ∃ (k : Nat) (tl : List Value) (ds : List Deferred), k ≤ 101 ∧ m = 101 - k ∧ tl.length = 68 ∧ tl[13]? = some (.int .i64 k) ∧ a = { tmps := (.pointer (some ⟨T, 0, none⟩) :: .agg #[.int .i64 y.load, sv] :: .pointer (some ⟨w.heap.size, 0, none⟩) :: .pointer (some ⟨w.heap.size + 1, 0, none⟩) :: tl).toArray, defers := ds } ∧ Marks w.heap.size ds wr ∧ PS w T M w.heap.size y sv U0 H0 (Sw y k) wr) ?step (m := 101) ?init
  case init => exact ⟨0, _, [], Nat.zero_le _, by omega, by rfl, by rfl, rfl, Marks.nil _ _, HP0.out⟩
  case step =>
    clear HP0
    rintro m a wr ⟨k, tl, ds, hk, hm, htl, h13, rfl, hmk, hst⟩
    obtain ⟨u4, u5, u6, u7, u8, u9, u10, u11, u12, u13, u14, u15, u16, u17, u18, u19, u20, u21, u22, u23, u24, u25, u26, u27, u28, u29, u30, u31, u32, u33, u34, u35, u36, u37, u38, u39, u40, u41, u42, u43, u44, u45, u46, u47, u48, u49, u50, u51, u52, u53, u54, u55, u56, u57, u58, u59, u60, u61, u62, u63, u64, u65, u66, u67, u68, u69, u70, u71, rfl⟩ := list68 htl
    obtain rfl : u17 = .int .i64 k := by simpa using h13
    have HMK := Lib.hid hmk
    have HMM := Lib.hid hm
    have HST := Lib.hid hst
    clear htl h13 hmk hm hst
    by_cases hlt : k < 101
    · have x1 := HST.out.box.cell 0
      simp at x1
      have d1 : decide ((k : Int) < 101) = true := by simp; omega
      gi_wp2_with fail
      clear d1
      refine ⟨trivial, (callsIn_wide.2 (windows_any T k _)).mono ?_⟩
      rintro e w7 ⟨rfl, rfl⟩
      have hb7 := below2 wr (.cells #[.pointer (some ⟨T, 0, none⟩)] 70) (.cells #[.int .i64 (k : Int)] 2)
      have hlM := HST.out.vat.lt
      have hfz := HST.out.fr.size
      have HSH := Lib.hid (WnAt.new (w := wr) (h := k) HST.out.vat.hd hfz)
      have HS7 := Lib.hid (HST.out.below hb7)
      have HMK7 := Lib.hid (HMK.out.below hb7)
      have hz7 : wr.heap.size + 2 = ((wr.alloc (.cells #[.pointer (some ⟨T, 0, none⟩)] 70)).alloc (.cells #[.int .i64 (k : Int)] 2)).heap.size := by simp
      generalize (wr.alloc (.cells #[.pointer (some ⟨T, 0, none⟩)] 70)).alloc (.cells #[.int .i64 (k : Int)] 2) = w7 at *
      clear HST HMK hb7 x1
      gi_wp2_with fail
      generalize hA : Act.mk _ _ = a0
      have eg : ∀ args w, (callFunc 93 args).run Try.prog w = .ok (.enter 93 args) w := fun _ _ => rfl
      have hmlt : ∀ E, ({ target := .collected E, args := #[] } : Deferred) ∈ ds → E < w7.heap.size := fun E hE => HMK7.out.lt hE
      have hseq := windows_stops (12 - 1) (by omega) T M (wr.heap.size + 2) (wr.heap.size + 1) wr.heap.size k y sv w7 HSH.out HYD.out
      have hTn : T < wr.heap.size + 2 := by omega
      refine wpIn_rangeFunc_ownH (F := Fence.wide) rfl (by omega) (gf := 93) (lb := #[.pointer (some ⟨wr.heap.size + 1, 0, none⟩), .pointer (some ⟨wr.heap.size, 0, none⟩)]) (by rw [← hA]; rfl) trivial eg
        hseq (fun h k => KT.trans h k) (fun W l o o' hl _ _ _ => KT.put (by omega) hTn) (Below.refl _ _) (fun _ => rfl)
        (fun (pre : List (WN y k)) W => PS w T M w.heap.size y sv U0 H0 (fun x => Sw y k x ∨ ∃ z ∈ pre, x = z.1) W ∧ Marks w.heap.size ds W ∧ w7.heap.size ≤ W.heap.size)
        (fun _ _ _ => False)
        (ownFrom_of fun pre W W' ⟨h1, h2, h3⟩ hk => ⟨h1.keeps (by omega) hk, h2.keeps hmlt hk, Nat.le_trans h3 hk.size⟩)
        (fun _ _ _ _ _ hs _ _ => hs)
        ⟨HS7.out.same fun k => ⟨fun h => .inl h, fun h => h.elim id fun ⟨x, hx, _⟩ => by cases hx⟩, HMK7.out, Nat.le_refl _⟩
        (fun x a' W => ∃ Bx, w7.heap.size ≤ Bx ∧ Blk W Bx (.cells #[.int .i64 x.1.1, .int .i64 x.1.2] 27) ∧ a' = { tmps := (a0.tmps.setIfInBounds 23 (pkV x.1)).setIfInBounds 5 (.pointer (some ⟨Bx, 0, none⟩)), defers := [] })
        (fun x a' => ownFrom_of fun _ W W' h hk => by obtain ⟨Bx, h1, h2, h3⟩ := h; exact ⟨Bx, h1, h2.keepsC hk, h3⟩)
        ?assign ?body ?done ?stop
      case assign =>
        rintro l pre x W K ⟨h1, h2, h3⟩ hK
        subst hA
        unfold wnE pkV
        gi_wp2
        exact hK _ _ ((KeepsOthers.alloc _ _).from _) (KT.of_below (below1 _ _) (by omega) (by omega)) ⟨h1.below (below1 _ _), h2.below (below1 _ _), by simp; omega⟩ ⟨W.heap.size, by omega, Blk.new W _, rfl⟩
      case body =>
        rintro l pre x a' W hl ⟨rr, hrr⟩ ⟨h1, h2, h3⟩ ⟨Bx, hBx, bX, rfl⟩ hlt
        subst hA
        simp only [List.setIfInBounds_toArray, List.set_cons_succ, List.set_cons_zero]
        have hbl := bX.lt
        have hsz3 : w.heap.size ≤ W.heap.size := h1.fr.size
        obtain ⟨a, ha⟩ : ∃ a, x.1.1 = a := ⟨_, rfl⟩
        obtain ⟨b, hb⟩ : ∃ b, x.1.2 = b := ⟨_, rfl⟩
        have hxe : x.1 = (a, b) := Prod.ext ha hb
        obtain ⟨nv, hnv⟩ : ∃ nv, need y a b = nv := ⟨_, rfl⟩
        have HW1 : ∀ (d : Nat) (os : Array Obj), _ := fun d os => Calls.regrown_of (need_any w.heap.size T M y sv U0 H0 a b (grow (redrawn W d) os) (h1.vat.below hsz3 (below_regrown W d os)) HYD.out (by have := (below_regrown W d os).size; omega))
        rw [hnv] at HW1
        have e1 := h1.box.cell 0
        have em := h1.vat.mp
        rw [ha, hb] at bX
        have eX := bX.cell 0
        have eX' := bX.cell 1
        simp at e1 eX eX'
        have g0 := fun d os => cell_regrown e1 d os
        have g1 := fun d os => cell_regrown em d os
        have g3 := fun d os => cell_regrown eX d os
        have g4 := fun d os => cell_regrown eX' d os
        have HI1 := Lib.hid h1
        have HI2 := Lib.hid h2
        have HNV := Lib.hid hnv
        have HXE := Lib.hid hxe
        rw [hxe]
        unfold pkV
        clear e1 em eX eX' hnv ha hb hxe
        have HT0 : T < W.heap.size := h1.vat.lt.1
        clear h1 h2
        gi_wp2_with fail
        refine wpIn_region_tail 8 (by kernel_rfl) (by kernel_rfl) ?_
        repeat (quiet_step ((go_at_call 58; exact HW1 _ _)))
        refine wpQuiet_nil ?_
        intro _ hw'
        obtain ⟨⟨dq, osq⟩, hw''⟩ := hw'
        subst hw''
        simp only [List.drop_succ_cons, List.drop_zero]
        have hb8 := below_regrown W dq osq
        have HS8 := Lib.hid (HI1.out.below hb8)
        have HM8 := Lib.hid (HI2.out.below hb8)
        have hz8 := hb8.size
        have HKO := Lib.hid (KeepsOthers.of_below hb8)
        have HKT := Lib.hid (show KT T M (wr.heap.size + 2) W (grow (redrawn W dq) osq) from KT.of_below hb8 (by omega) HT0)
        clear g0 g1 g3 g4 HW1 hb8 HI1 HI2
        generalize grow (redrawn W dq) osq = w9 at *
        obtain ⟨o, hrun, hmap⟩ := HS8.out.map.put (a, b)
        have HMP := Lib.hid hmap
        rw [show nf y (a, b) = nv from HNV.out] at hrun
        unfold pkV at hrun
        simp only at hrun
        have hMl := HS8.out.map.lt
        clear hmap
        gi_wp2
        have hgr := grownBy_putObj' w9 M o
        refine ⟨(HKO.out.from _).trans (KeepsFrom.of_grownBy hgr (fun j e => by cases e; omega)), HKT.out.trans (KT.putM hlM.2.2.2), (HS8.out.putM HMP.out).same fun q => ?_, HM8.out.from (KeepsFrom.of_grownBy hgr (fun j e => by cases e; omega)), by simp; omega⟩
        constructor
        · rintro ((h | ⟨z, hz, h⟩) | rfl)
          · exact .inl h
          · exact .inr ⟨z, List.mem_append_left _ hz, h⟩
          · exact .inr ⟨x, List.mem_append_right _ (List.mem_singleton.2 rfl), HXE.out.symm⟩
        · rintro (h | ⟨z, hz, h⟩)
          · exact .inl (.inl h)
          · rcases List.mem_append.1 hz with hz | hz
            · exact .inl (.inr ⟨z, hz, h⟩)
            · simp only [List.mem_singleton] at hz
              subst hz
              exact .inr (h.trans HXE.out)
      case done =>
        rintro D zs W hD hzs ⟨h1, h2, h3⟩ hK
        subst hA
        have hbl := h1.box.lt
        have hDl := (Array.getElem?_eq_some_iff.1 hK).1
        have hfr1 := h1.fr.size
        have hmk9 := h2.cons (D := D) (by omega) hK (fun E hE e => by have := hmlt E hE; omega)
        have hst9 : PS w T M w.heap.size y sv U0 H0 (Sw y (k + 1)) W := h1.same fun q => by
          rw [Sw_step]
          constructor
          · rintro (h | ⟨z, hz, h⟩)
            · exact .inl h
            · have hq := List.mem_map.2 ⟨z, hz, h.symm⟩
              rw [hzs] at hq
              exact .inr hq
          · rintro (h | h)
            · exact .inl h
            · rw [← hzs] at h
              obtain ⟨z, hz, e⟩ := List.mem_map.1 h
              exact .inr ⟨z, hz, e.symm⟩
        have HE := Lib.hid (And.intro hmk9 hst9)
        clear hmk9 hst9 h1 h2 hK hzs
        gi_wp2
        exact ⟨101 - (k + 1), by have := HMM.out; omega, k + 1, _, _, by omega, rfl, by rfl, by rfl, rfl, HE.out.1, HE.out.2⟩
      case stop =>
        rintro D c pre W _ _ h _
        exact h.elim
    · obtain rfl : k = 101 := by omega
      have d1 : decide (((101 : Nat) : Int) < 101) = false := by decide
      have x1 := HST.out.box.cell 0
      have xm := HST.out.vat.mp
      simp at x1
      obtain ⟨es0, clock, hmap0⟩ := HST.out.map
      have hc := hmap0.blk
      have hTl2 := HST.out.vat.lt
      have hfz := HST.out.fr.size
      have HBX := Lib.hid (show w.heap.size < wr.heap.size from HST.out.box.lt)
      have hrng : (Instr.range 73 (.map (some M))).run Try.prog wr = .ok (.pointer (some ⟨wr.heap.size, 0, none⟩)) (wr.alloc (.mapIter (some M) clock #[] clock)) := by
        have ht : Try.prog.underlying 73 = some (.map 27 2) := by kernel_rfl
        simp only [Instr.range, Sem.run_bind, run_underlying ht, Result.andThen_ok, run_getObj_map hc, Sem.run_pure]
        rfl
      have hW1 := below1 wr (.mapIter (some M) clock #[] clock)
      have HI0 := Lib.hid (Blk.new wr (.mapIter (some M) clock #[] clock))
      have HMI0 : Hid (MapIn (wr.alloc (.mapIter (some M) clock #[] clock)) M (nf y) (Sw y 101) es0 clock) := Lib.hid ⟨hc.below hW1, hmap0.keys, hmap0.vals, hmap0.born, hmap0.old, hmap0.mem⟩
      have HS1 := Lib.hid (HST.out.below hW1)
      have HMK1 := Lib.hid (HMK.out.below hW1)
      clear hmap0 hc hW1 HMM
      gi_wp2
      clear x1 xm hrng d1
      refine wpIn_loop_inv (Inv := fun m a W => ∃ (tl : List Value) (es : List (SK × Value × Nat)) (seen : Array Nat) (S : SK → Prop), tl.length = 68 ∧ tl[33]? = some (.pointer (some ⟨wr.heap.size, 0, none⟩)) ∧ a = { tmps := (.pointer (some ⟨T, 0, none⟩) :: .agg #[.int .i64 y.load, sv] :: .pointer (some ⟨w.heap.size, 0, none⟩) :: .pointer (some ⟨w.heap.size + 1, 0, none⟩) :: tl).toArray, defers := ds } ∧ m = (leftS es seen).length ∧ Blk W wr.heap.size (.mapIter (some M) clock seen clock) ∧ MapIn W M (nf y) S es clock ∧ (∀ e ∈ es, e.2.2 ∈ seen.toList → nf y e.1 ≠ 0) ∧ ((∀ x, S x → Sw y 101 x) ∧ ∀ x, Sw y 101 x → nf y x ≠ 0 → S x) ∧ Marks w.heap.size ds W ∧ PS w T M w.heap.size y sv U0 H0 S W ∧ wr.heap.size < W.heap.size) ?step2 (m := (leftS es0 #[]).length) ?init2
      case init2 => exact ⟨_, es0, #[], Sw y 101, by rfl, by rfl, rfl, rfl, HI0.out, HMI0.out, fun e _ h => by simp at h, ⟨fun x h => h, fun x h _ => h⟩, HMK1.out, HS1.out, by simp⟩
      case step2 =>
        clear HI0 HMI0 HS1 HMK1 HST HMK
        rintro m2 a2 W ⟨tl, es, seen, S, htl, h33, rfl, hm, hit, hmap, hseen, ⟨hS1, hS2⟩, hmk, hst, hwlt⟩
        obtain ⟨u4, u5, u6, u7, u8, u9, u10, u11, u12, u13, u14, u15, u16, u17, u18, u19, u20, u21, u22, u23, u24, u25, u26, u27, u28, u29, u30, u31, u32, u33, u34, u35, u36, u37, u38, u39, u40, u41, u42, u43, u44, u45, u46, u47, u48, u49, u50, u51, u52, u53, u54, u55, u56, u57, u58, u59, u60, u61, u62, u63, u64, u65, u66, u67, u68, u69, u70, u71, rfl⟩ := list68 htl
        obtain rfl : u37 = .pointer (some ⟨wr.heap.size, 0, none⟩) := by simpa using h33
        have HMP := Lib.hid hmap
        have HSE := Lib.hid hseen
        have HSS := Lib.hid (And.intro hS1 hS2)
        have HMK := Lib.hid hmk
        have HST := Lib.hid hst
        have HMM := Lib.hid hm
        have hMb := hmap.blk
        have hnx := run_next_at (P := Try.prog) W 0 wr.heap.size M clock clock seen (es.map ent).toArray clock hit hMb (by
          intro x hx
          simp only at hx
          obtain ⟨e, he, rfl⟩ := List.mem_map.1 hx
          exact HMP.out.old e he) (Nat.le_refl _)
        rw [leftOf_S] at hnx
        clear htl h33 hmap hseen hS1 hS2 hmk hst hm
        rcases hnx with ⟨hz, hrun⟩ | ⟨me, hme, w1, hw1, hrun⟩
        · have hnil : leftS es seen = [] := by simpa using hz
          have hrun' : ∀ ty, (Instr.next (.pointer (some ⟨wr.heap.size, 0, none⟩)) false ty).run Try.prog W = .ok (.tuple #[.bool false]) W := fun ty => hrun
          have HSY : Hid (∀ x, S x ↔ Sy y x) := Lib.hid fun x => by
            constructor
            · intro hx
              refine ⟨HSS.out.1 x hx, ?_⟩
              obtain ⟨e, he, hek⟩ := List.mem_map.1 ((HMP.out.mem x).2 hx)
              have hs : e.2.2 ∈ seen.toList := by
                refine Classical.not_not.1 fun hn => ?_
                have : e ∈ leftS es seen := List.mem_filter.2 ⟨he, by simpa using hn⟩
                rw [hnil] at this
                cases this
              have := HSE.out e he hs
              rwa [hek] at this
            · exact fun hx => HSS.out.2 x hx.1 hx.2
          have HS3 := Lib.hid (HST.out.same HSY.out)
          clear hrun hz hnil hit hMb HSY HST HSS HSE HMP HMM
          gi_wp2_with fail
          refine wpIn_loop_inv (Inv := fun m a W2 => ∃ (k : Nat) (tl : List Value), k ≤ 101 ∧ m = 101 - k ∧ tl.length = 68 ∧ tl[46]? = some (.int .i64 k) ∧ a = { tmps := (.pointer (some ⟨T, 0, none⟩) :: .agg #[.int .i64 y.load, sv] :: .pointer (some ⟨w.heap.size, 0, none⟩) :: .pointer (some ⟨w.heap.size + 1, 0, none⟩) :: tl).toArray, defers := ds } ∧ Marks w.heap.size ds W2 ∧ PS w T M w.heap.size y sv (Ux y U0 k) H0 (Sy y) W2) ?step3 (m := 101) ?init3
          case init3 => exact ⟨0, _, Nat.zero_le _, by omega, by rfl, by rfl, rfl, HMK.out, by rw [Ux_zero y HU0.out]; exact HS3.out⟩
          case step3 =>
            clear HS3 HMK
            rintro m3 a3 W3 ⟨k, tl, hk3, hm, htl, h46, rfl, hmk, hst⟩
            obtain ⟨u4, u5, u6, u7, u8, u9, u10, u11, u12, u13, u14, u15, u16, u17, u18, u19, u20, u21, u22, u23, u24, u25, u26, u27, u28, u29, u30, u31, u32, u33, u34, u35, u36, u37, u38, u39, u40, u41, u42, u43, u44, u45, u46, u47, u48, u49, u50, u51, u52, u53, u54, u55, u56, u57, u58, u59, u60, u61, u62, u63, u64, u65, u66, u67, u68, u69, u70, u71, rfl⟩ := list68 htl
            obtain rfl : u50 = .int .i64 k := by simpa using h46
            have HMM := Lib.hid hm
            clear htl h46 hm
            by_cases hlt3 : k < 101
            · have d1 : decide ((k : Int) < 101) = true := by simp; omega
              gi_wp2_with fail
              clear d1
              have HS3d := Lib.hid (show PS w T M w.heap.size y sv (Ux y U0 k) H0 (Sy y) W3.drew from hst.below (Below.refl _ _).drew)
              have HMKd := Lib.hid (show Marks w.heap.size ds W3.drew from hmk.below (Below.refl _ _).drew)
              have x1 : W3.drew.cell? ⟨w.heap.size, 0, none⟩ = some (.pointer (some ⟨T, 0, none⟩)) := by have := HS3d.out.box.cell 0; simpa using this
              obtain ⟨u0, hu0⟩ : ∃ u0, Ux y U0 k k = u0 := ⟨_, rfl⟩
              have xu : W3.drew.cell? ⟨T, 3 + k, none⟩ = some (.int .i64 u0) := by rw [← hu0]; exact HS3d.out.vat.up (p := k) (by omega)
              have hmf : ∀ (fn : Fn) (first cap : Array Value) (w : World), (Instr.makeFunc fn first cap).run Try.prog w = .ok (.func fn first cap) w := fun _ _ _ _ => rfl
              have ww : IntKind.i64.wrap ((k : Int) + 1) = (k : Int) + 1 := IntWalk.i64_in _ (by omega)
              have ip2 : (k : Int) < 102 := by omega
              have HU9 := Lib.hid hu0
              clear hu0 hst hmk
              refine wpIn_wide.2 (wp_only ?_)
              refine (wp_region_T 17 (fun W' => W'.cell? ⟨w.heap.size, 0, none⟩ = some (.pointer (some ⟨T, 0, none⟩)) ∧ W'.cell? ⟨T, 3 + k, none⟩ = some (.int .i64 u0)) (by kernel_rfl) (by kernel_rfl) ⟨x1, xu⟩ ?_)
              intro inv hS
              clear x1 xu
              generalize W3.drew = V0 at *
              refine wpAnyT_take inv (by kernel_rfl) (by omega) (i := 0) (v := .pointer (some ⟨T, 0, none⟩)) rfl (by kernel_rfl) (by kernel_rfl) (fun _ _ _ h => h) (Or.inl ⟨by kernel_rfl, ?_⟩) (by assumption) ?_
              · rintro W' ⟨q0, q1⟩
                go_simp
              intro inv2
              clear inv
              have inv := inv2
              clear inv2
              simp only [Act.put, List.setIfInBounds_toArray]
              refine wpAnyT_take inv (by kernel_rfl) (by omega) (i := 1) (v := .int .i64 (k : Int)) rfl (by kernel_rfl) (by kernel_rfl) (fun _ _ _ h => h) (Or.inl ⟨by kernel_rfl, ?_⟩) (by assumption) ?_
              · rintro W' ⟨q0, q1⟩
                go_simp
              intro inv2
              clear inv
              have inv := inv2
              clear inv2
              simp only [Act.put]
              refine wpAnyT_take inv (by kernel_rfl) (by omega) (i := 2) (v := .int .i64 ((k : Int) + 1)) rfl (by kernel_rfl) (by kernel_rfl) (fun _ _ _ h => h) (Or.inl ⟨by kernel_rfl, ?_⟩) (by assumption) ?_
              · rintro W' ⟨q0, q1⟩
                go_simp
              intro inv2
              clear inv
              have inv := inv2
              clear inv2
              simp only [Act.put]
              refine wpAnyT_take inv (by kernel_rfl) (by omega) (i := 3) (v := .pointer (some ⟨T, 0, none⟩)) rfl (by kernel_rfl) (by kernel_rfl) (fun _ _ _ h => h) (Or.inl ⟨by kernel_rfl, ?_⟩) (by assumption) ?_
              · rintro W' ⟨q0, q1⟩
                go_simp
              intro inv2
              clear inv
              have inv := inv2
              clear inv2
              simp only [Act.put]
              refine wpAnyT_take inv (by kernel_rfl) (by omega) (i := 4) (v := .int .i64 (k : Int)) rfl (by kernel_rfl) (by kernel_rfl) (fun _ _ _ h => h) (Or.inl ⟨by kernel_rfl, ?_⟩) (by assumption) ?_
              · rintro W' ⟨q0, q1⟩
                go_simp
              intro inv2
              clear inv
              have inv := inv2
              clear inv2
              simp only [Act.put]
              refine wpAnyT_take inv (by kernel_rfl) (by omega) (i := 5) (v := .pointer (some ⟨T, 0, none⟩)) rfl (by kernel_rfl) (by kernel_rfl) (fun _ _ _ h => h) (Or.inl ⟨by kernel_rfl, ?_⟩) (by assumption) ?_
              · rintro W' ⟨q0, q1⟩
                go_simp
              intro inv2
              clear inv
              have inv := inv2
              clear inv2
              simp only [Act.put]
              refine wpAnyT_take inv (by kernel_rfl) (by omega) (i := 6) (v := .pointer (some ⟨T, 3, none⟩)) rfl (by kernel_rfl) (by kernel_rfl) (fun _ _ _ h => h) (Or.inl ⟨by kernel_rfl, ?_⟩) (by assumption) ?_
              · rintro W' ⟨q0, q1⟩
                go_simp
              intro inv2
              clear inv
              have inv := inv2
              clear inv2
              simp only [Act.put]
              refine wpAnyT_take inv (by kernel_rfl) (by omega) (i := 7) (v := .pointer (some ⟨T, 3 + k, none⟩)) rfl (by kernel_rfl) (by kernel_rfl) (fun _ _ _ h => h) (Or.inl ⟨by kernel_rfl, ?_⟩) (by assumption) ?_
              · rintro W' ⟨q0, q1⟩
                go_simp
              intro inv2
              clear inv
              have inv := inv2
              clear inv2
              simp only [Act.put]
              refine wpAnyT_take inv (by kernel_rfl) (by omega) (i := 8) (v := .int .i64 u0) rfl (by kernel_rfl) (by kernel_rfl) (fun _ _ _ h => h) (Or.inl ⟨by kernel_rfl, ?_⟩) (by assumption) ?_
              · rintro W' ⟨q0, q1⟩
                go_simp
              intro inv2
              clear inv
              have inv := inv2
              clear inv2
              simp only [Act.put]
              refine wpAnyT_take inv (by kernel_rfl) (by omega) (i := 9) (v := .pointer (some ⟨T, 0, none⟩)) rfl (by kernel_rfl) (by kernel_rfl) (fun _ _ _ h => h) (Or.inl ⟨by kernel_rfl, ?_⟩) (by assumption) ?_
              · rintro W' ⟨q0, q1⟩
                go_simp
              intro inv2
              clear inv
              have inv := inv2
              clear inv2
              simp only [Act.put]
              refine wpAnyT_take inv (by kernel_rfl) (by omega) (i := 10) (v := .int .i64 (k : Int)) rfl (by kernel_rfl) (by kernel_rfl) (fun _ _ _ h => h) (Or.inl ⟨by kernel_rfl, ?_⟩) (by assumption) ?_
              · rintro W' ⟨q0, q1⟩
                go_simp
              intro inv2
              clear inv
              have inv := inv2
              clear inv2
              simp only [Act.put]
              refine wpAnyT_take inv (by kernel_rfl) (by omega) (i := 12) (v := .pointer (some ⟨T, 0, none⟩)) rfl (by kernel_rfl) (by kernel_rfl) (fun _ _ _ h => h) (Or.inl ⟨by kernel_rfl, ?_⟩) (by assumption) ?_
              · rintro W' ⟨q0, q1⟩
                go_simp
              intro inv2
              clear inv
              have inv := inv2
              clear inv2
              simp only [Act.put]
              refine wpAnyT_take inv (by kernel_rfl) (by omega) (i := 13) (v := .func (.func 83) #[.pointer (some ⟨T, 0, none⟩)] #[]) rfl (by kernel_rfl) (by kernel_rfl) (fun _ _ _ h => h) (Or.inl ⟨by kernel_rfl, ?_⟩) (by assumption) ?_
              · rintro W' ⟨q0, q1⟩
                go_simp
              intro inv2
              clear inv
              have inv := inv2
              clear inv2
              simp only [Act.put]
              refine wpAnyT_take inv (by kernel_rfl) (by omega) (i := 15) (v := .pointer (some ⟨T, 0, none⟩)) rfl (by kernel_rfl) (by kernel_rfl) (fun _ _ _ h => h) (Or.inl ⟨by kernel_rfl, ?_⟩) (by assumption) ?_
              · rintro W' ⟨q0, q1⟩
                go_simp
              intro inv2
              clear inv
              have inv := inv2
              clear inv2
              simp only [Act.put]
              refine wpAnyT_take inv (by kernel_rfl) (by omega) (i := 16) (v := .pointer (some ⟨T, 3, none⟩)) rfl (by kernel_rfl) (by kernel_rfl) (fun _ _ _ h => h) (Or.inl ⟨by kernel_rfl, ?_⟩) (by assumption) ?_
              · rintro W' ⟨q0, q1⟩
                go_simp
              intro inv2
              clear inv
              have inv := inv2
              clear inv2
              simp only [Act.put]
              clear ww ip2 hmf
              refine wpAnyT_ready [11] (by kernel_rfl) (by simp) ?_
              refine AllReadyT.cons rfl (fun K hK => ?_) AllReadyT.nil
              go_simp
              refine (windows_any T k _).mono ?_
              rintro e w4 ⟨rfl, rfl⟩
              have hb4 := below2 V0 (.cells #[.pointer (some ⟨T, 0, none⟩)] 70) (.cells #[.int .i64 (k : Int)] 2)
              refine hK.out _ _ (fun _ => ⟨cellB hS.1 hb4, cellB hS.2 hb4⟩) (fun _ => ?_)
              replace inv := HeadM.step inv 11 (by kernel_rfl) (by omega)
              clear hK K
              try simp only [Act.put]
              have hS4 := And.intro (cellB hS.1 hb4) (cellB hS.2 hb4)
              have hlM := HS3d.out.vat.lt
              have hfz3 := HS3d.out.fr.size
              have HSH := Lib.hid (WnAt.new (w := V0) (h := k) HS3d.out.vat.hd hfz3)
              have HS4 := Lib.hid (HS3d.out.below hb4)
              have HMK4 := Lib.hid (HMKd.out.below hb4)
              generalize (V0.alloc (.cells #[.pointer (some ⟨T, 0, none⟩)] 70)).alloc (.cells #[.int .i64 (k : Int)] 2) = V4 at *
              clear hS HS3d HMKd hb4
              have HMX := Lib.hid (show mxL (fun x => Ux y U0 k x.1.toNat + nf y x) (wins y (k : Int)) u0 = U y (k + 1) by
                rw [← HU9.out]
                exact Ux_mx HYD.out U0 k)
              refine wpAnyT_ready [14] (by kernel_rfl) (by simp) ?_
              refine AllReadyT.cons rfl (fun K hK => ?_) AllReadyT.nil
              go_simp
              refine ((callsIn_wide (n := 5)).1 (most_any 5 (by omega) T M (V0.heap.size + 2) (V0.heap.size + 1) V0.heap.size k y sv (Ux y U0 k) H0 (nf y) (Sy y) u0 V4 HSH.out (HS4.out.vat.more (by omega)) HS4.out.map HYD.out (fun q hq => Ux_bd HYD.out HUB.out k q hq) (nf_bd HYD.out) (fun x hx hn => Classical.not_not.1 fun h0 => hn ⟨⟨k, hlt3, hx⟩, h0⟩))).mono ?_
              rintro e w5 ⟨rfl, hb5⟩
              rw [HMX.out]
              refine hK.out _ _ (fun _ => ⟨cellB hS4.1 hb5, cellB hS4.2 hb5⟩) (fun _ => ?_)
              have HS5 := Lib.hid (HS4.out.below hb5)
              have HMK5 := Lib.hid (HMK4.out.below hb5)
              clear hK K inv hS4 hb5 HSH HS4 HMK4 HMX
              try simp only [Act.put]
              refine wpAnyT_chain (fuel := 2) rfl (by kernel_rfl) ?_
              simp only [List.drop_succ_cons, List.drop_zero]
              have hp102 : (k : Int) + 1 < 102 := by omega
              have hp0 : (0 : Int) ≤ (k : Int) + 1 := by omega
              have hpn : ((k : Int) + 1).toNat = k + 1 := by omega
              have xu := HS5.out.vat.up (p := k + 1) (by omega)
              have xf := HS5.out.vat.frozen (3 + (k + 1))
              have xl := HS5.out.vat.lt.1
              go_wp2_with fail
              have HS6 := Lib.hid (HS5.out.setUp (q := k + 1) (by omega) (U y (k + 1)))
              rw [Ux_set] at HS6
              have HMK6 := Lib.hid (HMK5.out.from (w' := w5.setCell ⟨T, 3 + (k + 1), none⟩ (.int .i64 (U y (k + 1)))) ((KeepsOthers.setCell _ _ _).from _))
              clear xu xf xl HS5 HMK5 hlM hfz3 hp102 hp0 hpn
              generalize w5.setCell ⟨T, 3 + (k + 1), none⟩ (.int .i64 (U y (k + 1))) = w6 at *
              unfold OnlyN
              gi_wp2
              exact ⟨101 - (k + 1), by have := HMM.out; omega, k + 1, _, by omega, rfl, by rfl, by rfl, rfl, HMK6.out, HS6.out⟩
            · obtain rfl : k = 101 := by omega
              have d1 : decide (((101 : Nat) : Int) < 101) = false := by decide
              have HMK := Lib.hid hmk
              have HST := Lib.hid hst
              clear hmk hst HMM
              gi_wp2
              subst hsvg
              refine leaves_marks HMK.out fun w' hk => ?_
              have hfin := HST.out.keeps (Nat.le_refl _) hk
              exact ⟨_, results_none rfl _ _ _, ⟨_, rfl⟩, ⟨hfin.vat.same (fun p hp => by unfold Ux; rw [if_pos (by omega)]) (fun _ _ => rfl), hfin.fr.size, hfin.map⟩, hfin.fr⟩
        · simp only at hme
          obtain ⟨e, he, rfl⟩ := List.mem_map.1 hme
          have hees := (List.mem_filter.1 he).1
          have hev := HMP.out.vals e hees
          have hrun' : ∀ ty, (Instr.next (.pointer (some ⟨wr.heap.size, 0, none⟩)) false ty).run Try.prog W = .ok (.tuple #[.bool true, pkV e.1, e.2.1]) (w1.putObj wr.heap.size (.mapIter (some M) clock (seen.push e.2.2) clock)) := fun ty => hrun
          have hBw : Blk w1 wr.heap.size (.mapIter (some M) clock seen clock) ∧ Below W.heap.size W w1 := by
            rcases hw1 with rfl | rfl
            · exact ⟨hit, Below.refl _ _⟩
            · exact ⟨hit, (Below.refl _ _).drew⟩
          clear hrun hw1 hme hit
          obtain ⟨hit1, hB1⟩ := hBw
          have hrlt1 := hit1.lt
          have hne : M ≠ wr.heap.size := by omega
          have hit2 : Blk (w1.putObj wr.heap.size (.mapIter (some M) clock (seen.push e.2.2) clock)) wr.heap.size (.mapIter (some M) clock (seen.push e.2.2) clock) := World.putObj_heap_same hrlt1
          have hM2 := (hMb.below hB1).put (b := wr.heap.size) hne (.mapIter (some M) clock (seen.push e.2.2) clock)
          have hgr := grownBy_putObj' w1 wr.heap.size (.mapIter (some M) clock (seen.push e.2.2) clock)
          have hS2 : PS w T M w.heap.size y sv U0 H0 S (w1.putObj wr.heap.size (.mapIter (some M) clock (seen.push e.2.2) clock)) := by
            have h1 := HST.out.below hB1
            have h2 := h1.box.lt
            have hx : ∀ k, k < w.heap.size → (w1.putObj wr.heap.size (.mapIter (some M) clock (seen.push e.2.2) clock)).heap[k]? = w1.heap[k]? := fun k hk => World.putObj_heap_other (by omega)
            exact ⟨h1.vat.move fun k hk _ => hx k hk, h1.map.of_block (hx M (by omega)), ⟨by simpa using h1.fr.size, fun k hk a b => (hx k hk).trans (h1.fr.same k hk a b), h1.fr.os, h1.fr.tape, h1.fr.output⟩, h1.box.put (by have := HBX.out; omega) _, h1.own⟩
          have hmk2 : Marks w.heap.size ds (w1.putObj wr.heap.size (.mapIter (some M) clock (seen.push e.2.2) clock)) := (HMK.out.below hB1).stay fun k _ hk => (World.putObj_heap_other (fun e => by
            subst e
            have hq : w1.heap[wr.heap.size]? = _ := hit1
            rw [hq] at hk
            cases hk)).trans hk
          have hz2 : wr.heap.size < (w1.putObj wr.heap.size (.mapIter (some M) clock (seen.push e.2.2) clock)).heap.size := by simpa using hrlt1
          generalize w1.putObj wr.heap.size (.mapIter (some M) clock (seen.push e.2.2) clock) = w2 at *
          have hent : (Instr.entry (.pointer (some ⟨wr.heap.size, 0, none⟩))).run Try.prog w2 = .ok (.tuple #[pkV e.1, e.2.1]) w2 := by
            refine run_entry_at (P := Try.prog) w2 wr.heap.size M clock seen (es.map ent).toArray clock (ent e) hit2 hM2 ?_ ?_
            · simp only
              exact List.mem_map_of_mem hees
            · simp only
              rw [List.map_map]
              exact HMP.out.born
          have HLS := Lib.hid (leftS_push he)
          have HNX : Hid (∀ e' ∈ es, e'.2.2 ∈ (seen.push e.2.2).toList → e'.2.2 ∈ seen.toList ∨ e' = e) := Lib.hid fun e' he' hs => by
            rw [Array.toList_push, List.mem_append, List.mem_singleton] at hs
            refine hs.imp id fun hs => ?_
            exact born_inj HMP.out.born he' hees hs
          have HMP2 : Hid (MapIn w2 M (nf y) S es clock) := Lib.hid ⟨hM2, HMP.out.keys, HMP.out.vals, HMP.out.born, HMP.out.old, HMP.out.mem⟩
          obtain ⟨a, ha⟩ : ∃ a, e.1.1 = a := ⟨_, rfl⟩
          obtain ⟨b, hb⟩ : ∃ b, e.1.2 = b := ⟨_, rfl⟩
          have hxe : e.1 = (a, b) := Prod.ext ha hb
          obtain ⟨nv, hnv⟩ : ∃ nv, nf y e.1 = nv := ⟨_, rfl⟩
          rw [hev, hnv, hxe] at hrun' hent
          unfold pkV at hrun' hent
          simp only at hrun' hent
          have HE := Lib.hid (And.intro hees (And.intro hxe hnv))
          have HIT2 := Lib.hid hit2
          have HS2 := Lib.hid hS2
          have HMK2 := Lib.hid hmk2
          have bx := Blk.new w2 (.cells #[.int .i64 a, .int .i64 b] 27)
          have hb3 := below1 w2 (.cells #[.int .i64 a, .int .i64 b] 27)
          have HIT3 := Lib.hid (hit2.below hb3)
          have HS3 := Lib.hid (hS2.below hb3)
          have HMK3 := Lib.hid (hmk2.below hb3)
          have HMP3 : Hid (MapIn (w2.alloc (.cells #[.int .i64 a, .int .i64 b] 27)) M (nf y) S es clock) := Lib.hid ⟨hM2.below hb3, HMP.out.keys, HMP.out.vals, HMP.out.born, HMP.out.old, HMP.out.mem⟩
          clear hees hev ha hb hxe hnv hit2 hit1 hM2 hgr hS2 hmk2 hB1 hrlt1 hMb he hb3 HST HMK HMP HMP2
          by_cases q : nv = 0
          · subst q
            gi_wp2_with fail
            generalize w2.alloc (.cells #[.int .i64 a, .int .i64 b] 27) = w3 at *
            have e1 := HS3.out.box.cell 0
            have em := HS3.out.vat.mp
            have eX := bx.cell 0
            have eX' := bx.cell 1
            simp at e1 eX eX'
            have g0 := fun d os => cell_regrown e1 d os
            have g1 := fun d os => cell_regrown em d os
            have g3 := fun d os => cell_regrown eX d os
            have g4 := fun d os => cell_regrown eX' d os
            have hTw : T < w3.heap.size := HS3.out.vat.lt.1
            have hbw := bx.lt
            have hb1w : w.heap.size < w3.heap.size := HS3.out.box.lt
            clear e1 em eX eX' hrun' hent
            refine wpIn_wide.2 (wp_only ?_)
            refine wp_region_tail 5 (by kernel_rfl) (by kernel_rfl) ?_
            repeat (quiet_step (fail))
            refine wpQuiet_nil ?_
            intro _ hw'
            obtain ⟨⟨dq, osq⟩, hw''⟩ := hw'
            subst hw''
            simp only [List.drop_succ_cons, List.drop_zero]
            have hb8 := below_regrown w3 dq osq
            have HS8 := Lib.hid (HS3.out.below hb8)
            have HM8 := Lib.hid (HMK3.out.below hb8)
            have HI8 := Lib.hid (HIT3.out.below hb8)
            have HMP8 : Hid (MapIn (grow (redrawn w3 dq) osq) M (nf y) S es clock) := Lib.hid ⟨HMP3.out.blk.below hb8, HMP3.out.keys, HMP3.out.vals, HMP3.out.born, HMP3.out.old, HMP3.out.mem⟩
            have hz8 := hb8.size
            clear g0 g1 g3 g4 hb8 HS3 HMK3 HIT3 HMP3
            generalize grow (redrawn w3 dq) osq = w9 at *
            have hstk := HMP8.out.strike (a, b) (by rw [← HE.out.2.1]; exact List.mem_map_of_mem HE.out.1)
            obtain ⟨hrund, hmapd⟩ := hstk
            have HMD := Lib.hid hmapd
            unfold pkV at hrund
            simp only at hrund
            clear hmapd
            go_wp2_with fail
            unfold OnlyN
            gi_wp2
            have hgr := grownBy_putObj' w9 M (entsO (es.filter (fun e => !decide (e.1 = (a, b)))) clock)
            refine ⟨(leftS (es.filter (fun e => !decide (e.1 = (a, b)))) (seen.push e.2.2)).length, ?_, _, es.filter (fun e => !decide (e.1 = (a, b))), seen.push e.2.2, fun x => S x ∧ x ≠ (a, b), rfl, rfl, rfl, rfl, ?_, HMD.out, ?_, ⟨fun x hx => HSS.out.1 x hx.1, fun x h1 h2 => ⟨HSS.out.2 x h1 h2, ?_⟩⟩, ?_, HS8.out.putM ⟨_, _, HMD.out⟩, ?_⟩
            · have h1 := leftS_filter es (seen.push e.2.2) (fun e => !decide (e.1 = (a, b)))
              have h2 := HLS.out
              have h3 := HMM.out
              omega
            · exact HI8.out.put (by omega) _
            · intro e' he' hs
              rw [List.mem_filter] at he'
              rcases HNX.out e' he'.1 hs with h | rfl
              · exact HSE.out e' he'.1 h
              · have := he'.2
                rw [HE.out.2.1] at this
                simp at this
            · rintro rfl
              exact h2 (by rw [← HE.out.2.1]; exact HE.out.2.2)
            · exact HM8.out.from (KeepsFrom.of_grownBy hgr (fun j e => by cases e; omega))
            · simp
              omega
          · have d1 : (nv == 0) = false := by simpa using q
            have HQ := Lib.hid q
            clear q
            gi_wp2
            refine ⟨(leftS es (seen.push e.2.2)).length, by have := HLS.out; have := HMM.out; omega, _, es, seen.push e.2.2, S, rfl, rfl, rfl, rfl, HIT3.out, HMP3.out, ?_, HSS.out, HMK3.out, HS3.out, by simp; omega⟩
            intro e' he' hs
            rcases HNX.out e' he' hs with h | rfl
            · exact HSE.out e' he' h
            · rw [HE.out.2.2]; exact HQ.out
end Go.Proofs.Ytjbeoakikdkdaaa

namespace Go.Proofs.Ytjbeoakikdkdaaa
open Go.RowKit Go.Vat Go.Sort Go.Shelf
attribute [local go_sem] Oper.semAt_some

/-! ## The vat is laid -/
set_option maxHeartbeats 400000 in
theorem lay_err (v : Value) (y : YardD) (w : World) (hv : YardAt w v y) (hl : y.logs.length ≤ 1000000) (he : yardErr y ≠ 0) :
    Calls Try.prog 53 #[v] w fun e w' => e = .returned (.tuple #[.pointer none, .int .i64 (yardErr y)]) ∧ Below w.heap.size w w' := by
  obtain ⟨sv, rfl, hp⟩ := hv
  obtain ⟨sa, cap, rfl⟩ := hp.slice
  have HP := Lib.hid hp
  obtain ⟨E, hE⟩ : ∃ E, yardErr y = E := ⟨_, rfl⟩
  have d1 : (E != 0) = true := by rw [← hE]; simpa using he
  have HE := Lib.hid hE
  clear hp he hE
  rw [HE.out]
  go_enter Try.func53, Try.ntmps53
  go_wp2_with fail
  refine (CheckYard_any _ y _ ⟨_, rfl, HP.out.below (below1 _ _)⟩ hl).mono ?_
  rintro e w1 ⟨rfl, hb⟩
  rw [HE.out]
  go_wp2
  go_ret2
  exact ⟨rfl, after1 hb⟩
def newL (M : Nat) : List Value := [.int .i64 0, .slice none 0 0, .map (some M)] ++ List.replicate 203 (.int .i64 0)
theorem newL_zero (M : Nat) : Try.zeroCells78.setIfInBounds 2 (.map (some M)) = (newL M).toArray := by kernel_rfl
set_option maxRecDepth 100000 in
theorem newL_vcs (M : Nat) : VCs (newL M).toArray 0 (.slice none 0 0) (fun _ => 0) (fun _ => 0) M := by
  have h : ∀ p, p < 203 → (newL M).toArray[3 + p]? = some (.int .i64 0) := fun p hp => by
    unfold newL
    rw [List.getElem?_toArray, List.getElem?_append_right (by simp), show 3 + p - [Value.int .i64 0, .slice none 0 0, .map (some M)].length = p by simp, List.getElem?_replicate, if_pos hp]
  exact ⟨by simp [newL], rfl, rfl, rfl, fun p hp => h p (by omega), fun p hp => by have := h (102 + p) (by omega); rwa [show 3 + (102 + p) = 105 + p by omega] at this⟩
theorem LogsIn.of_pairs {w : World} {n₀ T M : Nat} {sv : Value} {ls : List (Int × Int)} (h : PairsAt w sv ls) (hs : w.heap.size ≤ n₀) (hT : w.heap.size ≤ T) (hM : w.heap.size ≤ M) : LogsIn w n₀ T M sv ls := by
  obtain ⟨a, cap, e, h⟩ := h
  refine ⟨a, cap, e, fun hn => ?_⟩
  obtain ⟨b, off, ea, hc⟩ := h hn
  have hl : 0 < ls.length := by cases ls with | nil => exact absurd rfl hn | cons _ _ => simp
  have := lt_of_cell (hc 0 hl).1
  exact ⟨b, off, ea, ⟨by omega, by omega, by omega⟩, hc⟩
theorem FrLM.belowN {w W : World} {n₀ T M : Nat} (h : FrLM w T M W) (hT : n₀ ≤ T) (hM : n₀ ≤ M) (hn : n₀ ≤ w.heap.size) : Below n₀ w W :=
  ⟨h.os, h.tape, h.output, h.size, fun k hk => h.same k (by omega) (by omega) (by omega)⟩
theorem LogsIn.moveB {w w' : World} {n₀ T M : Nat} {sv : Value} {ls : List (Int × Int)} (h : LogsIn w n₀ T M sv ls) (hb : Below w.heap.size w w') : LogsIn w' n₀ T M sv ls := by
  obtain ⟨a, cap, e, h⟩ := h
  refine ⟨a, cap, e, fun hn => ?_⟩
  obtain ⟨b, off, ea, h1, hc⟩ := h hn
  exact ⟨b, off, ea, h1, fun i hi => ⟨cellB (hc i hi).1 hb, cellB (hc i hi).2 hb⟩⟩
set_option maxRecDepth 100000 in
set_option maxHeartbeats 4000000 in
theorem lay_ok (v : Value) (y : YardD) (w : World) (hv : YardAt w v y) (hy : y.Ok) :
    Calls Try.prog 53 #[v] w fun e w' => ∃ T M n₀ sv H, e = .returned (.tuple #[.pointer (some ⟨T, 0, none⟩), .int .i64 0]) ∧ LaidV w' T M y n₀ sv H ∧ w.heap.size ≤ T ∧ w.heap.size ≤ M ∧ Below w.heap.size w w' := by
  obtain ⟨sv, rfl, hp⟩ := hv
  obtain ⟨sa, cap, rfl⟩ := hp.slice
  have hB0 := below1 w (.cells #[.int .i64 y.load, .slice sa y.logs.length cap] 24)
  have b0 := Blk.new w (.cells #[.int .i64 y.load, .slice sa y.logs.length cap] 24)
  have HP1 := Lib.hid (hp.below hB0)
  have HYD := Lib.hid hy
  have HE := Lib.hid (yardErr_of hy)
  have hl10 := hy.count
  clear hp hy
  go_enter Try.func53, Try.ntmps53
  go_wp2_with fail
  generalize w.alloc (.cells #[.int .i64 y.load, .slice sa y.logs.length cap] 24) = W0 at *
  refine (CheckYard_any _ y _ ⟨_, rfl, HP1.out⟩ (by omega)).mono ?_
  rintro e w1 ⟨rfl, hb1⟩
  rw [HE.out]
  have HB1 := Lib.hid (bC hB0 hb1)
  have HP2 := Lib.hid (HP1.out.below hb1)
  replace b0 := b0.below hb1
  clear hb1 hB0 HP1
  have c0 := b0.cell 0
  have c1 := b0.cell 1
  simp at c0 c1
  have hbl := b0.lt
  have hmm := @run_makeMap Try.prog
  have hB2 := below2 w1 (.map #[] 0) (.cells (newL w1.heap.size).toArray 78)
  have HM3 := Lib.hid (show MapIs ((w1.alloc (.map #[] 0)).alloc (.cells (newL w1.heap.size).toArray 78)) w1.heap.size (nf y) (fun _ => False) from .empty 0 ((Blk.new w1 (.map #[] 0)).alloc _))
  have HB3 := Lib.hid (bC HB1.out hB2)
  have HL3 := Lib.hid (show LogsIn ((w1.alloc (.map #[] 0)).alloc (.cells (newL w1.heap.size).toArray 78)) ((w1.alloc (.map #[] 0)).alloc (.cells (newL w1.heap.size).toArray 78)).heap.size (w1.heap.size + 1) w1.heap.size (.slice sa y.logs.length cap) y.logs from
    (LogsIn.of_pairs (n₀ := ((w1.alloc (.map #[] 0)).alloc (.cells (newL w1.heap.size).toArray 78)).heap.size) HP2.out (by simp; omega) (by omega) (by omega)).moveB hB2)
  have HPV : Hid (PreV ((w1.alloc (.map #[] 0)).alloc (.cells (newL w1.heap.size).toArray 78)) (w1.heap.size + 1) w1.heap.size (fun _ => 0) (fun _ => 0)) := Lib.hid (by
    have hb := Blk.new (w1.alloc (.map #[] 0)) (.cells (newL w1.heap.size).toArray 78)
    rw [World.size_alloc] at hb
    exact ⟨⟨_, _, _, hb, newL_vcs _⟩, by omega, by simp; omega, rfl, fun _ _ => ⟨Int.le_refl _, by omega⟩⟩)
  clear hB2
  generalize hnl : (newL w1.heap.size).toArray = nl at *
  have HNL := Lib.hid hnl
  clear hnl
  go_wp2_with fail
  rw [newL_zero, HNL.out]
  refine (put_any (w1.heap.size + 1) w1.heap.size (.slice sa y.logs.length cap) y (fun _ => 0) (fun _ => 0) (nf y) (fun _ => False) _ HL3.out HPV.out HM3.out HYD.out).mono ?_
  rintro e w4 ⟨⟨_, rfl⟩, hL, hF⟩
  have hBf := HB3.out.trans (hF.belowN (n₀ := w.heap.size) (by omega) (by omega) (by simp; omega))
  have HE := Lib.hid (And.intro hL hBf)
  clear hL hF hBf HL3 HPV HM3 HB3
  go_wp2
  go_ret2
  exact ⟨_, _, _, _, _, rfl, HE.out.1, by omega, by omega, HE.out.2⟩
end Go.Proofs.Ytjbeoakikdkdaaa
