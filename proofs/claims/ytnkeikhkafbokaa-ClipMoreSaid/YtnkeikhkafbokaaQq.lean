import Derived.Test.YtnkeikhkafbokaaQp
import Derived.Test.YtnkeikhkafbokaaQd
import Derived.Test.YtnkeikhkafbokaaQb
import Derived.Test.YtnkeikhkafbokaaQo
namespace Go.Proofs.Ytnkeikhkafbokaa
open Go.RowKit Go.Dag Go.Sort Go.Shelf
attribute [local go_sem] Oper.semAt_some

/-! ## The program: what cuts up to each place are worth -/
theorem mx_up {t : Tab} (h : t.Ok) (n : Nat) {U : Nat → Int} (hU : ∀ q, q ≤ n → U q = up t q) : mxL (fun x => U x.1 + t.P x.2) (shL t (n + 1)) (U n) = up t (n + 1) := by
  rw [up_step h, hU n (Nat.le_refl _)]
  unfold mxL shL shK maxL
  rw [List.foldl_map, List.foldl_filter]
  refine foldl_same _ _ _ _ fun s i hi => ?_
  have hw := h.w i (List.mem_range.1 hi)
  dsimp only
  rw [hU (n + 1 - t.W i) (by omega)]
/-- What is known when the places below p have been told of. -/
def Ux (t : Tab) (p q : Nat) : Int := if q < p then up t q else 0
theorem Ux_set (t : Tab) (p : Nat) : updF (Ux t p) p (up t p) = Ux t (p + 1) := by
  funext q
  unfold updF Ux
  by_cases e : q = p
  · subst e; rw [if_pos rfl, if_pos (by omega)]
  · rw [if_neg e]
    by_cases h : q < p
    · rw [if_pos h, if_pos (by omega)]
    · rw [if_neg h, if_neg (by omega)]
theorem Ux_one (t : Tab) : Ux t 1 = fun _ => 0 := by
  funext q
  unfold Ux
  split
  · obtain rfl : q = 0 := by omega
    exact up_zero t
  · rfl
theorem up_le24 {r : RibD} {ks : List KindD} (hr : RibOk r) (hks : KindsOk ks) {q : Nat} (hq : q ≤ r.len.toNat) : 0 ≤ up (tabOf r ks) q ∧ up (tabOf r ks) q ≤ 24000 := by
  have h1 := hr.l1
  have hok := tabOf_ok (r := r) (ks := ks) (by omega) hks
  have h2 := up_le hok (a := q) (b := (tabOf r ks).L) hq
  rw [up_all hok] at h2
  have := tabOf_dn (r := r) (by omega) hr.l2 hks 0
  exact ⟨up_nonneg hok q, by omega⟩
theorem Ux_bd {r : RibD} {ks : List KindD} (hr : RibOk r) (hks : KindsOk ks) {p : Nat} (hp : p ≤ r.len.toNat + 1) (q : Nat) : 0 ≤ Ux (tabOf r ks) p q ∧ Ux (tabOf r ks) p q ≤ 24000 := by
  unfold Ux
  split
  · exact up_le24 hr hks (by omega)
  · exact ⟨Int.le_refl _, by omega⟩
/-- The sheets that best cuts up to their end, which is below p, end with. -/
def Sx (t : Tab) (p : Nat) (k : SK) : Prop := ∃ a i : Nat, k = ((a : Int), (i : Int)) ∧ i < t.K ∧ t.can a i = true ∧ a + t.W i < p ∧ up t a + t.P i = up t (a + t.W i)
def skI (x : Nat × Nat) : SK := ((x.1 : Int), (x.2 : Int))
theorem Sx_step (t : Tab) (p : Nat) (k : SK) : Sx t (p + 1) k ↔ Sx t p k ∨ ∃ x ∈ shL t p, up t x.1 + t.P x.2 = up t p ∧ k = skI x := by
  constructor
  · rintro ⟨a, i, rfl, h1, h2, h3, h4⟩
    by_cases e : a + t.W i < p
    · exact .inl ⟨a, i, rfl, h1, h2, e, h4⟩
    · have e' : a + t.W i = p := by omega
      refine .inr ⟨(a, i), shL_mem.2 ⟨h1, ?_, by simp only; omega⟩, by simp only; rw [h4, e'], rfl⟩
      unfold canTo
      simp only [Bool.and_eq_true, decide_eq_true_eq]
      exact ⟨by omega, by rw [show p - t.W i = a by omega]; exact h2⟩
  · rintro (⟨a, i, rfl, h1, h2, h3, h4⟩ | ⟨x, hx, h1, rfl⟩)
    · exact ⟨a, i, rfl, h1, h2, by omega, h4⟩
    · obtain ⟨m1, m2, m3⟩ := shL_mem.1 hx
      unfold canTo at m2
      simp only [Bool.and_eq_true, decide_eq_true_eq] at m2
      have e : x.1 + t.W x.2 = p := by omega
      exact ⟨x.1, x.2, rfl, m1, by rw [m3]; exact m2.2, by omega, by rw [e]; exact h1⟩
theorem Sx_new {t : Tab} {p : Nat} {x : Nat × Nat} (hx : x ∈ shL t p) : ¬ Sx t p (skI x) := by
  rintro ⟨a, i, e, h1, h2, h3, h4⟩
  obtain ⟨m1, m2, m3⟩ := shL_mem.1 hx
  unfold canTo at m2
  simp only [Bool.and_eq_true, decide_eq_true_eq] at m2
  unfold skI at e
  have e1 := congrArg Prod.fst e
  have e2 := congrArg Prod.snd e
  simp only at e1 e2
  have e2' : x.2 = i := by omega
  rw [← e2'] at h3
  omega
theorem shL_nodup (t : Tab) (p : Nat) : (shL t p).Nodup := by
  unfold shL shK
  have h1 : ((List.range t.K).filter (canTo t p)).Nodup := List.filter_sublist.nodup List.nodup_range
  rw [List.Nodup, List.pairwise_map]
  exact h1.imp fun h e => h (congrArg Prod.snd e)
theorem wp_only {P : Program} {c : Code} {Q : Exit → Act → World → Prop} {a : Act} {w : World} (h : c.wp P (OnlyN (fun a' w' => Q .normal a' w')) a w) : c.wp P Q a w :=
  wp_mono h (fun e a w h => by
    cases e with
    | normal => exact h
    | _ => exact (show False from h).elim)
theorem MapIs.put {W : World} {M : Nat} {S : SK → Prop} (h : MapIs W M S) (k : SK) :
    ∃ o, (Instr.mapUpdate 82 (.map (some M)) (pkV k) (.bool true)).run Try.prog W = .ok () (W.putObj M o) ∧ MapIs (W.putObj M o) M (fun x => S x ∨ x = k) := by
  by_cases hk : S k
  · obtain ⟨es, c, h⟩ := h
    refine ⟨entsO es c, run_store_old h.blk k (.bool true) ((h.mem k).2 hk) (fun e he _ => h.vals e he), ?_⟩
    rw [putObj_self h.blk]
    refine ⟨es, c, ⟨h.blk, h.keys, h.vals, h.born, h.old, fun x => ?_⟩⟩
    rw [h.mem x]
    exact ⟨.inl, fun hx => hx.elim id fun e => e ▸ hk⟩
  · exact h.store k hk
theorem Marks.keeps {B0 B : Nat} {ds : List Deferred} {w w' : World} (h : Marks B0 ds w) (hlt : ∀ E, ({ target := .collected E, args := #[] } : Deferred) ∈ ds → E < B) (hk : KeepsB B w w') : Marks B0 ds w' := by
  obtain ⟨Ds, rfl, hn, hD⟩ := h
  exact ⟨Ds, rfl, hn, fun D hd => ⟨(hD D hd).1, hk.same D _ (hD D hd).2 (.inl (hlt D (List.mem_map.2 ⟨D, hd, rfl⟩)))⟩⟩
theorem KT.putM {T M n₀ : Nat} {W : World} (hTM : T ≠ M) (o : Obj) : KT T M n₀ W (W.putObj M o) :=
  ⟨by simp, fun k _ _ h2 => World.putObj_heap_other (fun e => h2 e), fun j _ => World.cell?_of_block (World.putObj_heap_other hTM)⟩
/-- The table while goUp is at place p; b1 and bp its variables. -/
def UpS (w : World) (T M b1 bp : Nat) (r : RibD) (ks : List KindD) (p : Nat) (U : Nat → Int) (S : SK → Prop) (wr : World) : Prop :=
  TbAt wr w.heap.size T M r ks U (fun _ => 0) ∧ MapIs wr M S ∧ FrLM w T M wr ∧ Blk wr b1 (.cells #[.pointer (some ⟨T, 0, none⟩)] 76) ∧ Blk wr bp (.cells #[.int .i64 p] 3) ∧ w.heap.size ≤ b1 ∧ w.heap.size ≤ bp
theorem UpS.below {w : World} {T M b1 bp : Nat} {r : RibD} {ks : List KindD} {p : Nat} {U : Nat → Int} {S : SK → Prop} {wr w' : World} (h : UpS w T M b1 bp r ks p U S wr) (hb : Below wr.heap.size wr w') : UpS w T M b1 bp r ks p U S w' := by
  obtain ⟨h1, h2, h3, h4, h5, h6, h7⟩ := h
  exact ⟨h1.below h3.size hb, h2.below hb, h3.below hb, h4.below hb, h5.below hb, h6, h7⟩
theorem UpS.keeps {w : World} {T M b1 bp B : Nat} {r : RibD} {ks : List KindD} {p : Nat} {U : Nat → Int} {S : SK → Prop} {wr w' : World} (h : UpS w T M b1 bp r ks p U S wr) (hB : w.heap.size ≤ B) (hb : KeepsB B wr w') : UpS w T M b1 bp r ks p U S w' := by
  obtain ⟨h1, h2, h3, h4, h5, h6, h7⟩ := h
  have := h1.lt
  exact ⟨h1.keeps hB h3.size hb, h2.keeps (by omega) hb, h3.keeps hB hb, h4.keepsC hb, h5.keepsC hb, h6, h7⟩
theorem UpS.putM {w : World} {T M b1 bp : Nat} {r : RibD} {ks : List KindD} {p : Nat} {U : Nat → Int} {S S' : SK → Prop} {wr : World} (h : UpS w T M b1 bp r ks p U S wr) {o : Obj} (hm : MapIs (wr.putObj M o) M S') : UpS w T M b1 bp r ks p U S' (wr.putObj M o) := by
  obtain ⟨h1, h2, h3, h4, h5, h6, h7⟩ := h
  have := h1.lt
  exact ⟨h1.putM o, hm, h3.putM o, h4.put (by omega) o, h5.put (by omega) o, h6, h7⟩
theorem UpS.same {w : World} {T M b1 bp : Nat} {r : RibD} {ks : List KindD} {p : Nat} {U : Nat → Int} {S S' : SK → Prop} {wr : World} (h : UpS w T M b1 bp r ks p U S wr) (e : ∀ k, S k ↔ S' k) : UpS w T M b1 bp r ks p U S' wr := by
  obtain ⟨h1, h2, h3⟩ := h
  exact ⟨h1, h2.same e, h3⟩

theorem list_succ {n : Nat} {l : List Value} (h : l.length = n + 1) : ∃ u tl, l = u :: tl ∧ tl.length = n := by
  match l, h with
  | u :: tl, h => exact ⟨u, tl, rfl, by simpa using h⟩
theorem list48 {l : List Value} (h : l.length = 48) : ∃ u3 u4 u5 u6 u7 u8 u9 u10 u11 u12 u13 u14 u15 u16 u17 u18 u19 u20 u21 u22 u23 u24 u25 u26 u27 u28 u29 u30 u31 u32 u33 u34 u35 u36 u37 u38 u39 u40 u41 u42 u43 u44 u45 u46 u47 u48 u49 u50 : Value, l = [u3, u4, u5, u6, u7, u8, u9, u10, u11, u12, u13, u14, u15, u16, u17, u18, u19, u20, u21, u22, u23, u24, u25, u26, u27, u28, u29, u30, u31, u32, u33, u34, u35, u36, u37, u38, u39, u40, u41, u42, u43, u44, u45, u46, u47, u48, u49, u50] := by
  obtain ⟨u3, lu3, rfl, hu3⟩ := list_succ h
  obtain ⟨u4, lu4, rfl, hu4⟩ := list_succ hu3
  obtain ⟨u5, lu5, rfl, hu5⟩ := list_succ hu4
  obtain ⟨u6, lu6, rfl, hu6⟩ := list_succ hu5
  obtain ⟨u7, lu7, rfl, hu7⟩ := list_succ hu6
  obtain ⟨u8, lu8, rfl, hu8⟩ := list_succ hu7
  obtain ⟨u9, lu9, rfl, hu9⟩ := list_succ hu8
  obtain ⟨u10, lu10, rfl, hu10⟩ := list_succ hu9
  obtain ⟨u11, lu11, rfl, hu11⟩ := list_succ hu10
  obtain ⟨u12, lu12, rfl, hu12⟩ := list_succ hu11
  obtain ⟨u13, lu13, rfl, hu13⟩ := list_succ hu12
  obtain ⟨u14, lu14, rfl, hu14⟩ := list_succ hu13
  obtain ⟨u15, lu15, rfl, hu15⟩ := list_succ hu14
  obtain ⟨u16, lu16, rfl, hu16⟩ := list_succ hu15
  obtain ⟨u17, lu17, rfl, hu17⟩ := list_succ hu16
  obtain ⟨u18, lu18, rfl, hu18⟩ := list_succ hu17
  obtain ⟨u19, lu19, rfl, hu19⟩ := list_succ hu18
  obtain ⟨u20, lu20, rfl, hu20⟩ := list_succ hu19
  obtain ⟨u21, lu21, rfl, hu21⟩ := list_succ hu20
  obtain ⟨u22, lu22, rfl, hu22⟩ := list_succ hu21
  obtain ⟨u23, lu23, rfl, hu23⟩ := list_succ hu22
  obtain ⟨u24, lu24, rfl, hu24⟩ := list_succ hu23
  obtain ⟨u25, lu25, rfl, hu25⟩ := list_succ hu24
  obtain ⟨u26, lu26, rfl, hu26⟩ := list_succ hu25
  obtain ⟨u27, lu27, rfl, hu27⟩ := list_succ hu26
  obtain ⟨u28, lu28, rfl, hu28⟩ := list_succ hu27
  obtain ⟨u29, lu29, rfl, hu29⟩ := list_succ hu28
  obtain ⟨u30, lu30, rfl, hu30⟩ := list_succ hu29
  obtain ⟨u31, lu31, rfl, hu31⟩ := list_succ hu30
  obtain ⟨u32, lu32, rfl, hu32⟩ := list_succ hu31
  obtain ⟨u33, lu33, rfl, hu33⟩ := list_succ hu32
  obtain ⟨u34, lu34, rfl, hu34⟩ := list_succ hu33
  obtain ⟨u35, lu35, rfl, hu35⟩ := list_succ hu34
  obtain ⟨u36, lu36, rfl, hu36⟩ := list_succ hu35
  obtain ⟨u37, lu37, rfl, hu37⟩ := list_succ hu36
  obtain ⟨u38, lu38, rfl, hu38⟩ := list_succ hu37
  obtain ⟨u39, lu39, rfl, hu39⟩ := list_succ hu38
  obtain ⟨u40, lu40, rfl, hu40⟩ := list_succ hu39
  obtain ⟨u41, lu41, rfl, hu41⟩ := list_succ hu40
  obtain ⟨u42, lu42, rfl, hu42⟩ := list_succ hu41
  obtain ⟨u43, lu43, rfl, hu43⟩ := list_succ hu42
  obtain ⟨u44, lu44, rfl, hu44⟩ := list_succ hu43
  obtain ⟨u45, lu45, rfl, hu45⟩ := list_succ hu44
  obtain ⟨u46, lu46, rfl, hu46⟩ := list_succ hu45
  obtain ⟨u47, lu47, rfl, hu47⟩ := list_succ hu46
  obtain ⟨u48, lu48, rfl, hu48⟩ := list_succ hu47
  obtain ⟨u49, lu49, rfl, hu49⟩ := list_succ hu48
  obtain ⟨u50, lu50, rfl, hu50⟩ := list_succ hu49
  obtain rfl := List.length_eq_zero_iff.1 hu50
  exact ⟨u3, u4, u5, u6, u7, u8, u9, u10, u11, u12, u13, u14, u15, u16, u17, u18, u19, u20, u21, u22, u23, u24, u25, u26, u27, u28, u29, u30, u31, u32, u33, u34, u35, u36, u37, u38, u39, u40, u41, u42, u43, u44, u45, u46, u47, u48, u49, u50, rfl⟩
theorem UpS.setUp {w : World} {T M b1 bp : Nat} {r : RibD} {ks : List KindD} {p : Nat} {U : Nat → Int} {S : SK → Prop} {wr : World} (h : UpS w T M b1 bp r ks p U S wr) {q : Nat} (hq : q < 25) (v : Int) : UpS w T M b1 bp r ks p (updF U q v) S (wr.setCell ⟨T, 4 + q, none⟩ (.int .i64 v)) := by
  obtain ⟨h1, h2, h3, h4, h5, h6, h7⟩ := h
  have := h1.lt
  exact ⟨h1.setUp hq v, h2.other (by omega) _, h3.setT _ _, h4.other (by omega) _, h5.other (by omega) _, h6, h7⟩
/-- How far the loop still has to go: the number at a place's variable. -/
def plN (s : Value) (wr : World) : Nat := match s with
  | .pointer (some a) => 30 - (intOf ((wr.cell? a).getD undef)).toNat
  | _ => 0
theorem plN_eq {a : Addr} {wr : World} {p : Nat} (h : wr.cell? a = some (.int .i64 p)) : plN (.pointer (some a)) wr = 30 - p := by
  unfold plN
  simp [h, intOf]
set_option maxRecDepth 100000 in
set_option maxHeartbeats 8000000 in
theorem goUp_any (T M : Nat) (r : RibD) (ks : List KindD) (w : World) (hTb : TbAt w w.heap.size T M r ks (fun _ => 0) (fun _ => 0)) (hM : MapIs w M (fun _ => False)) (hr : RibOk r) (hks : KindsOk ks) :
    Calls Try.prog 80 #[.pointer (some ⟨T, 0, none⟩)] w fun e w' => (∃ v, e = .returned v) ∧ TbAt w' w.heap.size T M r ks (Ux (tabOf r ks) (r.len.toNat + 1)) (fun _ => 0) ∧ MapIs w' M (Sx (tabOf r ks) (r.len.toNat + 1)) ∧ FrLM w T M w' := by
  obtain ⟨L, hL⟩ : ∃ L : Nat, r.len = (L : Int) := ⟨r.len.toNat, by have := hr.l1; omega⟩
  have hL1 : 1 ≤ L := by have := hr.l1; omega
  have hL24 : L ≤ 24 := by have := hr.l2; omega
  have HLT := Lib.hid (show r.len.toNat = L by omega)
  have HLL := Lib.hid hL
  have HRK := Lib.hid (And.intro hr hks)
  have HOK := Lib.hid (tabOf_ok (r := r) (ks := ks) (by omega) hks)
  have hlt := hTb.lt
  have HS0 : Hid (UpS w T M w.heap.size (w.heap.size + 1) r ks 1 (Ux (tabOf r ks) 1) (Sx (tabOf r ks) 1) ((w.alloc (.cells #[.pointer (some ⟨T, 0, none⟩)] 76)).alloc (.cells #[.int .i64 1] 3))) := Lib.hid (by
    have b2 := Blk.new (w.alloc (.cells #[.pointer (some ⟨T, 0, none⟩)] 76)) (.cells #[.int .i64 1] 3)
    rw [World.size_alloc] at b2
    rw [Ux_one]
    refine ⟨hTb.below (Nat.le_refl _) (below2 _ _ _), (hM.below (below2 _ _ _)).same fun k => ?_, (FrLM.refl w T M).below (below2 _ _ _), (Blk.new _ _).alloc _, b2, Nat.le_refl _, by omega⟩
    constructor
    · exact fun h => h.elim
    · rintro ⟨a, i, rfl, h1, h2, h3, h4⟩
      have := (tabOf_ok (r := r) (ks := ks) (by omega) hks).w i h1
      omega)
  rw [HLT.out]
  clear hL hTb hM hr hks
  refine (callsIn_wide (n := 12)).1 ?_
  refine callsIn_of_wp_marks Try.func80 rfl trivial ?_ rfl
  simp only [Try.ntmps80, List.size_toArray, List.length_cons, List.length_nil, Nat.reduceAdd, Nat.reduceSub, Array.replicate_succ, Array.replicate_zero, List.push_toArray, List.append_toArray, List.nil_append, List.cons_append]
  gi_wp2
  generalize (w.alloc (.cells #[.pointer (some ⟨T, 0, none⟩)] 76)).alloc (.cells #[.int .i64 1] 3) = W1 at *
  refine wpIn_loop_inv (Inv := fun m a wr => ∃ (bp p : Nat) (tl : List Value) (ds : List Deferred), 1 ≤ p ∧ p ≤ L + 1 ∧ m = L + 1 - p ∧ tl.length = 48 ∧ a = { tmps := (.pointer (some ⟨T, 0, none⟩) :: .pointer (some ⟨w.heap.size, 0, none⟩) :: .pointer (some ⟨bp, 0, none⟩) :: tl).toArray, defers := ds } ∧ Marks w.heap.size ds wr ∧ UpS w T M w.heap.size bp r ks p (Ux (tabOf r ks) p) (Sx (tabOf r ks) p) wr) ?step (m := L) ?init
  case init => exact ⟨w.heap.size + 1, 1, _, [], Nat.le_refl _, by omega, by omega, by rfl, rfl, Marks.nil _ _, HS0.out⟩
  case step =>
    clear HS0
    rintro m a wr ⟨bp, p, tl, ds, hp1, hp2, hm, htl, rfl, hmk, hst⟩
    obtain ⟨u3, u4, u5, u6, u7, u8, u9, u10, u11, u12, u13, u14, u15, u16, u17, u18, u19, u20, u21, u22, u23, u24, u25, u26, u27, u28, u29, u30, u31, u32, u33, u34, u35, u36, u37, u38, u39, u40, u41, u42, u43, u44, u45, u46, u47, u48, u49, u50, rfl⟩ := list48 htl
    have HMK := Lib.hid hmk
    have HMM := Lib.hid hm
    clear htl hmk hm
    have HST := Lib.hid hst
    have x1 := hst.2.2.2.1.cell 0
    have xp := hst.2.2.2.2.1.cell 0
    have xl := hst.1.len
    simp at x1 xp
    rw [HLL.out] at xl
    have g0 := fun d os => cell_regrown x1 d os
    have g1 := fun d os => cell_regrown xp d os
    have g2 := fun d os => cell_regrown xl d os
    clear hst
    gi_wp2_with fail
    refine wpIn_wide.2 (wp_region_quiet_below (by kernel_rfl) (by kernel_rfl) ?_)
    repeat (quiet_step (fail))
    refine wpQuiet_nil ?_
    intro _ hw'
    obtain ⟨⟨dq, osq⟩, hw''⟩ := hw'
    subst hw''
    have HS3 := Lib.hid (HST.out.below (below_regrown wr dq osq))
    clear g0 g1 g2 x1 xp xl
    have HMK3 := Lib.hid (HMK.out.below (below_regrown wr dq osq))
    generalize grow (redrawn wr dq) osq = w3 at *
    by_cases hlt : p ≤ L
    · have d1 : decide ((p : Int) ≤ (L : Int)) = true := by simp; omega
      have d2 : decide (p ≤ L) = true := by simp; omega
      gi_wp2_with fail
      clear d1 d2
      have HS3d := Lib.hid (show UpS w T M w.heap.size bp r ks p (Ux (tabOf r ks) p) (Sx (tabOf r ks) p) w3.drew from HS3.out.below (Below.refl _ _).drew)
      have HMKd := Lib.hid (show Marks w.heap.size ds w3.drew from HMK3.out.below (Below.refl _ _).drew)
      have x1 : w3.drew.cell? ⟨w.heap.size, 0, none⟩ = some (.pointer (some ⟨T, 0, none⟩)) := by have := HS3d.out.2.2.2.1.cell 0; simpa using this
      have xp : w3.drew.cell? ⟨bp, 0, none⟩ = some (.int .i64 (p : Int)) := by have := HS3d.out.2.2.2.2.1.cell 0; simpa using this
      obtain ⟨u0, hu0⟩ : ∃ u0, Ux (tabOf r ks) p (p - 1) = u0 := ⟨_, rfl⟩
      have xu : w3.drew.cell? ⟨T, 4 + (p - 1), none⟩ = some (.int .i64 u0) := by rw [← hu0]; exact HS3d.out.1.up (p - 1) (by omega)
      have hmf : ∀ (fn : Fn) (first cap : Array Value) (w : World), (Instr.makeFunc fn first cap).run Try.prog w = .ok (.func fn first cap) w := fun _ _ _ _ => rfl
      have ww : IntKind.i64.wrap ((p : Int) - 1) = (p : Int) - 1 := IntWalk.i64_in _ (by omega)
      have ip0 : (0 : Int) ≤ (p : Int) - 1 := by omega
      have ip0' : (1 : Int) ≤ (p : Int) := by omega
      have ip1 : ((p : Int) - 1).toNat = p - 1 := by omega
      have ip2 : (p : Int) - 1 < 25 := by omega
      have HU0 := Lib.hid hu0
      clear hu0
      refine wpIn_wide.2 (wp_only ?_)
      refine (wp_region_T 17 (fun W' => W'.cell? ⟨w.heap.size, 0, none⟩ = some (.pointer (some ⟨T, 0, none⟩)) ∧ W'.cell? ⟨bp, 0, none⟩ = some (.int .i64 (p : Int)) ∧ W'.cell? ⟨T, 4 + (p - 1), none⟩ = some (.int .i64 u0)) (by kernel_rfl) (by kernel_rfl) ⟨x1, xp, xu⟩ ?_)
      intro inv hS
      clear x1 xp xu HS3 HMK3
      generalize w3.drew = V0 at *
      refine wpAnyT_take inv (by kernel_rfl) (by omega) (i := 0) (v := .pointer (some ⟨T, 0, none⟩)) rfl (by kernel_rfl) (by kernel_rfl) (fun _ _ _ h => h) (Or.inl ⟨by kernel_rfl, ?_⟩) (by assumption) ?_
      · rintro W' ⟨q0, q1, q2⟩
        go_simp
      intro inv2
      clear inv
      have inv := inv2
      clear inv2
      simp only [Act.put, List.setIfInBounds_toArray]
      refine wpAnyT_take inv (by kernel_rfl) (by omega) (i := 1) (v := .int .i64 (p : Int)) rfl (by kernel_rfl) (by kernel_rfl) (fun _ _ _ h => h) (Or.inl ⟨by kernel_rfl, ?_⟩) (by assumption) ?_
      · rintro W' ⟨q0, q1, q2⟩
        go_simp
      intro inv2
      clear inv
      have inv := inv2
      clear inv2
      simp only [Act.put]
      refine wpAnyT_take inv (by kernel_rfl) (by omega) (i := 2) (v := .pointer (some ⟨T, 0, none⟩)) rfl (by kernel_rfl) (by kernel_rfl) (fun _ _ _ h => h) (Or.inl ⟨by kernel_rfl, ?_⟩) (by assumption) ?_
      · rintro W' ⟨q0, q1, q2⟩
        go_simp
      intro inv2
      clear inv
      have inv := inv2
      clear inv2
      simp only [Act.put]
      refine wpAnyT_take inv (by kernel_rfl) (by omega) (i := 3) (v := .int .i64 (p : Int)) rfl (by kernel_rfl) (by kernel_rfl) (fun _ _ _ h => h) (Or.inl ⟨by kernel_rfl, ?_⟩) (by assumption) ?_
      · rintro W' ⟨q0, q1, q2⟩
        go_simp
      intro inv2
      clear inv
      have inv := inv2
      clear inv2
      simp only [Act.put]
      refine wpAnyT_take inv (by kernel_rfl) (by omega) (i := 4) (v := .int .i64 ((p : Int) - 1)) rfl (by kernel_rfl) (by kernel_rfl) (fun _ _ _ h => h) (Or.inl ⟨by kernel_rfl, ?_⟩) (by assumption) ?_
      · rintro W' ⟨q0, q1, q2⟩
        go_simp
      intro inv2
      clear inv
      have inv := inv2
      clear inv2
      simp only [Act.put]
      refine wpAnyT_take inv (by kernel_rfl) (by omega) (i := 5) (v := .pointer (some ⟨T, 0, none⟩)) rfl (by kernel_rfl) (by kernel_rfl) (fun _ _ _ h => h) (Or.inl ⟨by kernel_rfl, ?_⟩) (by assumption) ?_
      · rintro W' ⟨q0, q1, q2⟩
        go_simp
      intro inv2
      clear inv
      have inv := inv2
      clear inv2
      simp only [Act.put]
      refine wpAnyT_take inv (by kernel_rfl) (by omega) (i := 6) (v := .pointer (some ⟨T, 4, none⟩)) rfl (by kernel_rfl) (by kernel_rfl) (fun _ _ _ h => h) (Or.inl ⟨by kernel_rfl, ?_⟩) (by assumption) ?_
      · rintro W' ⟨q0, q1, q2⟩
        go_simp
      intro inv2
      clear inv
      have inv := inv2
      clear inv2
      simp only [Act.put]
      refine wpAnyT_take inv (by kernel_rfl) (by omega) (i := 7) (v := .pointer (some ⟨T, 4 + (p - 1), none⟩)) rfl (by kernel_rfl) (by kernel_rfl) (fun _ _ _ h => h) (Or.inl ⟨by kernel_rfl, ?_⟩) (by assumption) ?_
      · rintro W' ⟨q0, q1, q2⟩
        go_simp
      intro inv2
      clear inv
      have inv := inv2
      clear inv2
      simp only [Act.put]
      refine wpAnyT_take inv (by kernel_rfl) (by omega) (i := 8) (v := .int .i64 u0) rfl (by kernel_rfl) (by kernel_rfl) (fun _ _ _ h => h) (Or.inl ⟨by kernel_rfl, ?_⟩) (by assumption) ?_
      · rintro W' ⟨q0, q1, q2⟩
        go_simp
      intro inv2
      clear inv
      have inv := inv2
      clear inv2
      simp only [Act.put]
      refine wpAnyT_take inv (by kernel_rfl) (by omega) (i := 9) (v := .pointer (some ⟨T, 0, none⟩)) rfl (by kernel_rfl) (by kernel_rfl) (fun _ _ _ h => h) (Or.inl ⟨by kernel_rfl, ?_⟩) (by assumption) ?_
      · rintro W' ⟨q0, q1, q2⟩
        go_simp
      intro inv2
      clear inv
      have inv := inv2
      clear inv2
      simp only [Act.put]
      refine wpAnyT_take inv (by kernel_rfl) (by omega) (i := 10) (v := .int .i64 (p : Int)) rfl (by kernel_rfl) (by kernel_rfl) (fun _ _ _ h => h) (Or.inl ⟨by kernel_rfl, ?_⟩) (by assumption) ?_
      · rintro W' ⟨q0, q1, q2⟩
        go_simp
      intro inv2
      clear inv
      have inv := inv2
      clear inv2
      simp only [Act.put]
      refine wpAnyT_take inv (by kernel_rfl) (by omega) (i := 12) (v := .pointer (some ⟨T, 0, none⟩)) rfl (by kernel_rfl) (by kernel_rfl) (fun _ _ _ h => h) (Or.inl ⟨by kernel_rfl, ?_⟩) (by assumption) ?_
      · rintro W' ⟨q0, q1, q2⟩
        go_simp
      intro inv2
      clear inv
      have inv := inv2
      clear inv2
      simp only [Act.put]
      refine wpAnyT_take inv (by kernel_rfl) (by omega) (i := 13) (v := .func (.func 83) #[.pointer (some ⟨T, 0, none⟩)] #[]) rfl (by kernel_rfl) (by kernel_rfl) (fun _ _ _ h => h) (Or.inl ⟨by kernel_rfl, ?_⟩) (by assumption) ?_
      · rintro W' ⟨q0, q1, q2⟩
        go_simp
      intro inv2
      clear inv
      have inv := inv2
      clear inv2
      simp only [Act.put]
      refine wpAnyT_take inv (by kernel_rfl) (by omega) (i := 15) (v := .pointer (some ⟨T, 0, none⟩)) rfl (by kernel_rfl) (by kernel_rfl) (fun _ _ _ h => h) (Or.inl ⟨by kernel_rfl, ?_⟩) (by assumption) ?_
      · rintro W' ⟨q0, q1, q2⟩
        go_simp
      intro inv2
      clear inv
      have inv := inv2
      clear inv2
      simp only [Act.put]
      refine wpAnyT_take inv (by kernel_rfl) (by omega) (i := 16) (v := .pointer (some ⟨T, 4, none⟩)) rfl (by kernel_rfl) (by kernel_rfl) (fun _ _ _ h => h) (Or.inl ⟨by kernel_rfl, ?_⟩) (by assumption) ?_
      · rintro W' ⟨q0, q1, q2⟩
        go_simp
      intro inv2
      clear inv
      have inv := inv2
      clear inv2
      simp only [Act.put]
      clear ww ip0 ip0' ip1 ip2 hmf
      refine wpAnyT_ready [11] (by kernel_rfl) (by simp) ?_
      refine AllReadyT.cons rfl (fun K hK => ?_) AllReadyT.nil
      go_simp
      refine (sheets_any T p _).mono ?_
      rintro e w4 ⟨rfl, rfl⟩
      have hb4 := below2 V0 (.cells #[.pointer (some ⟨T, 0, none⟩)] 76) (.cells #[.int .i64 (p : Int)] 3)
      refine hK.out _ _ (fun _ => ⟨cellB hS.1 hb4, cellB hS.2.1 hb4, cellB hS.2.2 hb4⟩) (fun _ => ?_)
      replace inv := HeadM.step inv 11 (by kernel_rfl) (by omega)
      clear hK K
      try simp only [Act.put]
      have hS4 := And.intro (cellB hS.1 hb4) (And.intro (cellB hS.2.1 hb4) (cellB hS.2.2 hb4))
      have hlM := HS3d.out.1.lt
      have hfz := HS3d.out.2.2.1.size
      have HSH := Lib.hid (ShAt.new (w := V0) (p := p) HS3d.out.1.tab HRK.out.2 HRK.out.1 (by omega))
      have HS4 := Lib.hid (HS3d.out.below hb4)
      have HMK4 := Lib.hid (HMKd.out.below hb4)
      generalize (V0.alloc (.cells #[.pointer (some ⟨T, 0, none⟩)] 76)).alloc (.cells #[.int .i64 (p : Int)] 3) = V4 at *
      clear hS HS3d HMKd hb4
      have HMX := Lib.hid (show mxL (fun x => Ux (tabOf r ks) p x.1 + (kd ks x.2).p) (shL (tabOf r ks) p) u0 = up (tabOf r ks) p by
        have h1 := mx_up HOK.out (p - 1) (U := Ux (tabOf r ks) p) (fun q hq => by unfold Ux; rw [if_pos (by omega)])
        rw [show p - 1 + 1 = p by omega, HU0.out] at h1
        exact h1)
      refine wpAnyT_ready [14] (by kernel_rfl) (by simp) ?_
      refine AllReadyT.cons rfl (fun K hK => ?_) AllReadyT.nil
      go_simp
      refine ((callsIn_wide (n := 5)).1 (most_any 5 (by omega) T M (V0.heap.size + 2) V0.heap.size (V0.heap.size + 1) p r ks (Ux (tabOf r ks) p) u0 V4 HSH.out HS4.out.1.up HRK.out.1 HRK.out.2 (by omega) (fun q _ => Ux_bd HRK.out.1 HRK.out.2 (by rw [HLT.out]; omega) q))).mono ?_
      rintro e w5 ⟨rfl, hb5⟩
      rw [HMX.out]
      refine hK.out _ _ (fun _ => ⟨cellB hS4.1 hb5, cellB hS4.2.1 hb5, cellB hS4.2.2 hb5⟩) (fun _ => ?_)
      have HS5 := Lib.hid (HS4.out.below hb5)
      have HMK5 := Lib.hid (HMK4.out.below hb5)
      clear hK K inv hS4 hb5 HSH HS4 HMK4 HMX
      try simp only [Act.put]
      refine wpAnyT_chain (fuel := 2) rfl (by kernel_rfl) ?_
      simp only [List.drop_succ_cons, List.drop_zero]
      have hp25 : (p : Int) < 25 := by omega
      have xu := HS5.out.1.up p (by omega)
      have xf := HS5.out.1.frozen (4 + p)
      have xl := HS5.out.1.lt.1
      go_wp2_with fail
      have HS6 := Lib.hid (HS5.out.setUp (q := p) (by omega) (up (tabOf r ks) p))
      rw [Ux_set] at HS6
      have HMK6 := Lib.hid (HMK5.out.from (w' := w5.setCell ⟨T, 4 + p, none⟩ (.int .i64 (up (tabOf r ks) p))) ((KeepsOthers.setCell _ _ _).from _))
      clear xu xf xl HS5 HMK5 hlM hfz
      generalize w5.setCell ⟨T, 4 + p, none⟩ (.int .i64 (up (tabOf r ks) p)) = w6 at *
      unfold OnlyN
      have x1 : w6.cell? ⟨w.heap.size, 0, none⟩ = some (.pointer (some ⟨T, 0, none⟩)) := by have := HS6.out.2.2.2.1.cell 0; simpa using this
      have xp : w6.cell? ⟨bp, 0, none⟩ = some (.int .i64 (p : Int)) := by have := HS6.out.2.2.2.2.1.cell 0; simpa using this
      gi_wp2_with fail
      refine ⟨trivial, (callsIn_wide.2 (sheets_any T p _)).mono ?_⟩
      rintro e w7 ⟨rfl, rfl⟩
      have hb7 := below2 w6 (.cells #[.pointer (some ⟨T, 0, none⟩)] 76) (.cells #[.int .i64 (p : Int)] 3)
      have hlM := HS6.out.1.lt
      have hfz := HS6.out.2.2.1.size
      have HSH := Lib.hid (ShAt.new (w := w6) (p := p) HS6.out.1.tab HRK.out.2 HRK.out.1 (by omega))
      have HS7 := Lib.hid (HS6.out.below hb7)
      have HMK7 := Lib.hid (HMK6.out.below hb7)
      have hz7 : w6.heap.size + 2 = ((w6.alloc (.cells #[.pointer (some ⟨T, 0, none⟩)] 76)).alloc (.cells #[.int .i64 (p : Int)] 3)).heap.size := by simp
      generalize (w6.alloc (.cells #[.pointer (some ⟨T, 0, none⟩)] 76)).alloc (.cells #[.int .i64 (p : Int)] 3) = w7 at *
      clear HS6 HMK6 hb7 x1 xp
      gi_wp2_with fail
      generalize hA : Act.mk _ _ = a0
      have eg : ∀ args w, (callFunc 79 args).run Try.prog w = .ok (.enter 79 args) w := fun _ _ => rfl
      have hmlt : ∀ E, ({ target := .collected E, args := #[] } : Deferred) ∈ ds → E < w7.heap.size := fun E hE => HMK7.out.lt hE
      have hseq := sheets_stops (12 - 1) (by omega) T M (w6.heap.size + 2) w6.heap.size (w6.heap.size + 1) p r ks w7 HSH.out HRK.out.1 HRK.out.2 (by omega)
      have hTn : T < w6.heap.size + 2 := by omega
      refine wpIn_rangeFunc_ownH (F := Fence.wide) rfl (by omega) (gf := 79) (lb := #[.pointer (some ⟨w6.heap.size, 0, none⟩), .pointer (some ⟨w6.heap.size + 1, 0, none⟩)]) (by rw [← hA]; rfl) trivial eg
        hseq (fun h k => KT.trans h k) (fun W l o o' hl _ _ _ => KT.put (by omega) hTn) (Below.refl _ _) (fun _ => rfl)
        (fun (pre : List (SH (tabOf r ks) p)) W => UpS w T M w.heap.size bp r ks p (Ux (tabOf r ks) (p + 1)) (fun k => Sx (tabOf r ks) p k ∨ ∃ x ∈ pre, up (tabOf r ks) x.1.1 + (tabOf r ks).P x.1.2 = up (tabOf r ks) p ∧ k = skI x.1) W ∧ Marks w.heap.size ds W ∧ w7.heap.size ≤ W.heap.size)
        (fun _ _ _ => False)
        (ownFrom_of fun pre W W' ⟨h1, h2, h3⟩ hk => ⟨h1.keeps (by omega) hk, h2.keeps hmlt hk, Nat.le_trans h3 hk.size⟩)
        (fun _ _ _ _ _ hs _ _ => hs)
        ⟨HS7.out.same fun k => ⟨fun h => .inl h, fun h => h.elim id fun ⟨x, hx, _⟩ => by cases hx⟩, HMK7.out, Nat.le_refl _⟩
        (fun x a' W => ∃ Bx, w7.heap.size ≤ Bx ∧ Blk W Bx (.cells #[.int .i64 (x.1.1 : Nat), .int .i64 (x.1.2 : Nat)] 56) ∧ a' = { tmps := (a0.tmps.setIfInBounds 34 (shV (x.1.1 : Nat) (x.1.2 : Nat))).setIfInBounds 3 (.pointer (some ⟨Bx, 0, none⟩)), defers := [] })
        (fun x a' => ownFrom_of fun _ W W' h hk => by obtain ⟨Bx, h1, h2, h3⟩ := h; exact ⟨Bx, h1, h2.keepsC hk, h3⟩)
        ?assign ?body ?done ?stop
      case assign =>
        rintro l pre x W K ⟨h1, h2, h3⟩ hK
        subst hA
        unfold shE shV
        gi_wp2
        exact hK _ _ ((KeepsOthers.alloc _ _).from _) (KT.of_below (below1 _ _) (by omega) (by omega)) ⟨h1.below (below1 _ _), h2.below (below1 _ _), by simp; omega⟩ ⟨W.heap.size, by omega, Blk.new W _, rfl⟩
      case body =>
        rintro l pre x a' W hl ⟨rr, hrr⟩ ⟨h1, h2, h3⟩ ⟨Bx, hBx, bX, rfl⟩ hlt
        subst hA
        simp only [List.setIfInBounds_toArray, List.set_cons_succ, List.set_cons_zero]
        have hx := shL_mem.1 x.2
        have hK1 : (tabOf r ks).K = ks.length := rfl
        have hx2 : x.1.2 < ks.length := hx.1
        have hx1 : x.1.1 < p := by
          have hw := HOK.out.w x.1.2 hx.1
          have h4 := hx.2.1
          unfold canTo at h4
          simp only [Bool.and_eq_true, decide_eq_true_eq] at h4
          have := hx.2.2
          omega
        have hbl := bX.lt
        have hsz3 : w.heap.size ≤ W.heap.size := h1.2.2.1.size
        obtain ⟨uv, huv⟩ : ∃ uv, up (tabOf r ks) p = uv := ⟨_, rfl⟩
        obtain ⟨fv, hfv⟩ : ∃ fv, up (tabOf r ks) x.1.1 + (tabOf r ks).P x.1.2 = fv := ⟨_, rfl⟩
        have HW1 : ∀ (d : Nat) (os : Array Obj), _ := fun d os => Calls.regrown_of (worthWith_any T M r ks x.1.1 x.1.2 (Ux (tabOf r ks) (p + 1)) (grow (redrawn W d) os) (h1.1.tab.below (below_regrown W d os)) HRK.out.1 HRK.out.2 hx2 (by omega) (h1.1.up.below (below_regrown W d os)) (Ux_bd HRK.out.1 HRK.out.2 (by rw [HLT.out]; omega) _).1 (Ux_bd HRK.out.1 HRK.out.2 (by rw [HLT.out]; omega) _).2)
        rw [show Ux (tabOf r ks) (p + 1) x.1.1 + (kd ks x.1.2).p = fv by rw [← hfv]; unfold Ux; rw [if_pos (by omega)]; rfl] at HW1
        have e1 := h1.2.2.2.1.cell 0
        have ep := h1.2.2.2.2.1.cell 0
        have eu := h1.1.up p (by omega)
        rw [show Ux (tabOf r ks) (p + 1) p = uv by unfold Ux; rw [if_pos (by omega), huv]] at eu
        have eX := bX.cell 0
        have eX' := bX.cell 1
        simp at e1 ep eX eX'
        have g0 := fun d os => cell_regrown e1 d os
        have g1 := fun d os => cell_regrown ep d os
        have g2 := fun d os => cell_regrown eu d os
        have g3 := fun d os => cell_regrown eX d os
        have g4 := fun d os => cell_regrown eX' d os
        have hp25 : (p : Int) < 25 := by omega
        have HI1 := Lib.hid h1
        have HI2 := Lib.hid h2
        have HUF := Lib.hid (And.intro huv hfv)
        clear e1 ep eu eX eX' huv hfv hx hK1
        have HT0 : T < W.heap.size := h1.1.lt.1
        clear h1 h2
        gi_wp2_with fail
        refine wpIn_region_tail 9 (by kernel_rfl) (by kernel_rfl) ?_
        repeat (quiet_step ((go_at_call 83; exact HW1 _ _)))
        refine wpQuiet_nil ?_
        intro _ hw'
        obtain ⟨⟨dq, osq⟩, hw''⟩ := hw'
        subst hw''
        simp only [List.drop_succ_cons, List.drop_zero]
        have hb8 := below_regrown W dq osq
        have HS8 := Lib.hid (HI1.out.below hb8)
        have HM8 := Lib.hid (HI2.out.below hb8)
        have b8 := bX.below hb8
        have hz8 := hb8.size
        have HKO := Lib.hid (KeepsOthers.of_below hb8)
        have HKT := Lib.hid (show KT T M (w6.heap.size + 2) W (grow (redrawn W dq) osq) from KT.of_below hb8 (by omega) HT0)
        clear g0 g1 g2 g3 g4 HW1 hb8 HI1 HI2
        generalize grow (redrawn W dq) osq = w8 at *
        by_cases hq : fv = uv
        · have d1 : (fv == uv) = true := by simpa using hq
          have HQ := Lib.hid hq
          clear hq
          gi_wp2_with fail
          have e1 := HS8.out.2.2.2.1.cell 0
          have em := HS8.out.1.mp
          have eX := b8.cell 0
          have eX' := b8.cell 1
          simp at e1 eX eX'
          have g0 := fun d os => cell_regrown e1 d os
          have g1 := fun d os => cell_regrown em d os
          have g3 := fun d os => cell_regrown eX d os
          have g4 := fun d os => cell_regrown eX' d os
          clear e1 em eX eX'
          refine wpIn_region_tail 5 (by kernel_rfl) (by kernel_rfl) ?_
          repeat (quiet_step (fail))
          refine wpQuiet_nil ?_
          intro _ hw'
          obtain ⟨⟨dq2, osq2⟩, hw''⟩ := hw'
          subst hw''
          simp only [List.drop_succ_cons, List.drop_zero]
          have hb9 := below_regrown w8 dq2 osq2
          have HS9 := Lib.hid (HS8.out.below hb9)
          have HM9 := Lib.hid (HM8.out.below hb9)
          have hz9 := hb9.size
          have HKO9 := Lib.hid (HKO.out.trans (KeepsOthers.of_below hb9))
          have HKT9 := Lib.hid (HKT.out.trans (KT.of_below hb9 (by omega) HS8.out.1.lt.1))
          clear g0 g1 g3 g4 hb9
          generalize grow (redrawn w8 dq2) osq2 = w9 at *
          obtain ⟨o, hrun, hmap⟩ := HS9.out.2.1.put (skI x.1)
          have HMP := Lib.hid hmap
          unfold skI pkV at hrun
          simp only at hrun
          have hMl := HS9.out.2.1.lt
          clear hmap
          gi_wp2
          have hgr := grownBy_putObj' w9 M o
          refine ⟨(HKO9.out.from _).trans (KeepsFrom.of_grownBy hgr (fun j e => by cases e; omega)), HKT9.out.trans (KT.putM hlM.2.2.2 o), (HS9.out.putM HMP.out).same fun k => ?_, HM9.out.from (KeepsFrom.of_grownBy hgr (fun j e => by cases e; omega)), by simp; omega⟩
          constructor
          · rintro ((h | ⟨y, hy, h⟩) | rfl)
            · exact .inl h
            · exact .inr ⟨y, List.mem_append_left _ hy, h⟩
            · exact .inr ⟨x, List.mem_append_right _ (List.mem_singleton.2 rfl), by rw [HUF.out.1, HUF.out.2]; exact HQ.out, rfl⟩
          · rintro (h | ⟨y, hy, hy1, hy2⟩)
            · exact .inl (.inl h)
            · rcases List.mem_append.1 hy with hy | hy
              · exact .inl (.inr ⟨y, hy, hy1, hy2⟩)
              · simp only [List.mem_singleton] at hy
                subst hy
                exact .inr hy2
        · have d1 : (fv == uv) = false := by simpa using hq
          have HQ := Lib.hid hq
          clear hq
          gi_wp2
          refine ⟨HKO.out.from _, HKT.out, HS8.out.same fun k => ?_, HM8.out, by omega⟩
          constructor
          · exact fun h => h.elim .inl fun ⟨y, hy, h⟩ => .inr ⟨y, List.mem_append_left _ hy, h⟩
          · rintro (h | ⟨y, hy, hy1, hy2⟩)
            · exact .inl h
            · rcases List.mem_append.1 hy with hy | hy
              · exact .inr ⟨y, hy, hy1, hy2⟩
              · simp only [List.mem_singleton] at hy
                subst hy
                rw [HUF.out.1, HUF.out.2] at hy1
                exact absurd hy1 HQ.out
      case done =>
        rintro D zs W hD hzs ⟨h1, h2, h3⟩ hK
        subst hA
        have ep := h1.2.2.2.2.1.cell 0
        simp at ep
        have hbl := lt_of_cell ep
        have hDl := (Array.getElem?_eq_some_iff.1 hK).1
        have hb9 := below1 W (.cells #[.int .i64 ((p : Int) + 1)] 3)
        have hmk9 := ((h2.cons (D := D) (by omega) hK (fun E hE e => by have := hmlt E hE; omega)).below hb9)
        have hst9 : UpS w T M w.heap.size W.heap.size r ks (p + 1) (Ux (tabOf r ks) (p + 1)) (Sx (tabOf r ks) (p + 1)) (W.alloc (.cells #[.int .i64 ((p : Int) + 1)] 3)) := by
          obtain ⟨k1, k2, k3, k4, k5, k6, k7⟩ := h1.below hb9
          refine ⟨k1, k2.same fun k => ?_, k3, k4, Blk.new _ _, k6, by have := h1.2.2.1.size; omega⟩
          rw [Sx_step]
          constructor
          · rintro (h | ⟨y, hy, hy1, hy2⟩)
            · exact .inl h
            · exact .inr ⟨y.1, y.2, hy1, hy2⟩
          · rintro (h | ⟨y, hy, hy1, hy2⟩)
            · exact .inl h
            · rw [← hzs] at hy
              obtain ⟨z, hz, rfl⟩ := List.mem_map.1 hy
              exact .inr ⟨z, hz, hy1, hy2⟩
        have HE := Lib.hid (And.intro hmk9 hst9)
        clear hmk9 hst9 hb9 h1 h2 hK hzs
        gi_wp2
        exact ⟨L + 1 - (p + 1), by have := HMM.out; omega, W.heap.size, p + 1, _, _, by omega, by omega, rfl, by rfl, rfl, HE.out.1, HE.out.2⟩
      case stop =>
        rintro D c pre W _ _ h _
        exact h.elim
    · obtain rfl : p = L + 1 := by omega
      have d1 : decide (((L + 1 : Nat) : Int) ≤ (L : Int)) = false := by simp; omega
      have d2 : decide (L + 1 ≤ L) = false := by simp
      have d3 : decide ((L : Int) + 1 ≤ (L : Int)) = false := by simp; omega
      gi_wp2
      refine leaves_marks HMK3.out fun w' hk => ?_
      have hfin := HS3.out.keeps (Nat.le_refl _) hk
      exact ⟨_, results_none rfl _ _ _, ⟨_, rfl⟩, hfin.1, hfin.2.1, hfin.2.2.1⟩
end Go.Proofs.Ytnkeikhkafbokaa

namespace Go.Proofs.Ytnkeikhkafbokaa
open Go.Dag

/-! ## What goBack holds: the numbers, and the sheets that are left -/
def Wx (t : Tab) (p q : Nat) : Int := if q ≤ t.L then Yv t p q else 0
/-- .. in the round of place p, when the sheets pre have been told of. -/
def Zx (t : Tab) (p : Nat) (pre : List (Nat × Nat)) (q : Nat) : Int :=
  if q ≤ t.L then (Yv t p q + if q = p - 1 ∧ up t (p - 1) = up t p then Dag.ways t p else 0) + (if q < p then addW t p pre q else 0) else 0
theorem Wx_end (t : Tab) (h : t.Ok) : Wx t t.L = fun q => if q = t.L then 1 else 0 := by
  funext q
  unfold Wx
  by_cases c : q ≤ t.L
  · rw [if_pos c, Yv_start h c]
  · rw [if_neg c, if_neg (by omega)]
theorem addW_nil (t : Tab) (p q : Nat) : addW t p [] q = 0 := rfl
theorem Zx_no {t : Tab} {p : Nat} (he : up t (p - 1) ≠ up t p) : Zx t p [] = Wx t p := by
  funext q
  unfold Zx Wx
  rw [addW_nil, if_neg (fun hh : q = p - 1 ∧ _ => he hh.2)]
  by_cases c : q ≤ t.L
  · rw [if_pos c, if_pos c]; split <;> omega
  · rw [if_neg c, if_neg c]
theorem Zx_yes {t : Tab} {p : Nat} (hpL : p ≤ t.L) (he : up t (p - 1) = up t p) : updF (Wx t p) (p - 1) (Wx t p (p - 1) + Dag.ways t p) = Zx t p [] := by
  funext q
  unfold updF Zx Wx
  rw [addW_nil]
  by_cases e : q = p - 1
  · subst e
    rw [if_pos rfl, if_pos (by omega), if_pos (by omega), if_pos ⟨rfl, he⟩]
    split <;> omega
  · rw [if_neg e, if_neg (fun hh : q = p - 1 ∧ _ => e hh.1)]
    split
    · split <;> omega
    · rfl
theorem Zx_add {t : Tab} {p : Nat} {pre : List (Nat × Nat)} {x : Nat × Nat} (hpL : p ≤ t.L) (hx : x.1 < p) (he : up t x.1 + t.P x.2 = up t p) : updF (Zx t p pre) x.1 (Zx t p pre x.1 + Dag.ways t p) = Zx t p (pre ++ [x]) := by
  funext q
  unfold updF Zx
  rw [addW_snoc]
  by_cases e : q = x.1
  · subst e
    rw [if_pos rfl, if_pos (show x.1 ≤ t.L by omega), if_pos hx, if_pos (⟨rfl, he⟩ : x.1 = x.1 ∧ up t x.1 + t.P x.2 = up t p)]
    omega
  · rw [if_neg e, if_neg (fun hh : x.1 = q ∧ _ => e hh.1.symm), Int.add_zero]
theorem Zx_same {t : Tab} {p : Nat} {pre : List (Nat × Nat)} {x : Nat × Nat} (he : up t x.1 + t.P x.2 = up t p → Dag.ways t p = 0) : Zx t p pre = Zx t p (pre ++ [x]) := by
  funext q
  unfold Zx
  rw [addW_snoc]
  by_cases c : x.1 = q ∧ up t x.1 + t.P x.2 = up t p
  · rw [if_pos c, he c.2, Int.add_zero]
  · rw [if_neg c, Int.add_zero]
theorem Zx_at {t : Tab} {p : Nat} (hp : 1 ≤ p) (hpL : p ≤ t.L) (pre : List (Nat × Nat)) : Zx t p pre p = Dag.ways t p := by
  unfold Zx Yv
  rw [if_pos hpL, if_pos (Nat.le_refl p), if_neg (by omega), if_neg (by omega)]
  omega
theorem Wx_at {t : Tab} {p : Nat} (hpL : p ≤ t.L) : Wx t p p = Dag.ways t p := by
  unfold Wx Yv
  rw [if_pos hpL, if_pos (Nat.le_refl p)]
theorem Zx_all {t : Tab} (h : t.Ok) {p : Nat} (hp : 1 ≤ p) (hpL : p ≤ t.L) : Zx t p (shL t p) = Wx t (p - 1) := by
  funext q
  unfold Zx Wx
  rw [Yv_step h hp hpL]
theorem Wx_bd {t : Tab} (h : t.Ok) (hK : t.K ≤ 6) (hL : t.L ≤ 24) {p : Nat} (hp : 1 ≤ p) (q : Nat) : 0 ≤ Wx t p q ∧ Wx t p q ≤ b23 := by
  unfold Wx Yv
  have hb : (0 : Int) ≤ b23 := by unfold b23; omega
  split
  · split
    · exact ways_bd h hK hL (by omega)
    · exact Yb_bd h hK hL hp
  · omega
theorem Zx_bd {t : Tab} (h : t.Ok) (hK : t.K ≤ 6) (hL : t.L ≤ 24) {p : Nat} (hp : 1 ≤ p) (pre : List (Nat × Nat)) (hpre : pre.length ≤ 6) (q : Nat) : 0 ≤ Zx t p pre q ∧ Zx t p pre q ≤ 8 * b23 := by
  have h1 := Wx_bd h hK hL hp q
  have h2 := addW_bd h hK hL hp q pre
  have h3 := ways_bd h hK hL hp
  have hb : (0 : Int) ≤ b23 := by unfold b23; omega
  have h4 : (pre.length : Int) * b23 ≤ 6 * b23 := Int.mul_le_mul_of_nonneg_right (by omega) hb
  unfold Wx at h1
  unfold Zx
  split
  · rename_i c
    rw [if_pos c] at h1
    split <;> split <;> omega
  · omega
theorem shL_len (t : Tab) (p : Nat) : (shL t p).length ≤ t.K := by
  unfold shL shK
  rw [List.length_map]
  exact Nat.le_trans (List.length_filter_le _ _) (by rw [List.length_range]; exact Nat.le_refl _)
/-- The sheets that are left when the places behind p have been told of. -/
def Bx (t : Tab) (p : Nat) (k : SK) : Prop := Sx t (t.L + 1) k ∧ ∀ a i : Nat, k = ((a : Int), (i : Int)) → p < a + t.W i → On t (a + t.W i)
def Bp (t : Tab) (p : Nat) (pre : List (Nat × Nat)) (k : SK) : Prop := Bx t p k ∧ (Dag.ways t p = 0 → ∀ x ∈ pre, k ≠ skI x)
theorem Bx_start {t : Tab} (k : SK) : Sx t (t.L + 1) k ↔ Bx t t.L k := by
  refine ⟨fun hs => ⟨hs, fun a i e hl => ?_⟩, fun hs => hs.1⟩
  obtain ⟨a', i', e', h1, h2, h3, h4⟩ := hs
  rw [e] at e'
  have e1 := congrArg Prod.fst e'
  have e2 := congrArg Prod.snd e'
  simp only at e1 e2
  obtain rfl : a = a' := by omega
  obtain rfl : i = i' := by omega
  omega
theorem Bp_nil (t : Tab) (p : Nat) (k : SK) : Bx t p k ↔ Bp t p [] k := ⟨fun h => ⟨h, fun _ x hx => by cases hx⟩, fun h => h.1⟩
theorem skI_inj {x y : Nat × Nat} (h : skI x = skI y) : x = y := by
  unfold skI at h
  have e1 := congrArg Prod.fst h
  have e2 := congrArg Prod.snd h
  simp only at e1 e2
  exact Prod.ext (by omega) (by omega)
theorem shL_end {t : Tab} {p : Nat} {x : Nat × Nat} (hx : x ∈ shL t p) : x.2 < t.K ∧ t.can x.1 x.2 = true ∧ x.1 + t.W x.2 = p := by
  obtain ⟨m1, m2, m3⟩ := shL_mem.1 hx
  unfold canTo at m2
  simp only [Bool.and_eq_true, decide_eq_true_eq] at m2
  exact ⟨m1, by rw [m3]; exact m2.2, by omega⟩
theorem Bp_add (t : Tab) (p : Nat) (pre : List (Nat × Nat)) (x : Nat × Nat) (hz : Dag.ways t p = 0) (k : SK) : (Bp t p pre k ∧ k ≠ skI x) ↔ Bp t p (pre ++ [x]) k := by
  constructor
  · rintro ⟨⟨h1, h2⟩, h3⟩
    refine ⟨h1, fun h0 y hy => ?_⟩
    rcases List.mem_append.1 hy with hy | hy
    · exact h2 h0 y hy
    · simp only [List.mem_singleton] at hy
      rw [hy]; exact h3
  · rintro ⟨h1, h2⟩
    exact ⟨⟨h1, fun h0 y hy => h2 h0 y (List.mem_append_left _ hy)⟩, h2 hz x (List.mem_append_right _ (List.mem_singleton.2 rfl))⟩
theorem Bp_same (t : Tab) (p : Nat) (pre : List (Nat × Nat)) (x : Nat × Nat) (hz : Dag.ways t p ≠ 0) (k : SK) : Bp t p pre k ↔ Bp t p (pre ++ [x]) k :=
  ⟨fun h => ⟨h.1, fun h0 => absurd h0 hz⟩, fun h => ⟨h.1, fun h0 => absurd h0 hz⟩⟩
/-- Whether a sheet that ends at p is among them. -/
theorem Bp_mem {t : Tab} {p : Nat} (hpL : p ≤ t.L) (pre : List (Nat × Nat)) {x : Nat × Nat} (hx : x ∈ shL t p) (hz : Dag.ways t p ≠ 0) : Bp t p pre (skI x) ↔ up t x.1 + t.P x.2 = up t p := by
  obtain ⟨m1, m2, m3⟩ := shL_end hx
  constructor
  · rintro ⟨⟨⟨a, i, e, h1, h2, h3, h4⟩, _⟩, _⟩
    have e1 := congrArg Prod.fst e
    have e2 := congrArg Prod.snd e
    unfold skI at e1 e2
    simp only at e1 e2
    obtain rfl : x.1 = a := by omega
    obtain rfl : x.2 = i := by omega
    rw [h4, m3]
  · intro he
    refine ⟨⟨⟨x.1, x.2, rfl, m1, m2, by omega, by rw [he, m3]⟩, fun a i e hl => ?_⟩, fun h0 => absurd h0 hz⟩
    have e1 := congrArg Prod.fst e
    have e2 := congrArg Prod.snd e
    unfold skI at e1 e2
    simp only at e1 e2
    obtain rfl : x.1 = a := by omega
    obtain rfl : x.2 = i := by omega
    omega
theorem Bp_all {t : Tab} (h : t.Ok) {p : Nat} (hp : 1 ≤ p) (k : SK) : Bp t p (shL t p) k ↔ Bx t (p - 1) k := by
  constructor
  · rintro ⟨⟨h1, h2⟩, h3⟩
    refine ⟨h1, fun a i e hl => ?_⟩
    by_cases c : p < a + t.W i
    · exact h2 a i e c
    · have hpe : a + t.W i = p := by omega
      have hon : ¬ Dag.ways t p = 0 := fun hz => by
        obtain ⟨a', i', e', k1, k2, k3, k4⟩ := h1
        rw [e] at e'
        have e1 := congrArg Prod.fst e'
        have e2 := congrArg Prod.snd e'
        simp only at e1 e2
        obtain rfl : a = a' := by omega
        obtain rfl : i = i' := by omega
        refine h3 hz (a, i) (shL_mem.2 ⟨k1, ?_, by simp only; omega⟩) e
        unfold canTo
        simp only [Bool.and_eq_true, decide_eq_true_eq]
        exact ⟨by omega, by rw [show p - t.W i = a by omega]; exact k2⟩
      rw [ways_zero h] at hon
      rw [hpe]
      exact Classical.not_not.1 hon
  · rintro ⟨h1, h2⟩
    refine ⟨⟨h1, fun a i e hl => h2 a i e (by omega)⟩, fun hz x hx e => ?_⟩
    obtain ⟨m1, m2, m3⟩ := shL_end hx
    have := h2 x.1 x.2 e (by omega)
    rw [m3] at this
    exact (ways_zero h p).1 hz this
theorem Bx_best {t : Tab} (h : t.Ok) (a i : Nat) : Bx t 0 ((a : Int), (i : Int)) ↔ Best t a i := by
  constructor
  · rintro ⟨⟨a', i', e, h1, h2, h3, h4⟩, h5⟩
    have e1 := congrArg Prod.fst e
    have e2 := congrArg Prod.snd e
    simp only at e1 e2
    obtain rfl : a = a' := by omega
    obtain rfl : i = i' := by omega
    have := h.w i h1
    exact ⟨h1, h2, h4, h5 a i rfl (by omega)⟩
  · rintro ⟨h1, h2, h3, h4⟩
    have := h.fit a i h1 h2
    refine ⟨⟨a, i, rfl, h1, h2, by omega, h3⟩, fun a' i' e _ => ?_⟩
    have e1 := congrArg Prod.fst e
    have e2 := congrArg Prod.snd e
    simp only at e1 e2
    obtain rfl : a = a' := by omega
    obtain rfl : i = i' := by omega
    exact h4
theorem Bx_nat {t : Tab} {k : SK} (h : Bx t 0 k) : ∃ a i : Nat, k = ((a : Int), (i : Int)) := by
  obtain ⟨⟨a, i, e, _⟩, _⟩ := h
  exact ⟨a, i, e⟩
theorem Wx_zero {t : Tab} {q : Nat} (hq : q ≤ t.L) : Wx t 0 q = Dag.ways t q := by
  unfold Wx Yv
  rw [if_pos hq, if_pos (Nat.zero_le q)]
end Go.Proofs.Ytnkeikhkafbokaa
