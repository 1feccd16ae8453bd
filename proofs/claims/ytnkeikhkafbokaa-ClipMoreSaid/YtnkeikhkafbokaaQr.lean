import Derived.Test.YtnkeikhkafbokaaQq
import Derived.Sort.CutIn
namespace Go.Proofs.Ytnkeikhkafbokaa
open Go.RowKit Go.Dag Go.Sort Go.Shelf
attribute [local go_sem] Oper.semAt_some

/-! ## The program: in how many ways best cuts go on -/
/-- The table while goBack is at place p; b1 and bp its variables. -/
def BkS (w : World) (T M b1 bp : Nat) (r : RibD) (ks : List KindD) (p : Nat) (Y : Nat → Int) (S : SK → Prop) (wr : World) : Prop :=
  TbAt wr w.heap.size T M r ks (Ux (tabOf r ks) (r.len.toNat + 1)) Y ∧ MapIs wr M S ∧ FrLM w T M wr ∧ Blk wr b1 (.cells #[.pointer (some ⟨T, 0, none⟩)] 76) ∧ Blk wr bp (.cells #[.int .i64 p] 3) ∧ w.heap.size ≤ b1 ∧ w.heap.size ≤ bp
section
variable {w : World} {T M b1 bp : Nat} {r : RibD} {ks : List KindD} {p : Nat} {Y : Nat → Int} {S S' : SK → Prop} {wr w' : World}
theorem BkS.below (h : BkS w T M b1 bp r ks p Y S wr) (hb : Below wr.heap.size wr w') : BkS w T M b1 bp r ks p Y S w' := by
  obtain ⟨h1, h2, h3, h4, h5, h6, h7⟩ := h
  exact ⟨h1.below h3.size hb, h2.below hb, h3.below hb, h4.below hb, h5.below hb, h6, h7⟩
theorem BkS.keeps {B : Nat} (h : BkS w T M b1 bp r ks p Y S wr) (hB : w.heap.size ≤ B) (hb : KeepsB B wr w') : BkS w T M b1 bp r ks p Y S w' := by
  obtain ⟨h1, h2, h3, h4, h5, h6, h7⟩ := h
  have := h1.lt
  exact ⟨h1.keeps hB h3.size hb, h2.keeps (by omega) hb, h3.keeps hB hb, h4.keepsC hb, h5.keepsC hb, h6, h7⟩
theorem BkS.putM (h : BkS w T M b1 bp r ks p Y S wr) {o : Obj} (hm : MapIs (wr.putObj M o) M S') : BkS w T M b1 bp r ks p Y S' (wr.putObj M o) := by
  obtain ⟨h1, h2, h3, h4, h5, h6, h7⟩ := h
  have := h1.lt
  exact ⟨h1.putM o, hm, h3.putM o, h4.put (by omega) o, h5.put (by omega) o, h6, h7⟩
theorem BkS.same (h : BkS w T M b1 bp r ks p Y S wr) (e : ∀ k, S k ↔ S' k) : BkS w T M b1 bp r ks p Y S' wr := by
  obtain ⟨h1, h2, h3⟩ := h
  exact ⟨h1, h2.same e, h3⟩
theorem BkS.setWy (h : BkS w T M b1 bp r ks p Y S wr) {q : Nat} (hq : q < 25) (v : Int) : BkS w T M b1 bp r ks p (updF Y q v) S (wr.setCell ⟨T, 29 + q, none⟩ (.int .i64 v)) := by
  obtain ⟨h1, h2, h3, h4, h5, h6, h7⟩ := h
  have := h1.lt
  exact ⟨h1.setWy hq v, h2.other (by omega) _, h3.setT _ _, h4.other (by omega) _, h5.other (by omega) _, h6, h7⟩
theorem KT.setT {n₀ : Nat} {W : World} {j : Nat} (hj : 4 ≤ j) (v : Value) : KT T M n₀ W (W.setCell ⟨T, j, none⟩ v) :=
  ⟨by simp [World.setCell], fun k _ h1 _ => Below.heap_setCell _ _ _ _ (by simp; omega), fun i hi => by rw [World.cell?_setCell_other]; intro e; cases e; omega⟩
end
theorem list90 {l : List Value} (h : l.length = 90) : ∃ u3 u4 u5 u6 u7 u8 u9 u10 u11 u12 u13 u14 u15 u16 u17 u18 u19 u20 u21 u22 u23 u24 u25 u26 u27 u28 u29 u30 u31 u32 u33 u34 u35 u36 u37 u38 u39 u40 u41 u42 u43 u44 u45 u46 u47 u48 u49 u50 u51 u52 u53 u54 u55 u56 u57 u58 u59 u60 u61 u62 u63 u64 u65 u66 u67 u68 u69 u70 u71 u72 u73 u74 u75 u76 u77 u78 u79 u80 u81 u82 u83 u84 u85 u86 u87 u88 u89 u90 u91 u92 : Value, l = [u3, u4, u5, u6, u7, u8, u9, u10, u11, u12, u13, u14, u15, u16, u17, u18, u19, u20, u21, u22, u23, u24, u25, u26, u27, u28, u29, u30, u31, u32, u33, u34, u35, u36, u37, u38, u39, u40, u41, u42, u43, u44, u45, u46, u47, u48, u49, u50, u51, u52, u53, u54, u55, u56, u57, u58, u59, u60, u61, u62, u63, u64, u65, u66, u67, u68, u69, u70, u71, u72, u73, u74, u75, u76, u77, u78, u79, u80, u81, u82, u83, u84, u85, u86, u87, u88, u89, u90, u91, u92] := by
  obtain ⟨u3, lu3, rfl, hu3⟩ := list_succ h
  obtain ⟨u4, lu4, rfl, hu4⟩ := list_succ hu3
  obtain ⟨u5, lu5, rfl, hu5⟩ := list_succ hu4
  obtain ⟨u6, lu6, rfl, hu6⟩ := list_succ hu5
  obtain ⟨u7, lu7, rfl, hu7⟩ := list_succ hu6
  obtain ⟨u8, lu8, rfl, hu8⟩ := list_succ hu7
  obtain ⟨u9, lu9, rfl, hu9⟩ := list_succ hu8
  obtain ⟨u10, lu10, rfl, hu10⟩ := list_succ hu9
  obtain ⟨u11, lu11, rfl, hu11⟩ := list_succ hu10
  obtain ⟨u12, lu12, rfl, hu12⟩ := list_succ hu11
  obtain ⟨u13, lu13, rfl, hu13⟩ := list_succ hu12
  obtain ⟨u14, lu14, rfl, hu14⟩ := list_succ hu13
  obtain ⟨u15, lu15, rfl, hu15⟩ := list_succ hu14
  obtain ⟨u16, lu16, rfl, hu16⟩ := list_succ hu15
  obtain ⟨u17, lu17, rfl, hu17⟩ := list_succ hu16
  obtain ⟨u18, lu18, rfl, hu18⟩ := list_succ hu17
  obtain ⟨u19, lu19, rfl, hu19⟩ := list_succ hu18
  obtain ⟨u20, lu20, rfl, hu20⟩ := list_succ hu19
  obtain ⟨u21, lu21, rfl, hu21⟩ := list_succ hu20
  obtain ⟨u22, lu22, rfl, hu22⟩ := list_succ hu21
  obtain ⟨u23, lu23, rfl, hu23⟩ := list_succ hu22
  obtain ⟨u24, lu24, rfl, hu24⟩ := list_succ hu23
  obtain ⟨u25, lu25, rfl, hu25⟩ := list_succ hu24
  obtain ⟨u26, lu26, rfl, hu26⟩ := list_succ hu25
  obtain ⟨u27, lu27, rfl, hu27⟩ := list_succ hu26
  obtain ⟨u28, lu28, rfl, hu28⟩ := list_succ hu27
  obtain ⟨u29, lu29, rfl, hu29⟩ := list_succ hu28
  obtain ⟨u30, lu30, rfl, hu30⟩ := list_succ hu29
  obtain ⟨u31, lu31, rfl, hu31⟩ := list_succ hu30
  obtain ⟨u32, lu32, rfl, hu32⟩ := list_succ hu31
  obtain ⟨u33, lu33, rfl, hu33⟩ := list_succ hu32
  obtain ⟨u34, lu34, rfl, hu34⟩ := list_succ hu33
  obtain ⟨u35, lu35, rfl, hu35⟩ := list_succ hu34
  obtain ⟨u36, lu36, rfl, hu36⟩ := list_succ hu35
  obtain ⟨u37, lu37, rfl, hu37⟩ := list_succ hu36
  obtain ⟨u38, lu38, rfl, hu38⟩ := list_succ hu37
  obtain ⟨u39, lu39, rfl, hu39⟩ := list_succ hu38
  obtain ⟨u40, lu40, rfl, hu40⟩ := list_succ hu39
  obtain ⟨u41, lu41, rfl, hu41⟩ := list_succ hu40
  obtain ⟨u42, lu42, rfl, hu42⟩ := list_succ hu41
  obtain ⟨u43, lu43, rfl, hu43⟩ := list_succ hu42
  obtain ⟨u44, lu44, rfl, hu44⟩ := list_succ hu43
  obtain ⟨u45, lu45, rfl, hu45⟩ := list_succ hu44
  obtain ⟨u46, lu46, rfl, hu46⟩ := list_succ hu45
  obtain ⟨u47, lu47, rfl, hu47⟩ := list_succ hu46
  obtain ⟨u48, lu48, rfl, hu48⟩ := list_succ hu47
  obtain ⟨u49, lu49, rfl, hu49⟩ := list_succ hu48
  obtain ⟨u50, lu50, rfl, hu50⟩ := list_succ hu49
  obtain ⟨u51, lu51, rfl, hu51⟩ := list_succ hu50
  obtain ⟨u52, lu52, rfl, hu52⟩ := list_succ hu51
  obtain ⟨u53, lu53, rfl, hu53⟩ := list_succ hu52
  obtain ⟨u54, lu54, rfl, hu54⟩ := list_succ hu53
  obtain ⟨u55, lu55, rfl, hu55⟩ := list_succ hu54
  obtain ⟨u56, lu56, rfl, hu56⟩ := list_succ hu55
  obtain ⟨u57, lu57, rfl, hu57⟩ := list_succ hu56
  obtain ⟨u58, lu58, rfl, hu58⟩ := list_succ hu57
  obtain ⟨u59, lu59, rfl, hu59⟩ := list_succ hu58
  obtain ⟨u60, lu60, rfl, hu60⟩ := list_succ hu59
  obtain ⟨u61, lu61, rfl, hu61⟩ := list_succ hu60
  obtain ⟨u62, lu62, rfl, hu62⟩ := list_succ hu61
  obtain ⟨u63, lu63, rfl, hu63⟩ := list_succ hu62
  obtain ⟨u64, lu64, rfl, hu64⟩ := list_succ hu63
  obtain ⟨u65, lu65, rfl, hu65⟩ := list_succ hu64
  obtain ⟨u66, lu66, rfl, hu66⟩ := list_succ hu65
  obtain ⟨u67, lu67, rfl, hu67⟩ := list_succ hu66
  obtain ⟨u68, lu68, rfl, hu68⟩ := list_succ hu67
  obtain ⟨u69, lu69, rfl, hu69⟩ := list_succ hu68
  obtain ⟨u70, lu70, rfl, hu70⟩ := list_succ hu69
  obtain ⟨u71, lu71, rfl, hu71⟩ := list_succ hu70
  obtain ⟨u72, lu72, rfl, hu72⟩ := list_succ hu71
  obtain ⟨u73, lu73, rfl, hu73⟩ := list_succ hu72
  obtain ⟨u74, lu74, rfl, hu74⟩ := list_succ hu73
  obtain ⟨u75, lu75, rfl, hu75⟩ := list_succ hu74
  obtain ⟨u76, lu76, rfl, hu76⟩ := list_succ hu75
  obtain ⟨u77, lu77, rfl, hu77⟩ := list_succ hu76
  obtain ⟨u78, lu78, rfl, hu78⟩ := list_succ hu77
  obtain ⟨u79, lu79, rfl, hu79⟩ := list_succ hu78
  obtain ⟨u80, lu80, rfl, hu80⟩ := list_succ hu79
  obtain ⟨u81, lu81, rfl, hu81⟩ := list_succ hu80
  obtain ⟨u82, lu82, rfl, hu82⟩ := list_succ hu81
  obtain ⟨u83, lu83, rfl, hu83⟩ := list_succ hu82
  obtain ⟨u84, lu84, rfl, hu84⟩ := list_succ hu83
  obtain ⟨u85, lu85, rfl, hu85⟩ := list_succ hu84
  obtain ⟨u86, lu86, rfl, hu86⟩ := list_succ hu85
  obtain ⟨u87, lu87, rfl, hu87⟩ := list_succ hu86
  obtain ⟨u88, lu88, rfl, hu88⟩ := list_succ hu87
  obtain ⟨u89, lu89, rfl, hu89⟩ := list_succ hu88
  obtain ⟨u90, lu90, rfl, hu90⟩ := list_succ hu89
  obtain ⟨u91, lu91, rfl, hu91⟩ := list_succ hu90
  obtain ⟨u92, lu92, rfl, hu92⟩ := list_succ hu91
  obtain rfl := List.length_eq_zero_iff.1 hu92
  exact ⟨u3, u4, u5, u6, u7, u8, u9, u10, u11, u12, u13, u14, u15, u16, u17, u18, u19, u20, u21, u22, u23, u24, u25, u26, u27, u28, u29, u30, u31, u32, u33, u34, u35, u36, u37, u38, u39, u40, u41, u42, u43, u44, u45, u46, u47, u48, u49, u50, u51, u52, u53, u54, u55, u56, u57, u58, u59, u60, u61, u62, u63, u64, u65, u66, u67, u68, u69, u70, u71, u72, u73, u74, u75, u76, u77, u78, u79, u80, u81, u82, u83, u84, u85, u86, u87, u88, u89, u90, u91, u92, rfl⟩
set_option maxRecDepth 100000 in
set_option maxHeartbeats 8000000 in
theorem goBack_any (T M : Nat) (r : RibD) (ks : List KindD) (w : World) (hTb : TbAt w w.heap.size T M r ks (Ux (tabOf r ks) (r.len.toNat + 1)) (fun _ => 0)) (hM : MapIs w M (Sx (tabOf r ks) (r.len.toNat + 1))) (hr : RibOk r) (hks : KindsOk ks) :
    Calls Try.prog 81 #[.pointer (some ⟨T, 0, none⟩)] w fun e w' => (∃ v, e = .returned v) ∧ TbAt w' w.heap.size T M r ks (Ux (tabOf r ks) (r.len.toNat + 1)) (Wx (tabOf r ks) 0) ∧ MapIs w' M (Bx (tabOf r ks) 0) ∧ FrLM w T M w' := by
  obtain ⟨L, hL⟩ : ∃ L : Nat, r.len = (L : Int) := ⟨r.len.toNat, by have := hr.l1; omega⟩
  have hL1 : 1 ≤ L := by have := hr.l1; omega
  have hL24 : L ≤ 24 := by have := hr.l2; omega
  have hL25 : (L : Int) < 25 := by omega
  have HLT := Lib.hid (show r.len.toNat = L by omega)
  have HTL := Lib.hid (show (tabOf r ks).L = L by show r.len.toNat = L; omega)
  have HLL := Lib.hid hL
  have HRK := Lib.hid (And.intro hr hks)
  have HOK := Lib.hid (tabOf_ok (r := r) (ks := ks) (by omega) hks)
  have HK6 := Lib.hid (show (tabOf r ks).K ≤ 6 from hks.1.2)
  have HBS := Lib.hid (hM.same fun k => Bx_start k)
  have HT0 := Lib.hid hTb
  have hlt := hTb.lt
  have hM0 := hM.lt
  clear hTb hM hr hks hL
  refine (callsIn_wide (n := 12)).1 ?_
  refine callsIn_of_wp_marks Try.func81 rfl trivial ?_ rfl
  simp only [Try.ntmps81, List.size_toArray, List.length_cons, List.length_nil, Nat.reduceAdd, Nat.reduceSub, Array.replicate_succ, Array.replicate_zero, List.push_toArray, List.append_toArray, List.nil_append, List.cons_append]
  gi_wp2_with fail
  have HTa := Lib.hid (HT0.out.below (Nat.le_refl _) (below1 w (.cells #[.pointer (some ⟨T, 0, none⟩)] 76)))
  have HMa := Lib.hid (HBS.out.below (below1 w (.cells #[.pointer (some ⟨T, 0, none⟩)] 76)))
  have HFa := Lib.hid ((FrLM.refl w T M).below (below1 w (.cells #[.pointer (some ⟨T, 0, none⟩)] 76)))
  have b1 := Blk.new w (.cells #[.pointer (some ⟨T, 0, none⟩)] 76)
  generalize w.alloc (.cells #[.pointer (some ⟨T, 0, none⟩)] 76) = Wa at *
  clear HT0 HBS
  have x1 := b1.cell 0
  have xl := HTa.out.len
  simp at x1
  rw [HLL.out] at xl
  have g0 := fun d os => cell_regrown x1 d os
  have g1 := fun d os => cell_regrown xl d os
  refine wpIn_wide.2 (wp_region_tail 9 (by kernel_rfl) (by kernel_rfl) ?_)
  repeat (quiet_step (fail))
  refine wpQuiet_nil ?_
  intro _ hw'
  obtain ⟨⟨dq, osq⟩, hw''⟩ := hw'
  subst hw''
  simp only [List.drop_succ_cons, List.drop_zero]
  have hbq := below_regrown Wa dq osq
  have HTb := Lib.hid (HTa.out.below HFa.out.size hbq)
  have HMb := Lib.hid (HMa.out.below hbq)
  have HFb := Lib.hid (HFa.out.below hbq)
  replace b1 := b1.below hbq
  clear g0 g1 x1 xl hbq
  generalize grow (redrawn Wa dq) osq = Wb at *
  have xw := HTb.out.wy (p := L) (by omega)
  have xf := HTb.out.frozen (29 + L)
  have xT := HTb.out.lt.1
  clear HTa HMa HFa
  go_wp2_with fail
  have HTc := Lib.hid (HTb.out.setWy (p := L) (by omega) 1)
  have HMc := Lib.hid (HMb.out.other (b := T) (j := 29 + L) (by omega) (.int .i64 1))
  have HFc := Lib.hid (HFb.out.setT (29 + L) (.int .i64 1))
  replace b1 := b1.other (b := T) (j := 29 + L) (by omega) (.int .i64 1)
  generalize Wb.setCell ⟨T, 29 + L, none⟩ (.int .i64 1) = Wc at *
  clear HTb HMb HFb xw xf xT
  have x1 := b1.cell 0
  have xl := HTc.out.len
  simp at x1
  rw [HLL.out] at xl
  gi_wp2_with fail
  clear x1 xl
  have HS0 : Hid (BkS w T M w.heap.size Wc.heap.size r ks L (Wx (tabOf r ks) L) (Bx (tabOf r ks) L) (Wc.alloc (.cells #[.int .i64 L] 3))) := Lib.hid (by
    have hb := below1 Wc (.cells #[.int .i64 L] 3)
    have e : Wx (tabOf r ks) L = updF (fun _ => 0) L 1 := by
      have := Wx_end (tabOf r ks) HOK.out
      rw [HTL.out] at this
      rw [this]
      rfl
    rw [e]
    refine ⟨HTc.out.below HFc.out.size hb, ?_, HFc.out.below hb, b1.below hb, Blk.new _ _, Nat.le_refl _, HFc.out.size⟩
    have := HMc.out.below hb
    rw [HTL.out] at this
    exact this)
  have hzc := HFc.out.size
  clear HTc HMc HFc b1
  generalize Wc.alloc (.cells #[.int .i64 L] 3) = W1 at *
  obtain ⟨bq, hbq⟩ : ∃ bq, Wc.heap.size = bq := ⟨_, rfl⟩
  rw [hbq] at HS0 hzc ⊢
  clear hbq Wc

  refine wpIn_loop_inv (Inv := fun m a wr => ∃ (bp p : Nat) (tl : List Value) (ds : List Deferred), p ≤ L ∧ m = p ∧ tl.length = 90 ∧ a = { tmps := (.pointer (some ⟨T, 0, none⟩) :: .pointer (some ⟨w.heap.size, 0, none⟩) :: .pointer (some ⟨bp, 0, none⟩) :: tl).toArray, defers := ds } ∧ Marks w.heap.size ds wr ∧ BkS w T M w.heap.size bp r ks p (Wx (tabOf r ks) p) (Bx (tabOf r ks) p) wr) ?step (m := L) ?init
  case init => exact ⟨bq, L, _, [], Nat.le_refl _, rfl, by rfl, rfl, Marks.nil _ _, HS0.out⟩
  case step =>
    clear HS0 hzc
    rintro m a wr ⟨bp, p, tl, ds, hp2, hm, htl, rfl, hmk, hst⟩
    obtain ⟨u3, u4, u5, u6, u7, u8, u9, u10, u11, u12, u13, u14, u15, u16, u17, u18, u19, u20, u21, u22, u23, u24, u25, u26, u27, u28, u29, u30, u31, u32, u33, u34, u35, u36, u37, u38, u39, u40, u41, u42, u43, u44, u45, u46, u47, u48, u49, u50, u51, u52, u53, u54, u55, u56, u57, u58, u59, u60, u61, u62, u63, u64, u65, u66, u67, u68, u69, u70, u71, u72, u73, u74, u75, u76, u77, u78, u79, u80, u81, u82, u83, u84, u85, u86, u87, u88, u89, u90, u91, u92, rfl⟩ := list90 htl
    have HMK := Lib.hid hmk
    have HMM := Lib.hid hm
    clear htl hmk hm
    have HST := Lib.hid hst
    have x1 := hst.2.2.2.1.cell 0
    have xp := hst.2.2.2.2.1.cell 0
    simp at x1 xp
    clear hst
    by_cases hlt : 0 < p
    · have d1 : decide ((p : Int) > 0) = true := by simp; omega
      have d2 : decide ((0 : Int) < (p : Int)) = true := by simp; omega
      have d3 : decide (0 < p) = true := by simp; omega
      obtain ⟨u1, hu1⟩ : ∃ u1, up (tabOf r ks) (p - 1) = u1 := ⟨_, rfl⟩
      obtain ⟨u2, hu2⟩ : ∃ u2, up (tabOf r ks) p = u2 := ⟨_, rfl⟩
      have e1 : wr.cell? ⟨T, 4 + (p - 1), none⟩ = some (.int .i64 u1) := by rw [← hu1, HST.out.1.up (p - 1) (by omega)]; unfold Ux; rw [if_pos (by rw [HLT.out]; omega)]
      have e2 : wr.cell? ⟨T, 4 + p, none⟩ = some (.int .i64 u2) := by rw [← hu2, HST.out.1.up p (by omega)]; unfold Ux; rw [if_pos (by rw [HLT.out]; omega)]
      have ww : IntKind.i64.wrap ((p : Int) - 1) = (p : Int) - 1 := IntWalk.i64_in _ (by omega)
      have ip0 : (0 : Int) ≤ (p : Int) - 1 := by omega
      have ip0' : (1 : Int) ≤ (p : Int) := by omega
      have ip1 : ((p : Int) - 1).toNat = p - 1 := by omega
      have ip2 : (p : Int) - 1 < 25 := by omega
      have hp25 : (p : Int) < 25 := by omega
      have g0 := fun d os => cell_regrown x1 d os
      have g1 := fun d os => cell_regrown xp d os
      have g2 := fun d os => cell_regrown e1 d os
      have g3 := fun d os => cell_regrown e2 d os
      gi_wp2_with fail
      refine wpIn_wide.2 (wp_region_quiet_below (by kernel_rfl) (by kernel_rfl) ?_)
      repeat (quiet_step (fail))
      refine wpQuiet_nil ?_
      intro _ hw'
      obtain ⟨⟨dq, osq⟩, hw''⟩ := hw'
      subst hw''
      have hbq := below_regrown wr dq osq
      have HS3 := Lib.hid (HST.out.below hbq)
      have HMK3 := Lib.hid (HMK.out.below hbq)
      clear g0 g1 g2 g3 x1 xp e1 e2 hbq
      generalize grow (redrawn wr dq) osq = w3 at *
      clear d1 d2 d3 HST HMK
      gi_upto_if 35 with (fail)
      gi_cut [35] from 93 (fun _ wc => Marks w.heap.size ds wc ∧ BkS w T M w.heap.size bp r ks p (Zx (tabOf r ks) p []) (Bx (tabOf r ks) p) wc)
      case first =>
        by_cases hq : u1 = u2
        · have d1 : (u1 == u2) = true := by simpa using hq
          have hyb := Wx_bd HOK.out HK6.out (by rw [HTL.out]; omega) (show 1 ≤ p by omega) (p - 1)
          have hwb := ways_bd HOK.out HK6.out (by rw [HTL.out]; omega) (show 1 ≤ p by omega)
          obtain ⟨vv, hvv⟩ : ∃ vv, Dag.ways (tabOf r ks) p = vv := ⟨_, rfl⟩
          obtain ⟨y1, hy1⟩ : ∃ y1, Wx (tabOf r ks) p (p - 1) = y1 := ⟨_, rfl⟩
          rw [hvv] at hwb
          rw [hy1] at hyb
          have hb23 : b23 = 789730223053602816 := rfl
          have ww2 : IntKind.i64.wrap (y1 + vv) = y1 + vv := IntWalk.i64_in _ (by omega)
          have x1 := HS3.out.2.2.2.1.cell 0
          have xp := HS3.out.2.2.2.2.1.cell 0
          have e1 := HS3.out.1.wy (p := p - 1) (by omega)
          have e2 := HS3.out.1.wy (p := p) (by omega)
          rw [hy1] at e1
          rw [Wx_at (by rw [HTL.out]; omega), hvv] at e2
          simp at x1 xp
          have g0 := fun d os => cell_regrown x1 d os
          have g1 := fun d os => cell_regrown xp d os
          have g2 := fun d os => cell_regrown e1 d os
          have g3 := fun d os => cell_regrown e2 d os
          have HEQ := Lib.hid (And.intro hvv (And.intro hy1 (hu1.trans (hq.trans hu2.symm))))
          clear hvv hy1 hu1 hu2 hwb hyb hb23 hq
          gi_wp2_with fail
          refine wpIn_wide.2 (wp_region_tail 17 (by kernel_rfl) (by kernel_rfl) ?_)
          repeat (quiet_step (fail))
          refine wpQuiet_nil ?_
          intro _ hw'
          obtain ⟨⟨dq, osq⟩, hw''⟩ := hw'
          subst hw''
          simp only [List.drop_succ_cons, List.drop_zero]
          have hbq := below_regrown w3 dq osq
          have HS4 := Lib.hid (HS3.out.below hbq)
          have HMK4 := Lib.hid (HMK3.out.below hbq)
          clear g0 g1 g2 g3 x1 xp e1 e2 HS3 HMK3 hbq
          generalize grow (redrawn w3 dq) osq = w4 at *
          have xw := HS4.out.1.wy (p := p - 1) (by omega)
          have xf := HS4.out.1.frozen (29 + (p - 1))
          have xT := HS4.out.1.lt.1
          go_wp2_with fail
          gi_meet
          case rel =>
            refine ⟨HMK4.out.from ((KeepsOthers.setCell _ _ _).from _), ?_⟩
            have := HS4.out.setWy (q := p - 1) (by omega) (y1 + vv)
            rw [← HEQ.out.1, ← HEQ.out.2.1, Zx_yes (by rw [HTL.out]; omega) HEQ.out.2.2, HEQ.out.1, HEQ.out.2.1] at this
            exact this
        · have d1 : (u1 == u2) = false := by simpa using hq
          gi_wp2_with fail
          gi_meet
          case rel =>
            refine ⟨HMK3.out, ?_⟩
            rw [Zx_no (by rw [hu1, hu2]; exact hq)]
            exact HS3.out
      case rest =>
        obtain ⟨hmk, hst⟩ := hcut
        have HSc := Lib.hid hst
        have HMKc := Lib.hid hmk
        clear hmk hst HS3 HMK3 hu1 hu2
        have x1 : wc.cell? ⟨w.heap.size, 0, none⟩ = some (.pointer (some ⟨T, 0, none⟩)) := by have := HSc.out.2.2.2.1.cell 0; simpa using this
        have xp : wc.cell? ⟨bp, 0, none⟩ = some (.int .i64 (p : Int)) := by have := HSc.out.2.2.2.2.1.cell 0; simpa using this
        gi_wp2_with fail
        refine ⟨trivial, (callsIn_wide.2 (sheets_any T p _)).mono ?_⟩
        rintro e w7 ⟨rfl, rfl⟩
        have hb7 := below2 wc (.cells #[.pointer (some ⟨T, 0, none⟩)] 76) (.cells #[.int .i64 (p : Int)] 3)
        have hlM := HSc.out.1.lt
        have hfz := HSc.out.2.2.1.size
        have hTw := HSc.out.1.lt.1
        have HSH := Lib.hid (ShAt.new (w := wc) (p := p) HSc.out.1.tab HRK.out.2 HRK.out.1 (by omega))
        have HS7 := Lib.hid (HSc.out.below hb7)
        have HMK7 := Lib.hid (HMKc.out.below hb7)
        have hz7 : wc.heap.size + 2 = ((wc.alloc (.cells #[.pointer (some ⟨T, 0, none⟩)] 76)).alloc (.cells #[.int .i64 (p : Int)] 3)).heap.size := by simp
        generalize (wc.alloc (.cells #[.pointer (some ⟨T, 0, none⟩)] 76)).alloc (.cells #[.int .i64 (p : Int)] 3) = w7 at *
        clear HSc HMKc hb7 x1 xp
        gi_wp2_with fail
        generalize hA : Act.mk _ _ = a0
        have eg : ∀ args w, (callFunc 79 args).run Try.prog w = .ok (.enter 79 args) w := fun _ _ => rfl
        have hmlt : ∀ E, ({ target := .collected E, args := #[] } : Deferred) ∈ ds → E < w7.heap.size := fun E hE => HMK7.out.lt hE
        have hseq := sheets_stops (12 - 1) (by omega) T M (wc.heap.size + 2) wc.heap.size (wc.heap.size + 1) p r ks w7 HSH.out HRK.out.1 HRK.out.2 (by omega)
        have hTn : T < wc.heap.size + 2 := by omega
        have hnil : Zx (tabOf r ks) p (([] : List (SH (tabOf r ks) p)).map Subtype.val) = Zx (tabOf r ks) p [] := rfl
        refine wpIn_rangeFunc_ownH (F := Fence.wide) rfl (by omega) (gf := 79) (lb := #[.pointer (some ⟨wc.heap.size, 0, none⟩), .pointer (some ⟨wc.heap.size + 1, 0, none⟩)]) (by rw [← hA]; rfl) trivial eg
          hseq (fun h k => KT.trans h k) (fun W l o o' hl _ _ _ => KT.put (by omega) hTn) (Below.refl _ _) (fun _ => rfl)
          (fun (pre : List (SH (tabOf r ks) p)) W => BkS w T M w.heap.size bp r ks p (Zx (tabOf r ks) p (pre.map Subtype.val)) (Bp (tabOf r ks) p (pre.map Subtype.val)) W ∧ Marks w.heap.size ds W ∧ w7.heap.size ≤ W.heap.size)
          (fun _ _ _ => False)
          (ownFrom_of fun pre W W' ⟨h1, h2, h3⟩ hk => ⟨h1.keeps (by omega) hk, h2.keeps hmlt hk, Nat.le_trans h3 hk.size⟩)
          (fun _ _ _ _ _ hs _ _ => hs)
          ⟨HS7.out.same (Bp_nil _ _), HMK7.out, Nat.le_refl _⟩
          (fun x a' W => ∃ Xb, w7.heap.size ≤ Xb ∧ Blk W Xb (.cells #[.int .i64 (x.1.1 : Nat), .int .i64 (x.1.2 : Nat)] 56) ∧ a' = { tmps := (a0.tmps.setIfInBounds 56 (shV (x.1.1 : Nat) (x.1.2 : Nat))).setIfInBounds 3 (.pointer (some ⟨Xb, 0, none⟩)), defers := [] })
          (fun x a' => ownFrom_of fun _ W W' h hk => by obtain ⟨Xb, h1, h2, h3⟩ := h; exact ⟨Xb, h1, h2.keepsC hk, h3⟩)
          ?assign ?body ?done ?stop
        case assign =>
          rintro l pre x W K ⟨h1, h2, h3⟩ hK
          subst hA
          unfold shE shV
          gi_wp2
          exact hK _ _ ((KeepsOthers.alloc _ _).from _) (KT.of_below (below1 _ _) (by omega) (by omega)) ⟨h1.below (below1 _ _), h2.below (below1 _ _), by simp; omega⟩ ⟨W.heap.size, by omega, Blk.new W _, rfl⟩
        case body =>
          rintro l pre x a' W hl ⟨rr, hrr⟩ ⟨h1, h2, h3⟩ ⟨Xb, hXb, bX, rfl⟩ hlt
          subst hA
          simp only [List.setIfInBounds_toArray, List.set_cons_succ, List.set_cons_zero]
          obtain ⟨hxk, hxc, hxe⟩ := shL_end x.2
          have hx2 : x.1.2 < ks.length := hxk
          have hx1 : x.1.1 < p := by have := HOK.out.w x.1.2 hxk; omega
          have hbl := bX.lt
          have hsz3 : w.heap.size ≤ W.heap.size := h1.2.2.1.size
          have hpl : (pre.map Subtype.val).length ≤ 6 := by
            have h4 := shL_len (tabOf r ks) p
            have h5 := HK6.out
            rw [List.length_map]
            omega
          obtain ⟨vv, hvv⟩ : ∃ vv, Dag.ways (tabOf r ks) p = vv := ⟨_, rfl⟩
          have ev := h1.1.wy (p := p) (by omega)
          rw [Zx_at (by omega) (by rw [HTL.out]; omega), hvv] at ev
          have e1 := h1.2.2.2.1.cell 0
          have ep := h1.2.2.2.2.1.cell 0
          have em := h1.1.mp
          have eX := bX.cell 0
          have eX' := bX.cell 1
          simp at e1 ep eX eX'
          have g0 := fun d os => cell_regrown e1 d os
          have g1 := fun d os => cell_regrown ep d os
          have g2 := fun d os => cell_regrown ev d os
          have HI1 := Lib.hid h1
          have HI2 := Lib.hid h2
          have HT0 : T < W.heap.size := h1.1.lt.1
          have HXS : Hid (∀ (S : Nat → Int) , S = Zx (tabOf r ks) p ((pre ++ [x]).map Subtype.val) ↔ S = Zx (tabOf r ks) p (pre.map Subtype.val ++ [x.1])) := Lib.hid fun S => by rw [List.map_append, List.map_singleton]
          have HMP : Hid ((pre ++ [x]).map Subtype.val = pre.map Subtype.val ++ [x.1]) := Lib.hid (by rw [List.map_append, List.map_singleton])
          have HXM := Lib.hid (And.intro hxe hpl)
          clear e1 ep ev h1 h2 hxk hxc hxe hpl HXS hrr
          by_cases hz : vv = 0
          · have d1 : (vv == 0) = true := by simpa using hz
            have HVV := Lib.hid (hvv.trans hz)
            clear hz hvv
            gi_wp2_with fail
            refine wpIn_region_quietR (by kernel_rfl) (by kernel_rfl) ?_
            repeat (quiet_step (fail))
            refine wpQuiet_nil ?_
            intro _ hw'
            obtain ⟨⟨dq, osq⟩, hw''⟩ := hw'
            subst hw''
            have hbq := below_regrown W dq osq
            have HS8 := Lib.hid (HI1.out.below hbq)
            have HM8 := Lib.hid (HI2.out.below hbq)
            have b8 := bX.below hbq
            have hz8 := hbq.size
            have HKO := Lib.hid (KeepsOthers.of_below hbq)
            have HKT := Lib.hid (show KT T M (wc.heap.size + 2) W (grow (redrawn W dq) osq) from KT.of_below hbq (by omega) HT0)
            replace em := cellB em hbq
            replace eX := cellB eX hbq
            replace eX' := cellB eX' hbq
            clear g0 g1 g2 HI1 HI2 bX hbq
            generalize grow (redrawn W dq) osq = w8 at *
            have e1 := HS8.out.2.2.2.1.cell 0
            simp at e1
            have g0 := fun d os => cell_regrown e1 d os
            have g1 := fun d os => cell_regrown em d os
            have g3 := fun d os => cell_regrown eX d os
            have g4 := fun d os => cell_regrown eX' d os
            clear e1
            gi_wp2_with fail
            refine wpIn_region_tail 5 (by kernel_rfl) (by kernel_rfl) ?_
            repeat (quiet_step (fail))
            refine wpQuiet_nil ?_
            intro _ hw'
            obtain ⟨⟨dq, osq⟩, hw''⟩ := hw'
            subst hw''
            simp only [List.drop_succ_cons, List.drop_zero]
            have hbq := below_regrown w8 dq osq
            have HS9 := Lib.hid (HS8.out.below hbq)
            have HM9 := Lib.hid (HM8.out.below hbq)
            have b9 := b8.below hbq
            have hz9 := hbq.size
            have HKO9 := Lib.hid (HKO.out.trans (KeepsOthers.of_below hbq))
            have HKT9 := Lib.hid (HKT.out.trans (KT.of_below hbq (by omega) HS8.out.1.lt.1))
            clear g0 g1 g3 g4 em eX eX' HS8 HM8 b8 HKO HKT hbq
            generalize grow (redrawn w8 dq) osq = w9 at *
            obtain ⟨o, hrun, hmap⟩ := HS9.out.2.1.delete (skI x.1)
            have hgr := grownBy_putObj' w9 M o
            have HS10 := Lib.hid ((HS9.out.putM hmap).same (Bp_add _ _ _ _ HVV.out))
            have hMl := HS9.out.2.1.lt
            have HM10 := Lib.hid (HM9.out.from (KeepsFrom.of_grownBy hgr (fun j e => by cases e; omega)))
            have HKF := Lib.hid ((HKO9.out.from w7.heap.size).trans (KeepsFrom.of_grownBy hgr (fun j e => by cases e; omega)))
            have HKT10 := Lib.hid (HKT9.out.trans (KT.putM hlM.2.2.2 o))
            have b10 := b9.put (show Xb ≠ M by omega) o
            have hz10 : (w9.putObj M o).heap.size = w9.heap.size := by simp
            unfold skI pkV at hrun
            simp only at hrun
            clear hmap hgr HS9 HM9 HKO9 HKT9 b9
            gi_wp2_with fail
            clear hrun
            generalize w9.putObj M o = wd at *
            have e1 := HS10.out.2.2.2.1.cell 0
            have em := HS10.out.1.mp
            have eX := b10.cell 0
            have eX' := b10.cell 1
            simp at e1 eX eX'
            have g0 := fun d os => cell_regrown e1 d os
            have g1 := fun d os => cell_regrown em d os
            have g3 := fun d os => cell_regrown eX d os
            have g4 := fun d os => cell_regrown eX' d os
            have hno : ∀ (d : Nat) (os : Array Obj), _ := fun d os => (HS10.out.2.1.below (below_regrown wd d os)).look_no (skI x.1) (fun hh => hh.2 HVV.out x.1 (List.mem_append_right _ (List.mem_singleton.2 rfl)) rfl)
            unfold skI pkV at hno
            simp only at hno
            clear e1 em eX eX'
            refine wpIn_region_quietR (by kernel_rfl) (by kernel_rfl) ?_
            repeat (quiet_step (fail))
            refine wpQuiet_nil ?_
            intro _ hw'
            obtain ⟨⟨dq, osq⟩, hw''⟩ := hw'
            subst hw''
            have hbq := below_regrown wd dq osq
            have HS11 := Lib.hid (HS10.out.below hbq)
            have HM11 := Lib.hid (HM10.out.below hbq)
            have hz11 := hbq.size
            have HKF11 := Lib.hid (HKF.out.trans ((KeepsOthers.of_below hbq).from _))
            have HKT11 := Lib.hid (HKT10.out.trans (KT.of_below hbq (by omega) HS10.out.1.lt.1))
            clear g0 g1 g3 g4 hno HS10 HM10 HKF HKT10 b10 hbq
            generalize grow (redrawn wd dq) osq = we at *
            gi_wp2
            refine ⟨HKF11.out, HKT11.out, ?_, HM11.out, by omega⟩
            rw [HMP.out, ← Zx_same (fun _ => HVV.out)]
            exact HS11.out
          · have d1 : (vv == 0) = false := by simpa using hz
            have HVV := Lib.hid hvv
            have HZ := Lib.hid (show Dag.ways (tabOf r ks) p ≠ 0 by rw [hvv]; exact hz)
            clear hz hvv
            gi_wp2_with fail
            refine wpIn_region_quietR (by kernel_rfl) (by kernel_rfl) ?_
            repeat (quiet_step (fail))
            refine wpQuiet_nil ?_
            intro _ hw'
            obtain ⟨⟨dq, osq⟩, hw''⟩ := hw'
            subst hw''
            have hbq := below_regrown W dq osq
            have HS8 := Lib.hid (HI1.out.below hbq)
            have HM8 := Lib.hid (HI2.out.below hbq)
            have b8 := bX.below hbq
            have hz8 := hbq.size
            have HKO := Lib.hid (KeepsOthers.of_below hbq)
            have HKT := Lib.hid (show KT T M (wc.heap.size + 2) W (grow (redrawn W dq) osq) from KT.of_below hbq (by omega) HT0)
            replace em := cellB em hbq
            replace eX := cellB eX hbq
            replace eX' := cellB eX' hbq
            clear g0 g1 g2 HI1 HI2 bX hbq
            generalize grow (redrawn W dq) osq = w8 at *
            have e1 := HS8.out.2.2.2.1.cell 0
            simp at e1
            have g0 := fun d os => cell_regrown e1 d os
            have g1 := fun d os => cell_regrown em d os
            have g3 := fun d os => cell_regrown eX d os
            have g4 := fun d os => cell_regrown eX' d os
            clear e1
            by_cases hq : up (tabOf r ks) x.1.1 + (tabOf r ks).P x.1.2 = up (tabOf r ks) p
            · have HQ := Lib.hid hq
              clear hq
              have hlk : ∀ (d : Nat) (os : Array Obj), _ := fun d os => (HS8.out.2.1.below (below_regrown w8 d os)).look_yes (skI x.1) ((Bp_mem (by rw [HTL.out]; omega) _ x.2 HZ.out).2 HQ.out)
              unfold skI pkV at hlk
              simp only at hlk
              gi_wp2_with fail
              refine wpIn_region_quietR (by kernel_rfl) (by kernel_rfl) ?_
              repeat (quiet_step (fail))
              refine wpQuiet_nil ?_
              intro _ hw'
              obtain ⟨⟨dq, osq⟩, hw''⟩ := hw'
              subst hw''
              have hbq := below_regrown w8 dq osq
              have HS9 := Lib.hid (HS8.out.below hbq)
              have HM9 := Lib.hid (HM8.out.below hbq)
              have b9 := b8.below hbq
              have hz9 := hbq.size
              have HKO9 := Lib.hid (HKO.out.trans (KeepsOthers.of_below hbq))
              have HKT9 := Lib.hid (HKT.out.trans (KT.of_below hbq (by omega) HS8.out.1.lt.1))
              clear g0 g1 g3 g4 hlk em eX eX' HS8 HM8 b8 HKO HKT hbq
              generalize grow (redrawn w8 dq) osq = w9 at *
              obtain ⟨yv, hyv⟩ : ∃ yv, Zx (tabOf r ks) p (pre.map Subtype.val) x.1.1 = yv := ⟨_, rfl⟩
              have hyb := Zx_bd HOK.out HK6.out (by rw [HTL.out]; omega) (show 1 ≤ p by omega) (pre.map Subtype.val) HXM.out.2 x.1.1
              have hwb := ways_bd HOK.out HK6.out (by rw [HTL.out]; omega) (show 1 ≤ p by omega)
              have hb23 : b23 = 789730223053602816 := rfl
              rw [hyv] at hyb
              rw [HVV.out] at hwb
              have ww2 : IntKind.i64.wrap (yv + vv) = yv + vv := IntWalk.i64_in _ (by omega)
              have hx25 : (x.1.1 : Int) < 25 := by omega
              have e1 := HS9.out.2.2.2.1.cell 0
              have ep := HS9.out.2.2.2.2.1.cell 0
              have ev := HS9.out.1.wy (p := p) (by omega)
              have ey := HS9.out.1.wy (p := x.1.1) (by omega)
              rw [Zx_at (by omega) (by rw [HTL.out]; omega), HVV.out] at ev
              rw [hyv] at ey
              have eX := b9.cell 0
              simp at e1 ep eX
              have g0 := fun d os => cell_regrown e1 d os
              have g1 := fun d os => cell_regrown ep d os
              have g2 := fun d os => cell_regrown ev d os
              have g3 := fun d os => cell_regrown ey d os
              have g4 := fun d os => cell_regrown eX d os
              have HYV := Lib.hid hyv
              clear hyv hyb hwb hb23 e1 ep ev ey eX
              gi_wp2_with fail
              refine wpIn_region_tail 17 (by kernel_rfl) (by kernel_rfl) ?_
              repeat (quiet_step (fail))
              refine wpQuiet_nil ?_
              intro _ hw'
              obtain ⟨⟨dq, osq⟩, hw''⟩ := hw'
              subst hw''
              simp only [List.drop_succ_cons, List.drop_zero]
              have hbq := below_regrown w9 dq osq
              have HS10 := Lib.hid (HS9.out.below hbq)
              have HM10 := Lib.hid (HM9.out.below hbq)
              have hz10 := hbq.size
              have HKO10 := Lib.hid (HKO9.out.trans (KeepsOthers.of_below hbq))
              have HKT10 := Lib.hid (HKT9.out.trans (KT.of_below hbq (by omega) HS9.out.1.lt.1))
              clear g0 g1 g2 g3 g4 HS9 HM9 b9 HKO9 HKT9 hbq
              generalize grow (redrawn w9 dq) osq = wd at *
              have xw := HS10.out.1.wy (p := x.1.1) (by omega)
              have xf := HS10.out.1.frozen (29 + x.1.1)
              have xT := HS10.out.1.lt.1
              gi_wp2
              refine ⟨(HKO10.out.trans (KeepsOthers.setCell _ _ _)).from _, HKT10.out.trans (KT.setT (by omega) _), ?_, HM10.out.from ((KeepsOthers.setCell _ _ _).from _), by simp [World.setCell]; omega⟩
              have := (HS10.out.setWy (q := x.1.1) (by omega) (yv + vv)).same (Bp_same (tabOf r ks) p (pre.map Subtype.val) x.1 HZ.out)
              rw [HMP.out, ← Zx_add (by rw [HTL.out]; omega) hx1 HQ.out, HYV.out, HVV.out]
              exact this
            · have HQ := Lib.hid hq
              clear hq
              have hlk : ∀ (d : Nat) (os : Array Obj), _ := fun d os => (HS8.out.2.1.below (below_regrown w8 d os)).look_no (skI x.1) (fun hh => HQ.out ((Bp_mem (by rw [HTL.out]; omega) _ x.2 HZ.out).1 hh))
              unfold skI pkV at hlk
              simp only at hlk
              gi_wp2_with fail
              refine wpIn_region_quietR (by kernel_rfl) (by kernel_rfl) ?_
              repeat (quiet_step (fail))
              refine wpQuiet_nil ?_
              intro _ hw'
              obtain ⟨⟨dq, osq⟩, hw''⟩ := hw'
              subst hw''
              have hbq := below_regrown w8 dq osq
              have HS9 := Lib.hid (HS8.out.below hbq)
              have HM9 := Lib.hid (HM8.out.below hbq)
              have hz9 := hbq.size
              have HKO9 := Lib.hid (HKO.out.trans (KeepsOthers.of_below hbq))
              have HKT9 := Lib.hid (HKT.out.trans (KT.of_below hbq (by omega) HS8.out.1.lt.1))
              clear g0 g1 g3 g4 hlk em eX eX' HS8 HM8 b8 HKO HKT hbq
              generalize grow (redrawn w8 dq) osq = w9 at *
              gi_wp2
              refine ⟨HKO9.out.from _, HKT9.out, ?_, HM9.out, by omega⟩
              rw [HMP.out, ← Zx_same (fun he => absurd he HQ.out)]
              exact HS9.out.same (Bp_same (tabOf r ks) p (pre.map Subtype.val) x.1 HZ.out)
        case done =>
          rintro D zs W hD hzs ⟨h1, h2, h3⟩ hK
          subst hA
          have ep := h1.2.2.2.2.1.cell 0
          simp at ep
          have hbl := lt_of_cell ep
          have hDl := (Array.getElem?_eq_some_iff.1 hK).1
          have hcast : ((p - 1 : Nat) : Int) = (p : Int) - 1 := by omega
          have hb9 := below1 W (.cells #[.int .i64 ((p : Int) - 1)] 3)
          have hmk9 := ((h2.cons (D := D) (by omega) hK (fun E hE e => by have := hmlt E hE; omega)).below hb9)
          have hst9 : BkS w T M w.heap.size W.heap.size r ks (p - 1) (Wx (tabOf r ks) (p - 1)) (Bx (tabOf r ks) (p - 1)) (W.alloc (.cells #[.int .i64 ((p : Int) - 1)] 3)) := by
            obtain ⟨k1, k2, k3, k4, k5, k6, k7⟩ := h1.below hb9
            rw [hzs] at k1 k2
            rw [Zx_all HOK.out (by omega) (by rw [HTL.out]; omega)] at k1
            refine ⟨k1, k2.same (Bp_all HOK.out (by omega)), k3, k4, ?_, k6, h1.2.2.1.size⟩
            rw [hcast]
            exact Blk.new _ _
          have HE := Lib.hid (And.intro hmk9 hst9)
          clear hmk9 hst9 hb9 h1 h2 hK hzs hcast
          gi_wp2
          exact ⟨p - 1, by have := HMM.out; omega, W.heap.size, p - 1, _, _, by omega, rfl, by rfl, rfl, HE.out.1, HE.out.2⟩
        case stop =>
          rintro D c pre W _ _ h _
          exact h.elim
    · obtain rfl : p = 0 := by omega
      have d1 : decide (((0 : Nat) : Int) > 0) = false := by simp
      gi_wp2
      refine leaves_marks HMK.out fun w' hk => ?_
      have hfin := HST.out.keeps (Nat.le_refl _) hk
      exact ⟨_, results_none rfl _ _ _, ⟨_, rfl⟩, hfin.1, hfin.2.1, hfin.2.2.1⟩
end Go.Proofs.Ytnkeikhkafbokaa
