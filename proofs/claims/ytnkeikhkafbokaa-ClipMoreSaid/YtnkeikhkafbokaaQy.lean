import Derived.Test.YtnkeikhkafbokaaQx
namespace Go.Proofs.Ytnkeikhkafbokaa
open Go.RowKit Go.Dag Go.Sort Go.Shelf
attribute [local go_sem] Oper.semAt_some

/-! ## The program: what unit prices prove -/
/-- Sheets whose units have prices enough. -/
def PaidL (t : Tab) (l : List Int) {p : Nat} (pre : List (SH t p)) : Prop := ∀ x ∈ pre, t.P x.1.2 ≤ psum (priceF l) x.1.1 (t.W x.1.2)
/-- The slice's room is at least what it has. -/
def CapOk (v : Value) : Prop := ∀ a n c, v = .slice a n c → n ≤ c
theorem list2 {l : List Value} (h : l.length = 2) : ∃ u4 u5 : Value, l = [u4, u5] := by
  obtain ⟨u4, lu4, rfl, hu4⟩ := list_succ h
  obtain ⟨u5, lu5, rfl, hu5⟩ := list_succ hu4
  obtain rfl := List.length_eq_zero_iff.1 hu5
  exact ⟨u4, u5, rfl⟩
theorem list29 {l : List Value} (h : l.length = 29) : ∃ u11 u12 u13 u14 u15 u16 u17 u18 u19 u20 u21 u22 u23 u24 u25 u26 u27 u28 u29 u30 u31 u32 u33 u34 u35 u36 u37 u38 u39 : Value, l = [u11, u12, u13, u14, u15, u16, u17, u18, u19, u20, u21, u22, u23, u24, u25, u26, u27, u28, u29, u30, u31, u32, u33, u34, u35, u36, u37, u38, u39] := by
  obtain ⟨u11, lu11, rfl, hu11⟩ := list_succ h
  obtain ⟨u12, lu12, rfl, hu12⟩ := list_succ hu11
  obtain ⟨u13, lu13, rfl, hu13⟩ := list_succ hu12
  obtain ⟨u14, lu14, rfl, hu14⟩ := list_succ hu13
  obtain ⟨u15, lu15, rfl, hu15⟩ := list_succ hu14
  obtain ⟨u16, lu16, rfl, hu16⟩ := list_succ hu15
  obtain ⟨u17, lu17, rfl, hu17⟩ := list_succ hu16
  obtain ⟨u18, lu18, rfl, hu18⟩ := list_succ hu17
  obtain ⟨u19, lu19, rfl, hu19⟩ := list_succ hu18
  obtain ⟨u20, lu20, rfl, hu20⟩ := list_succ hu19
  obtain ⟨u21, lu21, rfl, hu21⟩ := list_succ hu20
  obtain ⟨u22, lu22, rfl, hu22⟩ := list_succ hu21
  obtain ⟨u23, lu23, rfl, hu23⟩ := list_succ hu22
  obtain ⟨u24, lu24, rfl, hu24⟩ := list_succ hu23
  obtain ⟨u25, lu25, rfl, hu25⟩ := list_succ hu24
  obtain ⟨u26, lu26, rfl, hu26⟩ := list_succ hu25
  obtain ⟨u27, lu27, rfl, hu27⟩ := list_succ hu26
  obtain ⟨u28, lu28, rfl, hu28⟩ := list_succ hu27
  obtain ⟨u29, lu29, rfl, hu29⟩ := list_succ hu28
  obtain ⟨u30, lu30, rfl, hu30⟩ := list_succ hu29
  obtain ⟨u31, lu31, rfl, hu31⟩ := list_succ hu30
  obtain ⟨u32, lu32, rfl, hu32⟩ := list_succ hu31
  obtain ⟨u33, lu33, rfl, hu33⟩ := list_succ hu32
  obtain ⟨u34, lu34, rfl, hu34⟩ := list_succ hu33
  obtain ⟨u35, lu35, rfl, hu35⟩ := list_succ hu34
  obtain ⟨u36, lu36, rfl, hu36⟩ := list_succ hu35
  obtain ⟨u37, lu37, rfl, hu37⟩ := list_succ hu36
  obtain ⟨u38, lu38, rfl, hu38⟩ := list_succ hu37
  obtain ⟨u39, lu39, rfl, hu39⟩ := list_succ hu38
  obtain rfl := List.length_eq_zero_iff.1 hu39
  exact ⟨u11, u12, u13, u14, u15, u16, u17, u18, u19, u20, u21, u22, u23, u24, u25, u26, u27, u28, u29, u30, u31, u32, u33, u34, u35, u36, u37, u38, u39, rfl⟩
theorem list23 {l : List Value} (h : l.length = 23) : ∃ u42 u43 u44 u45 u46 u47 u48 u49 u50 u51 u52 u53 u54 u55 u56 u57 u58 u59 u60 u61 u62 u63 u64 : Value, l = [u42, u43, u44, u45, u46, u47, u48, u49, u50, u51, u52, u53, u54, u55, u56, u57, u58, u59, u60, u61, u62, u63, u64] := by
  obtain ⟨u42, lu42, rfl, hu42⟩ := list_succ h
  obtain ⟨u43, lu43, rfl, hu43⟩ := list_succ hu42
  obtain ⟨u44, lu44, rfl, hu44⟩ := list_succ hu43
  obtain ⟨u45, lu45, rfl, hu45⟩ := list_succ hu44
  obtain ⟨u46, lu46, rfl, hu46⟩ := list_succ hu45
  obtain ⟨u47, lu47, rfl, hu47⟩ := list_succ hu46
  obtain ⟨u48, lu48, rfl, hu48⟩ := list_succ hu47
  obtain ⟨u49, lu49, rfl, hu49⟩ := list_succ hu48
  obtain ⟨u50, lu50, rfl, hu50⟩ := list_succ hu49
  obtain ⟨u51, lu51, rfl, hu51⟩ := list_succ hu50
  obtain ⟨u52, lu52, rfl, hu52⟩ := list_succ hu51
  obtain ⟨u53, lu53, rfl, hu53⟩ := list_succ hu52
  obtain ⟨u54, lu54, rfl, hu54⟩ := list_succ hu53
  obtain ⟨u55, lu55, rfl, hu55⟩ := list_succ hu54
  obtain ⟨u56, lu56, rfl, hu56⟩ := list_succ hu55
  obtain ⟨u57, lu57, rfl, hu57⟩ := list_succ hu56
  obtain ⟨u58, lu58, rfl, hu58⟩ := list_succ hu57
  obtain ⟨u59, lu59, rfl, hu59⟩ := list_succ hu58
  obtain ⟨u60, lu60, rfl, hu60⟩ := list_succ hu59
  obtain ⟨u61, lu61, rfl, hu61⟩ := list_succ hu60
  obtain ⟨u62, lu62, rfl, hu62⟩ := list_succ hu61
  obtain ⟨u63, lu63, rfl, hu63⟩ := list_succ hu62
  obtain ⟨u64, lu64, rfl, hu64⟩ := list_succ hu63
  obtain rfl := List.length_eq_zero_iff.1 hu64
  exact ⟨u42, u43, u44, u45, u46, u47, u48, u49, u50, u51, u52, u53, u54, u55, u56, u57, u58, u59, u60, u61, u62, u63, u64, rfl⟩
theorem cp_results {tmps : Array Value} {b6 b7 : Nat} {x y : Int} {W : World} (h6 : tmps[6]?.getD undef = .pointer (some ⟨b6, 0, none⟩)) (h7 : tmps[7]?.getD undef = .pointer (some ⟨b7, 0, none⟩)) (c6 : W.cell? ⟨b6, 0, none⟩ = some (.int .i64 x)) (c7 : W.cell? ⟨b7, 0, none⟩ = some (.int .i64 y)) :
    (results Try.f31 tmps).run Try.prog W = .ok (.tuple #[.int .i64 x, .int .i64 y]) W := by
  simp [results, Try.results31, go_sem, h6, h7, c6, c7]
set_option maxRecDepth 100000 in
set_option maxHeartbeats 4000000 in
theorem CheckPrices_err (v kv : Value) (r : RibD) (ks : List KindD) (cv : Value) (w : World) (hv : RibAt w v r) (hk : KindsAt w kv ks) (he : bothErr r ks ≠ 0) (hl : r.fs.length ≤ 1000) (hl2 : ks.length ≤ 1000) :
    Calls Try.prog 31 #[v, kv, cv] w fun e w' => e = .returned (.tuple #[.int .i64 0, .int .i64 (bothErr r ks)]) ∧ Below w.heap.size w w' := by
  obtain ⟨sv, rfl, hi⟩ := hv
  obtain ⟨sa, cap, rfl⟩ := hi.slice
  obtain ⟨ka, kcap, rfl⟩ := hk.slice
  have hB0 := below3 w (.cells #[.int .i64 r.len, .slice sa r.fs.length cap] 24) (.cells #[.int .i64 0] 2) (.cells #[.int .i64 0] 29)
  have b3 := ((Blk.new w (.cells #[.int .i64 r.len, .slice sa r.fs.length cap] 24)).alloc (.cells #[.int .i64 0] 2)).alloc (.cells #[.int .i64 0] 29)
  have b6 := (Blk.new (w.alloc (.cells #[.int .i64 r.len, .slice sa r.fs.length cap] 24)) (.cells #[.int .i64 0] 2)).alloc (.cells #[.int .i64 0] 29)
  have b7 := Blk.new ((w.alloc (.cells #[.int .i64 r.len, .slice sa r.fs.length cap] 24)).alloc (.cells #[.int .i64 0] 2)) (.cells #[.int .i64 0] 29)
  simp only [World.size_alloc] at b6 b7
  have HI := Lib.hid (hi.below hB0)
  have HK := Lib.hid (hk.below hB0)
  clear hi hk
  go_enter Try.func31, Try.ntmps31
  go_wp2_with fail
  have hz0 : (((w.alloc (.cells #[.int .i64 r.len, .slice sa r.fs.length cap] 24)).alloc (.cells #[.int .i64 0] 2)).alloc (.cells #[.int .i64 0] 29)).heap.size = w.heap.size + 3 := by simp
  generalize ((w.alloc (.cells #[.int .i64 r.len, .slice sa r.fs.length cap] 24)).alloc (.cells #[.int .i64 0] 2)).alloc (.cells #[.int .i64 0] 29) = W0 at *
  refine (lay_err _ _ r ks _ ⟨_, rfl, HI.out⟩ HK.out he hl hl2).mono ?_
  rintro e w1 ⟨rfl, hb1⟩
  have HE : (bothErr r ks != 0) = true := by simpa using he
  have HB := Lib.hid (bC hB0 hb1)
  replace b6 := b6.below hb1
  replace b7 := b7.below hb1
  have hz1 := hb1.size
  have y6 := b6.cell 0
  have y7 := b7.cell 0
  have f6 := b6.frozen 0
  have f7 := b7.frozen 0
  simp at y6 y7
  have hl6 := b6.lt
  have hl7 := b7.lt
  have b6' := ((b6.set (j := 0) (.int .i64 0)).other (b := w.heap.size + 1 + 1) (j := 0) (by omega) (.int .i64 (bothErr r ks))).alloc (.cells #[.pointer none] 76)
  have b7' := ((b7.other (b := w.heap.size + 1) (j := 0) (by omega) (.int .i64 0)).set (j := 0) (.int .i64 (bothErr r ks))).alloc (.cells #[.pointer none] 76)
  have HBE := Lib.hid ((((HB.out.setCell (p := ⟨w.heap.size + 1, 0, none⟩) (by simp) (.int .i64 0)).setCell (p := ⟨w.heap.size + 1 + 1, 0, none⟩) (by simp; omega) (.int .i64 (bothErr r ks)))).alloc (by simp [World.setCell]; omega) (.cells #[.pointer none] 76))
  clear he hb1 hB0 b3 b6 b7 HI HK
  go_wp2_with fail
  generalize ((w1.setCell ⟨w.heap.size + 1, 0, none⟩ (.int .i64 0)).setCell ⟨w.heap.size + 1 + 1, 0, none⟩ (.int .i64 (bothErr r ks))).alloc (.cells #[.pointer none] 76) = W9 at *
  have c6 := b6'.cell 0
  have c7 := b7'.cell 0
  simp at c6 c7
  exact bodyPost_ret (cp_results rfl rfl c6 c7) rfl ⟨rfl, HBE.out⟩
set_option maxRecDepth 100000 in
set_option maxHeartbeats 8000000 in
theorem CheckPrices_ok (v kv : Value) (r : RibD) (ks : List KindD) (cv : Value) (l : List Int) (w : World) (hv : RibAt w v r) (hk : KindsAt w kv ks) (hcv : IntsAt w cv l) (hcap : CapOk cv) (hg : l.length ≤ 1000) (hr : RibOk r) (hks : KindsOk ks) :
    Calls Try.prog 31 #[v, kv, cv] w fun e w' => e = .returned (.tuple #[.int .i64 (pricesV r ks l), .int .i64 (pricesErr r ks l)]) ∧ Below w.heap.size w w' := by
  obtain ⟨sv, rfl, hi⟩ := hv
  obtain ⟨sa, cap, rfl⟩ := hi.slice
  obtain ⟨ka, kcap, rfl⟩ := hk.slice
  have hB0 := below3 w (.cells #[.int .i64 r.len, .slice sa r.fs.length cap] 24) (.cells #[.int .i64 0] 2) (.cells #[.int .i64 0] 29)
  have b3 := ((Blk.new w (.cells #[.int .i64 r.len, .slice sa r.fs.length cap] 24)).alloc (.cells #[.int .i64 0] 2)).alloc (.cells #[.int .i64 0] 29)
  have b6 := (Blk.new (w.alloc (.cells #[.int .i64 r.len, .slice sa r.fs.length cap] 24)) (.cells #[.int .i64 0] 2)).alloc (.cells #[.int .i64 0] 29)
  have b7 := Blk.new ((w.alloc (.cells #[.int .i64 r.len, .slice sa r.fs.length cap] 24)).alloc (.cells #[.int .i64 0] 2)) (.cells #[.int .i64 0] 29)
  simp only [World.size_alloc] at b6 b7
  have HI := Lib.hid (hi.below hB0)
  have HK := Lib.hid (hk.below hB0)
  obtain ⟨ca, ccap, rfl⟩ := hcv.slice
  have hcc := hcap _ _ _ rfl
  have HC := Lib.hid (hcv.below hB0)
  have HBE := Lib.hid (bothErr_of hr hks)
  have hl1 := hr.l1
  have hl2 := hr.l2
  have HOK := Lib.hid (tabOf_ok (r := r) (ks := ks) (by omega) hks)
  have HRK := Lib.hid (And.intro hr hks)
  have hfc := hr.count
  have hk6 := hks.1
  clear hi hk hcv hcap hr hks
  refine (callsIn_wide (n := 12)).1 ?_
  refine callsIn_of_wp_marks Try.func31 rfl trivial ?_ rfl
  simp only [Try.ntmps31, List.size_toArray, List.length_cons, List.length_nil, Nat.reduceAdd, Nat.reduceSub, Array.replicate_succ, Array.replicate_zero, List.push_toArray, List.append_toArray, List.nil_append, List.cons_append]
  gi_wp2_with fail
  have hz0 : (((w.alloc (.cells #[.int .i64 r.len, .slice sa r.fs.length cap] 24)).alloc (.cells #[.int .i64 0] 2)).alloc (.cells #[.int .i64 0] 29)).heap.size = w.heap.size + 3 := by simp
  generalize ((w.alloc (.cells #[.int .i64 r.len, .slice sa r.fs.length cap] 24)).alloc (.cells #[.int .i64 0] 2)).alloc (.cells #[.int .i64 0] 29) = W0 at *
  refine ⟨trivial, (callsIn_wide.2 (lay_ok _ _ r ks _ ⟨_, rfl, HI.out⟩ HK.out HRK.out.1 HRK.out.2)).mono ?_⟩
  rintro e w1 ⟨T, M, rfl, hla, hT, hM, hb1⟩
  have HB1 := Lib.hid (bC hB0 hb1)
  have HL1 := Lib.hid hla
  have HC1 := Lib.hid (HC.out.below hb1)
  replace b6 := b6.below hb1
  replace b7 := b7.below hb1
  have hz1 := hb1.size
  have t0 := hla.1.len
  have hTl := hla.1.lt.1
  have y6 := b6.cell 0
  have y7 := b7.cell 0
  have f6 := b6.frozen 0
  have f7 := b7.frozen 0
  simp at y6 y7
  have hl6 := b6.lt
  have hl7 := b7.lt
  clear hb1 hB0 hla HI HK HC b3
  by_cases q1 : (l.length : Int) = r.len
  case neg =>
    have d1 : ((l.length : Int) != r.len) = true := by simpa using q1
    have HT := Lib.hid (price_tup (pricesErr_15 HBE.out q1) (by decide))
    have B6 := ((b6.set (j := 0) (.int .i64 0)).other (b := w.heap.size + 1 + 1) (j := 0) (by omega) (.int .i64 15)).alloc (.cells #[.pointer (some ⟨T, 0, none⟩)] 76)
    have B7 := ((b7.other (b := w.heap.size + 1) (j := 0) (by omega) (.int .i64 0)).set (j := 0) (.int .i64 15)).alloc (.cells #[.pointer (some ⟨T, 0, none⟩)] 76)
    have HBX := Lib.hid ((((HB1.out.setCell (p := ⟨w.heap.size + 1, 0, none⟩) (by simp) (.int .i64 0)).setCell (p := ⟨w.heap.size + 1 + 1, 0, none⟩) (by simp; omega) (.int .i64 15))).alloc (by simp [World.setCell]; omega) (.cells #[.pointer (some ⟨T, 0, none⟩)] 76))
    clear b6 b7 HL1 HC1 HB1
    gi_wp2
    refine leaves_marks (Marks.nil w.heap.size _) fun w' hk => ?_
    exact ⟨_, cp_results rfl rfl (by have := (B6.keepsC hk).cell 0; simpa using this) (by have := (B7.keepsC hk).cell 0; simpa using this), HT.out, below_keeps HBX.out hk (Nat.le_refl _) HBX.out.size⟩
  have d1 : ((l.length : Int) != r.len) = false := by simpa using q1
  have hb2 := below1 w1 (.cells #[.pointer (some ⟨T, 0, none⟩)] 76)
  have b8 := Blk.new w1 (.cells #[.pointer (some ⟨T, 0, none⟩)] 76)
  have HL2 := Lib.hid (HL1.out.below hb2)
  have HC2 := Lib.hid (HC1.out.below hb2)
  have HB2 := Lib.hid (bC HB1.out hb2)
  replace b6 := b6.below hb2
  replace b7 := b7.below hb2
  have HQ := Lib.hid q1
  have hll : l.length ≤ 24 := by omega
  have hz2 : (w1.alloc (.cells #[.pointer (some ⟨T, 0, none⟩)] 76)).heap.size = w1.heap.size + 1 := by simp
  clear HL1 HC1 HB1 q1 hb2 y6 y7 f6 f7
  gi_wp2_with fail
  generalize w1.alloc (.cells #[.pointer (some ⟨T, 0, none⟩)] 76) = w2 at *
  clear t0 d1
  refine ⟨trivial, (callsIn_wide.2 (withinL_any 0 24000 _ l _ HC2.out (by omega))).mono ?_⟩
  rintro e w3 ⟨rfl, rfl⟩
  cases q2 : okInts 0 24000 l with
  | false =>
    have y6 := b6.cell 0
    have y7 := b7.cell 0
    have f6 := b6.frozen 0
    have f7 := b7.frozen 0
    simp at y6 y7
    have HT := Lib.hid (price_tup (pricesErr_3 HBE.out HQ.out q2) (by decide))
    have B6 := ((b6.set (j := 0) (.int .i64 0)).other (b := w.heap.size + 1 + 1) (j := 0) (by omega) (.int .i64 3))
    have B7 := ((b7.other (b := w.heap.size + 1) (j := 0) (by omega) (.int .i64 0)).set (j := 0) (.int .i64 3))
    have HBX := Lib.hid ((((HB2.out.setCell (p := ⟨w.heap.size + 1, 0, none⟩) (by simp) (.int .i64 0)).setCell (p := ⟨w.heap.size + 1 + 1, 0, none⟩) (by simp; omega) (.int .i64 3))))
    clear b6 b7 HL2 HC2 HB2 q2
    gi_wp2
    refine leaves_marks (Marks.nil w.heap.size _) fun w' hk => ?_
    exact ⟨_, cp_results rfl rfl (by have := (B6.keepsC hk).cell 0; simpa using this) (by have := (B7.keepsC hk).cell 0; simpa using this), HT.out, below_keeps HBX.out hk (Nat.le_refl _) HBX.out.size⟩
  | true =>
    have HQ2 := Lib.hid (show okPrices l = true from q2)
    clear q2
    gi_wp2_with fail
    refine ⟨trivial, (callsIn_wide.2 (sums_any ca l.length ccap _)).mono ?_⟩
    rintro e w3 ⟨rfl, rfl⟩
    have hb3 := below1 w2 (.cells #[.slice ca l.length ccap] 39)
    have bq := Blk.new w2 (.cells #[.slice ca l.length ccap] 39)
    have HL3 := Lib.hid (HL2.out.below hb3)
    have HC3 := Lib.hid (HC2.out.below hb3)
    have HB3 := Lib.hid (bC HB2.out hb3)
    replace b6 := b6.below hb3
    replace b7 := b7.below hb3
    replace b8 := b8.below hb3
    have hz3 : (w2.alloc (.cells #[.slice ca l.length ccap] 39)).heap.size = w2.heap.size + 1 := by simp
    generalize w2.alloc (.cells #[.slice ca l.length ccap] 39) = w3 at *
    clear HL2 HC2 HB2 hb3
    have hb4a := below1 w3 (.cells #[.nilFunc] 79)
    have b10a := Blk.new w3 (.cells #[.nilFunc] 79)
    have hz4a : (w3.alloc (.cells #[.nilFunc] 79)).heap.size = w3.heap.size + 1 := by simp
    have h310 : w3.heap.size = w1.heap.size + 1 + 1 := by omega
    have h2q : w2.heap.size = w1.heap.size + 1 := hz2
    rw [h310] at b10a
    rw [h2q] at bq
    obtain ⟨w4, hw4⟩ : ∃ w4, (w3.alloc (.cells #[.nilFunc] 79)).setCell ⟨w1.heap.size + 1 + 1, 0, none⟩ (sumsV (w1.heap.size + 1)) = w4 := ⟨_, rfl⟩
    have b10 : Blk w4 (w1.heap.size + 1 + 1) (.cells #[sumsV (w1.heap.size + 1)] 79) := by
      rw [← hw4]
      have := b10a.set (j := 0) (sumsV (w1.heap.size + 1))
      simpa using this
    have hst : (store ⟨w1.heap.size + 1 + 1, 0, none⟩ (.func (.func 78) #[] #[.pointer (some ⟨w1.heap.size + 1, 0, none⟩)])).run Try.prog (w3.alloc (.cells #[.nilFunc] 79)) = .ok () w4 := by
      have z10 := b10a.cell 0
      have f10 := b10a.frozen 0
      simp at z10
      rw [run_store Try.prog _ ⟨w1.heap.size + 1 + 1, 0, none⟩ _ .plain rfl]
      simp only [z10, f10, ← hw4]
      rfl
    have hb4 : Below w3.heap.size w3 w4 := by
      rw [← hw4]
      exact hb4a.setCell (by simp; omega) _
    have hz4 : w4.heap.size = w1.heap.size + 3 := by
      rw [← hw4]
      simp [World.setCell]
      omega
    have HL4 := Lib.hid (HL3.out.below hb4)
    have HC4 := Lib.hid (HC3.out.below hb4)
    have HB4 := Lib.hid (bC HB3.out hb4)
    replace b6 := b6.below hb4
    replace b7 := b7.below hb4
    replace b8 := b8.below hb4
    replace bq := bq.below hb4
    have t4 := HL4.out.1.len
    rw [← HQ.out] at t4
    have y8 := b8.cell 0
    simp at y8
    have ww : IntKind.i64.wrap ((l.length : Int) + 1) = (l.length : Int) + 1 := IntWalk.i64_in _ (by omega)
    obtain ⟨cb, coff, rfl, _⟩ := HC4.out.at.2 0 (by have := HQ.out; omega)
    have HCC := Lib.hid (fun k (hk : k < l.length) => (show w4.cell? ⟨cb, coff + k, none⟩ = some (.int .i64 l[k]) from by
      obtain ⟨b', off', e, hc⟩ := HC4.out.at.2 k hk
      cases e
      exact hc))
    clear HL3 HC3 HB3 HC4 hb4a b10a hz4a hw4 hb4
    gi_wp2_with fail
    clear hst t4 y8
    have hMl := HL4.out.1.lt
    refine wpIn_loop_inv (Inv := fun m a wr => ∃ (p : Nat) (l1 l2 l3 : List Value) (ds : List Deferred), p ≤ l.length + 1 ∧ m = l.length + 1 - p ∧ l1.length = 2 ∧ l2.length = 29 ∧ l3.length = 23 ∧ a = { tmps := (.agg #[.int .i64 r.len, .slice sa r.fs.length cap] :: .slice ka ks.length kcap :: .slice (some ⟨cb, coff, none⟩) l.length ccap :: .pointer (some ⟨w.heap.size, 0, none⟩) :: (l1 ++ (.pointer (some ⟨w.heap.size + 1, 0, none⟩) :: .pointer (some ⟨w.heap.size + 1 + 1, 0, none⟩) :: .pointer (some ⟨w1.heap.size, 0, none⟩) :: .int .i64 0 :: .pointer (some ⟨w1.heap.size + 1 + 1, 0, none⟩) :: (l2 ++ (.int .i64 ((l.length : Int) + 1) :: .int .i64 (p : Int) :: l3))))).toArray, defers := ds } ∧ Marks w4.heap.size ds wr ∧ Below w4.heap.size w4 wr ∧
      (∀ a' i, i < (tabOf r ks).K → (tabOf r ks).can a' i = true → a' + (tabOf r ks).W i < p → (tabOf r ks).P i ≤ psum (priceF l) a' ((tabOf r ks).W i))) ?step (m := l.length + 1) ?init
    case init => exact ⟨0, [_, _], [_, _, _, _, _, _, _, _, _, _, _, _, _, _, _, _, _, _, _, _, _, _, _, _, _, _, _, _, _], [_, _, _, _, _, _, _, _, _, _, _, _, _, _, _, _, _, _, _, _, _, _, _], [], Nat.zero_le _, rfl, rfl, rfl, rfl, rfl, Marks.nil _ _, Below.refl _ _, fun a' i _ _ h => absurd h (Nat.not_lt_zero _)⟩
    case step =>
      rintro m a wr ⟨p, l1, l2, l3, ds, hp, hm, e1, e2, e3, rfl, hmk, hB, hcov⟩
      obtain ⟨u4, u5, rfl⟩ := list2 e1
      obtain ⟨u11, u12, u13, u14, u15, u16, u17, u18, u19, u20, u21, u22, u23, u24, u25, u26, u27, u28, u29, u30, u31, u32, u33, u34, u35, u36, u37, u38, u39, rfl⟩ := list29 e2
      obtain ⟨u42, u43, u44, u45, u46, u47, u48, u49, u50, u51, u52, u53, u54, u55, u56, u57, u58, u59, u60, u61, u62, u63, u64, rfl⟩ := list23 e3
      simp only [List.cons_append, List.nil_append]
      have HMK := Lib.hid hmk
      have HMM := Lib.hid hm
      have HB := Lib.hid hB
      have HCV := Lib.hid hcov
      clear e1 e2 e3 hmk hm hcov
      have hzr := hB.size
      by_cases hlt : p < l.length + 1
      · have d1 : decide ((p : Int) < (l.length : Int) + 1) = true := by simp; omega
        have y8 := (b8.below hB).cell 0
        simp at y8
        have hb1 := below1 wr (.cells #[.int .i64 p] 3)
        have bp := Blk.new wr (.cells #[.int .i64 p] 3)
        have HMK1 := Lib.hid (HMK.out.below hb1)
        have HBc := Lib.hid (bC hB hb1)
        have hzc : wr.heap.size + 1 = (wr.alloc (.cells #[.int .i64 p] 3)).heap.size := by simp
        clear hB hb1 HMK HB
        have hy8 : w1.heap.size < wr.heap.size := by omega
        gi_wp2_with fail
        generalize wr.alloc (.cells #[.int .i64 p] 3) = wc at *
        clear y8 d1 hy8
        refine ⟨trivial, (callsIn_wide.2 (sheets_any T p _)).mono ?_⟩
        rintro e w7 ⟨rfl, rfl⟩
        have hb7 := below2 wc (.cells #[.pointer (some ⟨T, 0, none⟩)] 76) (.cells #[.int .i64 (p : Int)] 3)
        have HLc := Lib.hid (HL4.out.below HBc.out)
        have HSH := Lib.hid (ShAt.new (w := wc) (p := p) HLc.out.1.tab HRK.out.2 HRK.out.1 (by omega))
        have HB7 := Lib.hid (bC HBc.out hb7)
        have HMK7 := Lib.hid (HMK1.out.below hb7)
        have bp7 := bp.below hb7
        have hz7 : wc.heap.size + 2 = ((wc.alloc (.cells #[.pointer (some ⟨T, 0, none⟩)] 76)).alloc (.cells #[.int .i64 (p : Int)] 3)).heap.size := by simp
        generalize (wc.alloc (.cells #[.pointer (some ⟨T, 0, none⟩)] 76)).alloc (.cells #[.int .i64 (p : Int)] 3) = w7 at *
        clear HBc HMK1 HLc bp hb7
        gi_wp2_with fail
        generalize hA : Act.mk _ _ = a0
        have eg : ∀ args w, (callFunc 79 args).run Try.prog w = .ok (.enter 79 args) w := fun _ _ => rfl
        have hmlt : ∀ E, ({ target := .collected E, args := #[] } : Deferred) ∈ ds → E < w7.heap.size := fun E hE => HMK7.out.lt hE
        have hseq := sheets_stops (12 - 1) (by omega) T M (wc.heap.size + 2) wc.heap.size (wc.heap.size + 1) p r ks w7 HSH.out HRK.out.1 HRK.out.2 (by omega)
        have hTn : T < wc.heap.size + 2 := by omega
        refine wpIn_rangeFunc_ownH (F := Fence.wide) rfl (by omega) (gf := 79) (lb := #[.pointer (some ⟨wc.heap.size, 0, none⟩), .pointer (some ⟨wc.heap.size + 1, 0, none⟩)]) (by rw [← hA]; rfl) trivial eg
          hseq (fun h k => KT.trans h k) (fun W l o o' hl _ _ _ => KT.put (by omega) hTn) (Below.refl _ _) (fun _ => rfl)
          (fun (pre : List (SH (tabOf r ks) p)) W => Below w4.heap.size w4 W ∧ Blk W wr.heap.size (.cells #[.int .i64 p] 3) ∧ PaidL (tabOf r ks) l pre ∧ Marks w4.heap.size ds W ∧ w7.heap.size ≤ W.heap.size)
          (fun c _ W => c = .ret ∧ covB (tabOf r ks) l = false ∧ Blk W (w.heap.size + 1) (.cells #[.int .i64 0] 2) ∧ Blk W (w.heap.size + 1 + 1) (.cells #[.int .i64 14] 29) ∧ Marks w4.heap.size ds W ∧ Below w.heap.size w W ∧ w7.heap.size ≤ W.heap.size)
          (ownFrom_of fun pre W W' ⟨h1, h2, h3, h4, h5⟩ hk => ⟨below_keeps h1 hk (by omega) h1.size, h2.keepsC hk, h3, h4.keeps hmlt hk, Nat.le_trans h5 hk.size⟩)
          (fun c => ownFrom_of fun pre W W' ⟨h0, h1, h2, h3, h4, h5, h6⟩ hk => ⟨h0, h1, h2.keepsC hk, h3.keepsC hk, h4.keeps hmlt hk, below_keeps h5 hk (by omega) h5.size, Nat.le_trans h6 hk.size⟩)
          ⟨HB7.out, bp7, (fun x hx => by cases hx), HMK7.out, Nat.le_refl _⟩
          (fun x a' W => ∃ Xb, w7.heap.size ≤ Xb ∧ Blk W Xb (.cells #[.int .i64 (x.1.1 : Nat), .int .i64 (x.1.2 : Nat)] 56) ∧ a' = { tmps := (a0.tmps.setIfInBounds 47 (shV (x.1.1 : Nat) (x.1.2 : Nat))).setIfInBounds 12 (.pointer (some ⟨Xb, 0, none⟩)), defers := [] })
          (fun x a' => ownFrom_of fun _ W W' h hk => by obtain ⟨Xb, h1, h2, h3⟩ := h; exact ⟨Xb, h1, h2.keepsC hk, h3⟩)
          ?assign ?body ?done ?stop
        case assign =>
          rintro l pre x W K ⟨h1, h2, h3, h4, h5⟩ hK
          subst hA
          unfold shE shV
          gi_wp2
          exact hK _ _ ((KeepsOthers.alloc _ _).from _) (KT.of_below (below1 _ _) (by omega) (by omega)) ⟨bC h1 (below1 _ _), h2.below (below1 _ _), h3, h4.below (below1 _ _), by simp; omega⟩ ⟨W.heap.size, by omega, Blk.new W _, rfl⟩
        case body =>
          rintro l0 pre x a' W hl ⟨rr, hrr⟩ ⟨h1, h2, h3, h4, h5⟩ ⟨Xb, hXb, bX, rfl⟩ hltn
          subst hA
          simp only [List.setIfInBounds_toArray, List.set_cons_succ, List.set_cons_zero]
          obtain ⟨hxk, hxc, hxe⟩ := shL_end x.2
          have hx2 : x.1.2 < ks.length := hxk
          have hw1 := HOK.out.w x.1.2 hxk
          have HBW := Lib.hid h1
          have HLW := Lib.hid (HL4.out.below h1)
          have H3 := Lib.hid h3
          have H4 := Lib.hid h4
          obtain ⟨d, hd⟩ : ∃ d, (tabOf r ks).W x.1.2 = d := ⟨_, rfl⟩
          obtain ⟨sm, hsm⟩ : ∃ sm, psum (priceF l) x.1.1 d = sm := ⟨_, rfl⟩
          obtain ⟨pr, hpr⟩ : ∃ pr, (kd ks x.1.2).p = pr := ⟨_, rfl⟩
          rw [hd] at hxe hw1
          have hS : ∀ (dd : Nat) (os : Array Obj), _ := fun dd os => Calls.regrown_of ((sums1_any (w1.heap.size + 1) cb coff ccap x.1.1 d l (grow (redrawn W dd) os) (by have := ((bq.below h1).below (below_regrown W dd os)).cell 0; simpa using this) hcc (fun k hk => cellB (cellB (HCC.out k hk) h1) (below_regrown W dd os)) (by omega) (by omega) (by omega) HQ2.out).mono fun e w' h => ⟨h.1, by rw [← h.2]; exact Below.refl _ _⟩)
          rw [hxe, hsm] at hS
          have hP : ∀ (dd : Nat) (os : Array Obj), _ := fun dd os => Calls.regrown_of (price_any T M r ks (x.1.1 : Int) x.1.2 (grow (redrawn W dd) os) (HLW.out.1.tab.below (below_regrown W dd os)) HRK.out.1 HRK.out.2 hx2)
          rw [hpr] at hP
          have e10 := (b10.below h1).cell 0
          have e8 := (b8.below h1).cell 0
          have ep := h2.cell 0
          have eX := bX.cell 0
          have eX' := bX.cell 1
          simp at e10 e8 ep eX eX'
          have g0 := fun d os => cell_regrown e10 d os
          have g1 := fun d os => cell_regrown e8 d os
          have g2 := fun d os => cell_regrown ep d os
          have g3 := fun d os => cell_regrown eX d os
          have g4 := fun d os => cell_regrown eX' d os
          have B6 := b6.below h1
          have B7 := b7.below h1
          have HXX := Lib.hid (And.intro hd (And.intro hsm (And.intro hpr (And.intro hxk hxc))))
          have hTW := HLW.out.1.lt.1
          clear e10 e8 ep eX eX' hd hsm hpr hxk hxc h1 h3 h4 hrr
          gi_wp2_with fail
          refine wpIn_region_quietR (by kernel_rfl) (by kernel_rfl) ?_
          repeat (quiet_step ((first | (go_at_call 78; exact hS _ _) | (go_at_call 57; exact hP _ _))))
          refine wpQuiet_nil ?_
          intro _ hw'
          obtain ⟨⟨dq, osq⟩, hw''⟩ := hw'
          subst hw''
          have hbq := below_regrown W dq osq
          have HB8 := Lib.hid (bC HBW.out hbq)
          have HM8 := Lib.hid (H4.out.below hbq)
          have hp8 := h2.below hbq
          replace B6 := B6.below hbq
          replace B7 := B7.below hbq
          have hz8 := hbq.size
          have HKO := Lib.hid (KeepsOthers.of_below hbq)
          have HKT := Lib.hid (show KT T M (wc.heap.size + 2) W (grow (redrawn W dq) osq) from KT.of_below hbq (by omega) hTW)
          clear g0 g1 g2 g3 g4 hS hP hbq HBW H4 h2 bX HLW
          generalize grow (redrawn W dq) osq = w8 at *
          by_cases q3 : sm < pr
          · have d3 : decide (sm < pr) = true := by simpa using q3
            have HCF := Lib.hid (cov_false HOK.out (a := x.1.1) (i := x.1.2) HXX.out.2.2.2.1 HXX.out.2.2.2.2 (l := l) (by rw [HXX.out.1, HXX.out.2.1]; show sm < (kd ks x.1.2).p; rw [HXX.out.2.2.1]; exact q3))
            have y6 := B6.cell 0
            have y7 := B7.cell 0
            have f6 := B6.frozen 0
            have f7 := B7.frozen 0
            simp at y6 y7
            gi_wp2
            have B6' := ((B6.set (j := 0) (.int .i64 0)).other (b := w.heap.size + 1 + 1) (j := 0) (by omega) (.int .i64 14))
            have B7' := ((B7.other (b := w.heap.size + 1) (j := 0) (by omega) (.int .i64 0)).set (j := 0) (.int .i64 14))
            have hbx := (HB4.out.trans (HB8.out.mono (by omega)))
            refine ⟨((HKO.out.trans (KeepsOthers.setCell _ _ _)).trans (KeepsOthers.setCell _ _ _)).from _, rfl, HCF.out, by simpa using B6', by simpa using B7', (HM8.out.from ((KeepsOthers.setCell _ _ _).from _)).from ((KeepsOthers.setCell _ _ _).from _), (hbx.setCell (by simp) _).setCell (by simp; omega) _, by simp [World.setCell]; omega⟩
          · have d3 : decide (sm < pr) = false := by simpa using q3
            have HQ3 := Lib.hid (Int.not_lt.1 q3)
            clear hz4 hz7 hzc
            gi_wp2
            refine ⟨HKO.out.from _, HKT.out, HB8.out, hp8, fun y hy => ?_, HM8.out, by omega⟩
            rcases List.mem_append.1 hy with hy | hy
            · exact H3.out y hy
            · rw [List.mem_singleton] at hy
              subst hy
              rw [HXX.out.1, HXX.out.2.1]
              show (kd ks y.1.2).p ≤ sm
              rw [HXX.out.2.2.1]
              exact HQ3.out
        case done =>
          rintro D zs W hD hzs ⟨h1, h2, h3, h4, h5⟩ hK
          subst hA
          have hDl := (Array.getElem?_eq_some_iff.1 hK).1
          have ww : IntKind.i64.wrap ((p : Int) + 1) = (p : Int) + 1 := IntWalk.i64_in _ (by omega)
          have HE := Lib.hid (And.intro (h4.cons (D := D) (by omega) hK (fun E hE e => by have := hmlt E hE; omega)) (And.intro h1 (show ∀ a' i, i < (tabOf r ks).K → (tabOf r ks).can a' i = true → a' + (tabOf r ks).W i < p + 1 → (tabOf r ks).P i ≤ psum (priceF l) a' ((tabOf r ks).W i) from fun a' i hi hc hlt' => by
            by_cases hpp : a' + (tabOf r ks).W i < p
            · exact HCV.out a' i hi hc hpp
            · have hm : (a', i) ∈ shL (tabOf r ks) p := shL_mem.2 ⟨hi, by
                unfold canTo
                simp only [Bool.and_eq_true, decide_eq_true_eq]
                exact ⟨by omega, by rw [show p - (tabOf r ks).W i = a' by omega]; exact hc⟩, by simp only; omega⟩
              rw [← hzs] at hm
              obtain ⟨z, hz, e⟩ := List.mem_map.1 hm
              have := h3 z hz
              rw [e] at this
              exact this)))
          clear h1 h2 h3 h4 hzs hK
          gi_wp2
          exact ⟨l.length + 1 - (p + 1), by have := HMM.out; omega, p + 1, [_, _], [_, _, _, _, _, _, _, _, _, _, _, _, _, _, _, _, _, _, _, _, _, _, _, _, _, _, _, _, _], [_, _, _, _, _, _, _, _, _, _, _, _, _, _, _, _, _, _, _, _, _, _, _], _, by omega, rfl, rfl, rfl, rfl, rfl, HE.out.1, HE.out.2.1, HE.out.2.2⟩
        case stop =>
          rintro D c pre W hD _ ⟨rfl, hcf, B6, B7, hm, hbx, h6⟩ hK
          subst hA
          have HT := Lib.hid (price_tup (pricesErr_14 HBE.out HQ.out HQ2.out hcf) (by decide))
          have HM := Lib.hid (hm.cons (D := D) (by omega) hK (fun E hE e => by have := hmlt E hE; omega))
          have HBX := Lib.hid hbx
          clear hcf hm hbx hK
          gi_wp2
          refine leaves_marks HM.out fun w' hk => ?_
          exact ⟨_, cp_results rfl rfl (by have := (B6.keepsC hk).cell 0; simpa using this) (by have := (B7.keepsC hk).cell 0; simpa using this), HT.out, below_keeps HBX.out hk (by omega) HBX.out.size⟩
      · obtain rfl : p = l.length + 1 := by omega
        have d1 : decide (((l.length + 1 : Nat) : Int) < (l.length : Int) + 1) = false := by simp
        have HT := Lib.hid (price_tup0 (pricesErr_00 HBE.out HQ.out HQ2.out ((covB_iff HOK.out l).2 fun a' i hi hc => HCV.out a' i hi hc (by have := HOK.out.fit a' i hi hc; have e : (tabOf r ks).L = r.len.toNat := rfl; have := HQ.out; omega))) (c := psum (priceF l) 0 l.length) rfl)
        obtain ⟨sm, hsm⟩ : ∃ sm, psum (priceF l) 0 l.length = sm := ⟨_, rfl⟩
        rw [hsm] at HT
        have hS : ∀ (dd : Nat) (os : Array Obj), _ := fun dd os => Calls.regrown_of ((sums1_any (w1.heap.size + 1) cb coff ccap 0 l.length l (grow (redrawn wr dd) os) (by have := ((bq.below HB.out).below (below_regrown wr dd os)).cell 0; simpa using this) hcc (fun k hk => cellB (cellB (HCC.out k hk) HB.out) (below_regrown wr dd os)) (by have := HQ.out; omega) (by omega) (by omega) HQ2.out).mono fun e w' h => ⟨h.1, by rw [← h.2]; exact Below.refl _ _⟩)
        rw [Nat.zero_add, hsm] at hS
        simp only [Int.natCast_zero] at hS
        have t4 := (HL4.out.below HB.out).1.len
        rw [← HQ.out] at t4
        have e10 := (b10.below HB.out).cell 0
        have e8 := (b8.below HB.out).cell 0
        simp at e10 e8
        have g0 := fun d os => cell_regrown e10 d os
        have g1 := fun d os => cell_regrown e8 d os
        have g2 := fun d os => cell_regrown t4 d os
        have B6 := b6.below HB.out
        have B7 := b7.below HB.out
        clear e10 e8 t4 hsm hB
        gi_wp2_with fail
        refine wpIn_wide.2 (wp_region_tail 7 (by kernel_rfl) (by kernel_rfl) ?_)
        repeat (quiet_step ((go_at_call 78; exact hS _ _)))
        refine wpQuiet_nil ?_
        intro _ hw'
        obtain ⟨⟨dq, osq⟩, hw''⟩ := hw'
        subst hw''
        simp only [List.drop_succ_cons, List.drop_zero]
        have hbq := below_regrown wr dq osq
        have HB8 := Lib.hid (bC HB.out hbq)
        have HM8 := Lib.hid (HMK.out.below hbq)
        replace B6 := B6.below hbq
        replace B7 := B7.below hbq
        have hz8 := hbq.size
        clear g0 g1 g2 hS hbq
        generalize grow (redrawn wr dq) osq = w8 at *
        have y6 := B6.cell 0
        have y7 := B7.cell 0
        have f6 := B6.frozen 0
        have f7 := B7.frozen 0
        simp at y6 y7
        go_wp2_with fail
        have B6' := ((B6.set (j := 0) (.int .i64 sm)).other (b := w.heap.size + 1 + 1) (j := 0) (by omega) (.int .i64 0))
        have B7' := ((B7.other (b := w.heap.size + 1) (j := 0) (by omega) (.int .i64 sm)).set (j := 0) (.int .i64 0))
        have hbx := (HB4.out.trans (HB8.out.mono (by omega)))
        have HBX := Lib.hid ((hbx.setCell (p := ⟨w.heap.size + 1, 0, none⟩) (by simp) (.int .i64 sm)).setCell (p := ⟨w.heap.size + 1 + 1, 0, none⟩) (by simp; omega) (.int .i64 0))
        have HMX := Lib.hid ((HM8.out.from ((KeepsOthers.setCell _ ⟨w.heap.size + 1, 0, none⟩ (.int .i64 sm)).from _)).from ((KeepsOthers.setCell _ ⟨w.heap.size + 1 + 1, 0, none⟩ (.int .i64 0)).from _))
        clear y6 y7 f6 f7 hbx
        gi_wp2
        refine leaves_marks HMX.out fun w' hk => ?_
        exact ⟨_, cp_results rfl rfl (by have := (B6'.keepsC hk).cell 0; simpa using this) (by have := (B7'.keepsC hk).cell 0; simpa using this), HT.out, below_keeps HBX.out hk (by omega) HBX.out.size⟩
end Go.Proofs.Ytnkeikhkafbokaa
