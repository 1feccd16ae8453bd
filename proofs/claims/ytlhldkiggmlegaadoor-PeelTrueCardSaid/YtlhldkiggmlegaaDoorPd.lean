import Derived.Test.YtlhldkiggmlegaaDoorPb
import Derived.Test.YtlhldkiggmlegaaDoorOt
namespace Go.Proofs.YtlhldkiggmlegaaDoor
open Go.RowKit Go.Shelf Go.Sort
attribute [local go_sem] Oper.semAt_some

/-! ## The law PeelTrue -/
theorem True_any (v vb : Value) (r : RoughD) (ns : List Int) (w : World) (hv : RoughAt w v r) (hb : U16At w vb ns) (h0 : roughErr r = 0) (hns : ∀ x ∈ ns, 0 ≤ x ∧ x ≤ 65535) (h20 : ns.length ≤ 20) :
    Calls Tryd.prog 53 #[v, vb] w fun e w' => ∃ u, e = .returned u ∧ LogAt w' u (trueD r ns) ∧ Below w.heap.size w w' := by
  obtain ⟨a, cap, rfl, h1⟩ := hb
  by_cases hn : ns = []
  · subst hn
    exact true_none v r [] a cap w hv h0 rfl
  · obtain ⟨b, off, rfl, h2⟩ := h1 hn
    have h3 : 1 ≤ ns.length := by
      rcases Nat.eq_zero_or_pos ns.length with h | h
      · exact absurd (List.length_eq_zero_iff.1 h) hn
      · exact h
    exact true_some v r ns b off cap w hv h0 hns h3 h20 h2
theorem pairs_news {W : World} {b o n cap : Nat} {l : List (Int × Int)} (h : PairsAt W (.slice (some ⟨b, o, none⟩) n cap) l) : ∀ j u, (pairCells l)[j]? = some u → W.cell? (Addr.add ⟨b, o, none⟩ j) = some u := by
  intro j u hu
  obtain ⟨_, h2⟩ := h.at
  have hc : ∀ q (hq : q < l.length), W.cell? ⟨b, o + q * 2, none⟩ = some (.int .i64 l[q].1) ∧ W.cell? ⟨b, o + q * 2 + 1, none⟩ = some (.int .i64 l[q].2) := by
    intro q hq
    obtain ⟨b', o', e1, e2, e3⟩ := h2 q hq
    simp only [Option.some.injEq, Addr.mk.injEq, and_true] at e1
    obtain ⟨rfl, rfl⟩ := e1
    exact ⟨e2, e3⟩
  obtain ⟨e1, e2⟩ := pairCells_src hc hu
  rw [e1, e2]
theorem pairs_set {W : World} {g cap : Nat} {T : TypeId} {cur : Array Value} {l : List (Int × Int)} {q : Nat} {x y : Int} (hB : Blk W g (.cells ((cur.setIfInBounds (q * 2) (.int .i64 x)).setIfInBounds (q * 2 + 1) (.int .i64 y)) T)) (hs : l.length * 2 ≤ cur.size) (ht : cur.toList.take (l.length * 2) = pairCells l) (hq : q < l.length) :
    PairsAt W (.slice (some ⟨g, 0, none⟩) l.length cap) (l.set q (x, y)) := by
  refine ⟨some ⟨g, 0, none⟩, cap, by simp, fun _ => ⟨g, 0, rfl, fun k hk => ?_⟩⟩
  have hk' : k < l.length := by simpa using hk
  obtain ⟨c1, c2⟩ := pairCells_get l k hk'
  rw [← ht] at c1 c2
  simp only [List.getElem?_take, Array.getElem?_toList] at c1 c2
  rw [if_pos (by omega)] at c1 c2
  rw [hB.cell, hB.cell, Nat.zero_add]
  simp only [Array.getElem?_setIfInBounds, List.getElem_set]
  by_cases e : q = k
  · subst e
    have z3 : q * 2 < cur.size := by omega
    have z4 : q * 2 + 1 < cur.size := by omega
    simp [z3, z4]
  · have z1 : ¬ (q * 2 + 1 = k * 2) := by omega
    have z2 : ¬ (q * 2 = k * 2) := by omega
    have z3 : ¬ (q * 2 + 1 = k * 2 + 1) := by omega
    have z4 : ¬ (q * 2 = k * 2 + 1) := by omega
    simp only [z1, z2, z3, z4, e, if_false]
    exact ⟨c1, c2⟩
theorem row_blk {W : World} {base n : Nat} {e : TypeId} {v : Value} {l : List (Int × Int)} (h : W.ownsRow base e 2 v n (pairCells l)) (hn : 1 ≤ n) :
    ∃ g cap cur, v = .slice (some ⟨g, 0, none⟩) n cap ∧ base ≤ g ∧ Blk W g (.cells cur e) ∧ n * 2 ≤ cur.size ∧ cur.toList.take (n * 2) = pairCells l := by
  obtain ⟨h1, h2 | ⟨g, cap, cur, e1, e2, e3, e4, e5, e6, e7⟩⟩ := h
  · omega
  · exact ⟨g, cap, cur, e1, e2, e3, by omega, e7⟩
theorem arr_get {cur : Array Value} {q : Nat} (h : q < cur.size) : ∃ u, cur[q]? = some u := ⟨cur[q], by simp [h]⟩
theorem ranges_below (v : Value) (w : World) : Calls Tryd.prog 54 #[v] w fun e w' => e = .returned v ∧ Below w.heap.size w w' :=
  (ranges_any v w).mono fun e w' ⟨h1, h2⟩ => ⟨h1, by subst h2; exact Below.refl _ _⟩
set_option maxRecDepth 1000000 in
set_option maxHeartbeats 40000000 in
theorem PeelTrue_any (v vb : Value) (r : RoughD) (ns : List Int) (wh : Int) (w : World) (hN : NoneAt w) (hv : RoughAt w v r) (hu : U16At w vb ns) (hns : ∀ x ∈ ns, 0 ≤ x ∧ x ≤ 65535) (g2 : 0 ≤ wh ∧ wh ≤ 255) :
    Calls Tryd.prog 15 #[v, vb, .int .u8 wh] w fun e w' => e = .returned (.bool true) ∧ Below w.heap.size w w' := by
  obtain ⟨va, vl, vh, rfl, h1, h2, h3⟩ := hv
  obtain ⟨a1, cap, rfl⟩ := h1.slice
  obtain ⟨a2, cap2, rfl⟩ := h2.slice
  obtain ⟨a3, cap3, rfl⟩ := h3.slice
  obtain ⟨a4, cap4, rfl, h4⟩ := hu
  have HV : Hid (RoughAt w (.agg #[.slice a1 r.at_.length cap, .slice a2 r.low.length cap2, .slice a3 r.high.length cap3]) r) := Lib.hid ⟨_, _, _, rfl, h1, h2, h3⟩
  have HU : Hid (U16At w (.slice a4 ns.length cap4) ns) := Lib.hid ⟨_, _, rfl, h4⟩
  have HAT := Lib.hid h1
  have HLO := Lib.hid h2
  have HHI := Lib.hid h3
  have HN := Lib.hid hN
  have HNS := Lib.hid hns
  clear h1 h2 h3 h4 hN hns
  have hZ := Blk.new w (.cells #[.slice a1 r.at_.length cap, .slice a2 r.low.length cap2, .slice a3 r.high.length cap3] 53)
  have hB0 := below1 w (.cells #[.slice a1 r.at_.length cap, .slice a2 r.low.length cap2, .slice a3 r.high.length cap3] 53)
  have HZ0 := Lib.hid hZ
  have HB0 := Lib.hid hB0
  clear hB0 hZ
  by_cases h0 : roughErr r = 0
  · have HS : Hid (∀ W, RoughAt W (.agg #[.slice a1 r.at_.length cap, .slice a2 r.low.length cap2, .slice a3 r.high.length cap3]) r → Calls Tryd.prog 52 #[(.agg #[.slice a1 r.at_.length cap, .slice a2 r.low.length cap2, .slice a3 r.high.length cap3])] W (Gets (.bool true) W)) := Lib.hid (fun W h => by have := sound_any _ r W h; rw [decide_eq_true h0] at this; exact this)
    have H0 := Lib.hid h0
    clear h0
    by_cases h20 : ns.length ≤ 20
    · have t20 : decide ((20 : Int) < (ns.length : Int)) = false := by simp; omega
      have H20 := Lib.hid h20
      have h0 := H0.out
      have hT : logErr (trueD r ns) = 0 := fit_err (true_fit h0 HNS.out)
      obtain ⟨hF, _⟩ := rough_fit h0
      have hf2 := hF.two
      have hf8 := hF.eight
      have hfl := hF.lens r.low (by simp)
      have hfh := hF.lens r.high (by simp)
      obtain ⟨b1, o1, rfl, -⟩ := (IntsAt.at (w := w) (a := a1) (n := r.at_.length) (cap := cap) HAT.out).2 0 (by omega)
      obtain ⟨b2, o2, rfl, -⟩ := (PairsAt.at (w := w) (a := a2) (n := r.low.length) (cap := cap2) HLO.out).2 0 (by omega)
      obtain ⟨b3, o3, rfl, -⟩ := (PairsAt.at (w := w) (a := a3) (n := r.high.length) (cap := cap3) HHI.out).2 0 (by omega)
      have HLL := Lib.hid (And.intro (And.intro hf2 hf8) (And.intro hfl hfh))
      have HSM := Lib.hid (show r.small by unfold RoughD.small; omega)
      have bi := tmodN wh (r.at_.length : Int) g2.1 (by omega)
      obtain ⟨iN, hiN⟩ : ∃ iN : Nat, wh.tmod (r.at_.length : Int) = (iN : Int) := ⟨(wh.tmod (r.at_.length : Int)).toNat, (Int.toNat_of_nonneg bi.1).symm⟩
      rw [hiN] at bi
      have hI : iN < r.at_.length := by omega
      have HI := Lib.hid hI
      have HIN := Lib.hid hiN
      have G2 := Lib.hid g2
      -- the cores
      obtain ⟨n, hn⟩ : ∃ n, (bestV (trueD r ns)).num = n := ⟨_, rfl⟩
      obtain ⟨d, hd⟩ : ∃ d, ((bestV (trueD r ns)).den : Int) = d := ⟨_, rfl⟩
      obtain ⟨n1, hn1⟩ : ∃ n, (bestV (narrow r)).num = n := ⟨_, rfl⟩
      obtain ⟨d1, hd1⟩ : ∃ d, ((bestV (narrow r)).den : Int) = d := ⟨_, rfl⟩
      obtain ⟨n2, hn2⟩ : ∃ n, (bestV (widest r)).num = n := ⟨_, rfl⟩
      obtain ⟨d2, hd2⟩ : ∃ d, ((bestV (widest r)).den : Int) = d := ⟨_, rfl⟩
      obtain ⟨n3, hn3⟩ : ∃ n, (bestV (narrow (sharpR r ns iN))).num = n := ⟨_, rfl⟩
      obtain ⟨d3, hd3⟩ : ∃ d, ((bestV (narrow (sharpR r ns iN))).den : Int) = d := ⟨_, rfl⟩
      obtain ⟨n4, hn4⟩ : ∃ n, (bestV (widest (sharpR r ns iN))).num = n := ⟨_, rfl⟩
      obtain ⟨d4, hd4⟩ : ∃ d, ((bestV (widest (sharpR r ns iN))).den : Int) = d := ⟨_, rfl⟩
      have hE := sharp_err h0 HNS.out hI
      have s0 := small_best (logErr_fit' hT)
      have s1 := small_best (l := narrow r) (narrow_fit h0)
      have s2 := small_best (l := widest r) (widest_fit h0)
      have s3 := small_best (l := narrow (sharpR r ns iN)) (narrow_fit hE)
      have s4 := small_best (l := widest (sharpR r ns iN)) (widest_fit hE)
      have fin : ∀ {x : Rat}, Small x → Fine x := fun h => by obtain ⟨z1, z2, z3⟩ := h; exact ⟨by omega, by omega, by omega⟩
      obtain ⟨q1, q2⟩ := true_best (ns := ns) h0 HNS.out
      obtain ⟨q3, q4⟩ := sharp_best (i := iN) h0 HNS.out hI
      have HBG : Hid (∀ V W, NoneAt W → LogAt W V (trueD r ns) → Calls Tryd.prog 42 #[V] W (Gets (.tuple #[.agg #[.int .i64 n, .int .i64 d], .bool true]) W)) := Lib.hid (fun V W hN h => by have := best_good _ _ W hN h hT; rw [qv, hn, hd] at this; exact this)
      have HSP : Hid (∀ W, RoughAt W (.agg #[.slice (some ⟨b1, o1, none⟩) r.at_.length cap, .slice (some ⟨b2, o2, none⟩) r.low.length cap2, .slice (some ⟨b3, o3, none⟩) r.high.length cap3]) r → Calls Tryd.prog 37 #[(.agg #[.slice (some ⟨b1, o1, none⟩) r.at_.length cap, .slice (some ⟨b2, o2, none⟩) r.low.length cap2, .slice (some ⟨b3, o3, none⟩) r.high.length cap3])] W (Gets (.tuple #[.agg #[.int .i64 n1, .int .i64 d1], .agg #[.int .i64 n2, .int .i64 d2], .int .i64 0]) W)) := Lib.hid (fun W h => by have := Span_any _ r W h HSM.out; rw [spanV, if_pos h0, if_pos h0, h0, qv, qv, hn1, hd1, hn2, hd2] at this; exact this)
      have hss : (sharpR r ns iN).small := by unfold RoughD.small sharpR; simp only [List.length_set]; omega
      have HSQ : Hid (∀ V W, RoughAt W V (sharpR r ns iN) → Calls Tryd.prog 37 #[V] W (Gets (.tuple #[.agg #[.int .i64 n3, .int .i64 d3], .agg #[.int .i64 n4, .int .i64 d4], .int .i64 0]) W)) := Lib.hid (fun V W h => by have := Span_any _ _ W h hss; rw [spanV, if_pos hE, if_pos hE, hE, qv, qv, hn3, hd3, hn4, hd4] at this; exact this)
      have HM1 : Hid (∀ W, Calls Tryd.prog 46 #[.agg #[.int .i64 n1, .int .i64 d1]] W (Gets (.bool true) W)) := Lib.hid (fun W => by have := small_yes _ W s1; rw [hn1, hd1] at this; exact this)
      have HM2 : Hid (∀ W, Calls Tryd.prog 46 #[.agg #[.int .i64 n2, .int .i64 d2]] W (Gets (.bool true) W)) := Lib.hid (fun W => by have := small_yes _ W s2; rw [hn2, hd2] at this; exact this)
      have HM3 : Hid (∀ W, Calls Tryd.prog 46 #[.agg #[.int .i64 n3, .int .i64 d3]] W (Gets (.bool true) W)) := Lib.hid (fun W => by have := small_yes _ W s3; rw [hn3, hd3] at this; exact this)
      have HM4 : Hid (∀ W, Calls Tryd.prog 46 #[.agg #[.int .i64 n4, .int .i64 d4]] W (Gets (.bool true) W)) := Lib.hid (fun W => by have := small_yes _ W s4; rw [hn4, hd4] at this; exact this)
      have HR1 : Hid (∀ W, Calls Tryd.prog 45 #[.agg #[.int .i64 n, .int .i64 d], .agg #[.int .i64 n1, .int .i64 d1]] W (Gets (.bool false) W)) := Lib.hid (fun W => by have := rless_any _ _ W (fin s0) (fin s1); rw [decide_eq_false (Rat.not_lt.2 q1), qv, qv, hn, hd, hn1, hd1] at this; exact this)
      have HR2 : Hid (∀ W, Calls Tryd.prog 45 #[.agg #[.int .i64 n2, .int .i64 d2], .agg #[.int .i64 n, .int .i64 d]] W (Gets (.bool false) W)) := Lib.hid (fun W => by have := rless_any _ _ W (fin s2) (fin s0); rw [decide_eq_false (Rat.not_lt.2 q2), qv, qv, hn, hd, hn2, hd2] at this; exact this)
      have HR3 : Hid (∀ W, Calls Tryd.prog 45 #[.agg #[.int .i64 n3, .int .i64 d3], .agg #[.int .i64 n1, .int .i64 d1]] W (Gets (.bool false) W)) := Lib.hid (fun W => by have := rless_any _ _ W (fin s3) (fin s1); rw [decide_eq_false (Rat.not_lt.2 q3), qv, qv, hn3, hd3, hn1, hd1] at this; exact this)
      have HR4 : Hid (∀ W, Calls Tryd.prog 45 #[.agg #[.int .i64 n2, .int .i64 d2], .agg #[.int .i64 n4, .int .i64 d4]] W (Gets (.bool false) W)) := Lib.hid (fun W => by have := rless_any _ _ W (fin s2) (fin s4); rw [decide_eq_false (Rat.not_lt.2 q4), qv, qv, hn2, hd2, hn4, hd4] at this; exact this)
      obtain ⟨ir, hir, hk0, hk1, hk2⟩ := info_parts infoR
      have IR := Lib.hid hir
      have K0 := Lib.hid hk0
      have K1 := Lib.hid hk1
      have K2 := Lib.hid hk2
      clear hir hk0 hk1 hk2 hn hd hn1 hd1 hn2 hd2 hn3 hd3 hn4 hd4 s0 s1 s2 s3 s4 q1 q2 q3 q4 fin hE hT hss h0 hF hf2 hf8 hfl hfh h20 hiN hI bi g2
      go_enter Tryd.func15, Tryd.ntmps15
      go_wp2_with fail
      refine (HS.out _ (HV.out.below HB0.out)).mono ?_
      rintro e w1x ⟨rfl, hb⟩
      have HB1 := Lib.hid (bC HB0.out hb)
      have HZ1 := Lib.hid (HZ0.out.below hb)
      clear hb HB0 HZ0
      have Zc0 := HZ1.out.cell 0
      have Zc1 := HZ1.out.cell 1
      have Zc2 := HZ1.out.cell 2
      simp at Zc0 Zc1 Zc2
      have Zl := HZ1.out.lt
      go_wp2_with fail
      clear Zc0 Zc1 Zc2 Zl
      refine (True_any _ _ r ns _ (HV.out.below HB1.out) (HU.out.below HB1.out) H0.out HNS.out H20.out).mono ?_
      rintro e w2x ⟨ul, rfl, hLT, hb⟩
      obtain ⟨ua, ue, rfl, hua, hue⟩ := hLT
      obtain ⟨a5, cap5, rfl⟩ := hua.slice
      obtain ⟨a6, cap6, rfl⟩ := hue.slice
      have HLT1 := Lib.hid (show LogAt w2x (.agg #[.slice a5 (trueD r ns).at_.length cap5, .slice a6 (trueD r ns).edges.length cap6]) (trueD r ns) from ⟨_, _, rfl, hua, hue⟩)
      have HUE1 := Lib.hid hue
      clear hua hue
      have HB2 := Lib.hid (bC HB1.out hb)
      have HZ2 := Lib.hid (HZ1.out.below hb)
      clear hb HB1 HZ1
      clear t20
      go_wp2_with fail
      have HLT2 := HLT1
      have HUE2 := HUE1
      clear HLT1 HUE1
      have hL := Blk.new w2x (.cells #[.slice a5 (trueD r ns).at_.length cap5, .slice a6 (trueD r ns).edges.length cap6] 25)
      have hA := below1 w2x (.cells #[.slice a5 (trueD r ns).at_.length cap5, .slice a6 (trueD r ns).edges.length cap6] 25)
      generalize w2x.alloc (.cells #[.slice a5 (trueD r ns).at_.length cap5, .slice a6 (trueD r ns).edges.length cap6] 25) = W2x at *
      have HL3 := Lib.hid hL
      clear hL
      have HB3 := Lib.hid (bC HB2.out hA)
      have HZ3 := Lib.hid (HZ2.out.below hA)
      have HLT3 := Lib.hid (HLT2.out.below hA)
      have HUE3 := Lib.hid (HUE2.out.below hA)
      clear hA HB2 HZ2 HLT2 HUE2
      refine (HBG.out _ _ (HN.out.below HB3.out) HLT3.out).mono ?_
      rintro e w4x ⟨rfl, hb⟩
      have HB4 := Lib.hid (bC HB3.out hb)
      have HZ4 := Lib.hid (HZ3.out.below hb)
      have HLT4 := Lib.hid (HLT3.out.below hb)
      have HUE4 := Lib.hid (HUE3.out.below hb)
      have HL4 := Lib.hid (HL3.out.below hb)
      clear hb HB3 HZ3 HLT3 HUE3 HL3
      have Zc0 := HZ4.out.cell 0
      have Zc1 := HZ4.out.cell 1
      have Zc2 := HZ4.out.cell 2
      simp at Zc0 Zc1 Zc2
      have Zl := HZ4.out.lt
      go_wp2_with fail
      clear Zc0 Zc1 Zc2 Zl
      have hBV := Blk.new w4x (.cells #[.int .i64 n, .int .i64 d] 31)
      have hA := below1 w4x (.cells #[.int .i64 n, .int .i64 d] 31)
      generalize w4x.alloc (.cells #[.int .i64 n, .int .i64 d] 31) = W4x at *
      have HBV5 := Lib.hid hBV
      clear hBV
      have HB5 := Lib.hid (bC HB4.out hA)
      have HZ5 := Lib.hid (HZ4.out.below hA)
      have HLT5 := Lib.hid (HLT4.out.below hA)
      have HUE5 := Lib.hid (HUE4.out.below hA)
      have HL5 := Lib.hid (HL4.out.below hA)
      clear hA HB4 HZ4 HLT4 HUE4 HL4
      refine (HSP.out _ (HV.out.below HB5.out)).mono ?_
      rintro e w6x ⟨rfl, hb⟩
      have HB6 := Lib.hid (bC HB5.out hb)
      have HZ6 := Lib.hid (HZ5.out.below hb)
      have HLT6 := Lib.hid (HLT5.out.below hb)
      have HUE6 := Lib.hid (HUE5.out.below hb)
      have HL6 := Lib.hid (HL5.out.below hb)
      have HBV6 := Lib.hid (HBV5.out.below hb)
      clear hb HB5 HZ5 HLT5 HUE5 HL5 HBV5
      go_wp2_with fail
      have hBLo := (Blk.new w6x (.cells #[.int .i64 n1, .int .i64 d1] 31)).alloc (.cells #[.int .i64 n2, .int .i64 d2] 31)
      have hBHi := Blk.new (w6x.alloc (.cells #[.int .i64 n1, .int .i64 d1] 31)) (.cells #[.int .i64 n2, .int .i64 d2] 31)
      rw [World.size_alloc] at hBHi
      have hA := below2 w6x (.cells #[.int .i64 n1, .int .i64 d1] 31) (.cells #[.int .i64 n2, .int .i64 d2] 31)
      generalize (w6x.alloc (.cells #[.int .i64 n1, .int .i64 d1] 31)).alloc (.cells #[.int .i64 n2, .int .i64 d2] 31) = W6x at *
      have HBLo7 := Lib.hid hBLo
      have HBHi7 := Lib.hid hBHi
      clear hBLo hBHi
      have HB7 := Lib.hid (bC HB6.out hA)
      have HZ7 := Lib.hid (HZ6.out.below hA)
      have HLT7 := Lib.hid (HLT6.out.below hA)
      have HUE7 := Lib.hid (HUE6.out.below hA)
      have HL7 := Lib.hid (HL6.out.below hA)
      have HBV7 := Lib.hid (HBV6.out.below hA)
      clear hA HB6 HZ6 HLT6 HUE6 HL6 HBV6
      refine (HM1.out _).mono ?_
      rintro e w8x ⟨rfl, hb⟩
      have HB8 := Lib.hid (bC HB7.out hb)
      have HZ8 := Lib.hid (HZ7.out.below hb)
      have HLT8 := Lib.hid (HLT7.out.below hb)
      have HUE8 := Lib.hid (HUE7.out.below hb)
      have HL8 := Lib.hid (HL7.out.below hb)
      have HBV8 := Lib.hid (HBV7.out.below hb)
      have HBLo8 := Lib.hid (HBLo7.out.below hb)
      have HBHi8 := Lib.hid (HBHi7.out.below hb)
      clear hb HB7 HZ7 HLT7 HUE7 HL7 HBV7 HBLo7 HBHi7
      have BHic0 := HBHi8.out.cell 0
      have BHic1 := HBHi8.out.cell 1
      simp at BHic0 BHic1
      have BHil := HBHi8.out.lt
      go_wp2_with fail
      clear BHic0 BHic1 BHil
      refine (HM2.out _).mono ?_
      rintro e w9x ⟨rfl, hb⟩
      have HB9 := Lib.hid (bC HB8.out hb)
      have HZ9 := Lib.hid (HZ8.out.below hb)
      have HLT9 := Lib.hid (HLT8.out.below hb)
      have HUE9 := Lib.hid (HUE8.out.below hb)
      have HL9 := Lib.hid (HL8.out.below hb)
      have HBV9 := Lib.hid (HBV8.out.below hb)
      have HBLo9 := Lib.hid (HBLo8.out.below hb)
      have HBHi9 := Lib.hid (HBHi8.out.below hb)
      clear hb HB8 HZ8 HLT8 HUE8 HL8 HBV8 HBLo8 HBHi8
      have BVc0 := HBV9.out.cell 0
      have BVc1 := HBV9.out.cell 1
      have BLoc0 := HBLo9.out.cell 0
      have BLoc1 := HBLo9.out.cell 1
      simp at BVc0 BVc1 BLoc0 BLoc1
      have BVl := HBV9.out.lt
      have BLol := HBLo9.out.lt
      go_wp2_with fail
      clear BVc0 BVc1 BLoc0 BLoc1 BVl BLol
      refine (HR1.out _).mono ?_
      rintro e w10x ⟨rfl, hb⟩
      have HB10 := Lib.hid (bC HB9.out hb)
      have HZ10 := Lib.hid (HZ9.out.below hb)
      have HLT10 := Lib.hid (HLT9.out.below hb)
      have HUE10 := Lib.hid (HUE9.out.below hb)
      have HL10 := Lib.hid (HL9.out.below hb)
      have HBV10 := Lib.hid (HBV9.out.below hb)
      have HBLo10 := Lib.hid (HBLo9.out.below hb)
      have HBHi10 := Lib.hid (HBHi9.out.below hb)
      clear hb HB9 HZ9 HLT9 HUE9 HL9 HBV9 HBLo9 HBHi9
      have BHic0 := HBHi10.out.cell 0
      have BHic1 := HBHi10.out.cell 1
      have BVc0 := HBV10.out.cell 0
      have BVc1 := HBV10.out.cell 1
      simp at BHic0 BHic1 BVc0 BVc1
      have BHil := HBHi10.out.lt
      have BVl := HBV10.out.lt
      go_wp2_with fail
      clear BHic0 BHic1 BVc0 BVc1 BHil BVl
      refine (HR2.out _).mono ?_
      rintro e w11x ⟨rfl, hb⟩
      have HB11 := Lib.hid (bC HB10.out hb)
      have HZ11 := Lib.hid (HZ10.out.below hb)
      have HLT11 := Lib.hid (HLT10.out.below hb)
      have HUE11 := Lib.hid (HUE10.out.below hb)
      have HL11 := Lib.hid (HL10.out.below hb)
      have HBV11 := Lib.hid (HBV10.out.below hb)
      have HBLo11 := Lib.hid (HBLo10.out.below hb)
      have HBHi11 := Lib.hid (HBHi10.out.below hb)
      clear hb HB10 HZ10 HLT10 HUE10 HL10 HBV10 HBLo10 HBHi10
      go_wp2_with fail
      have Zc0 := HZ11.out.cell 0
      have Zc1 := HZ11.out.cell 1
      have Zc2 := HZ11.out.cell 2
      simp at Zc0 Zc1 Zc2
      have Zl := HZ11.out.lt
      have RL := Lib.hid (show World.ownsRow w11x w11x.heap.size 69 2 (.slice none 0 0) 0 [] from ⟨rfl, .inl ⟨rfl, rfl⟩⟩)
      have RH := Lib.hid (show World.ownsRow w11x w11x.heap.size 69 2 (.slice none 0 0) 0 [] from ⟨rfl, .inl ⟨rfl, rfl⟩⟩)
      have AP_RH_RL : Apart (.slice none 0 0) (.slice none 0 0) := Apart.nil
      have HLO2 := Lib.hid (HLO.out.below HB11.out)
      have HHI2 := Lib.hid (HHI.out.below HB11.out)
      have HLS := Lib.hid (show r.low.length ≤ 8 ∧ r.high.length ≤ 8 by have := HLL.out; omega)
      go_cut [13] (fun s13 wx => ∃ (C : Nat) (vl vh : Value), s13 = .pointer (some ⟨C, 0, none⟩) ∧ wx.ownsRow w11x.heap.size 69 2 vl r.low.length (pairCells r.low) ∧ wx.ownsRow w11x.heap.size 69 2 vh r.high.length (pairCells r.high) ∧ Apart vh vl ∧ Blk wx C (.cells #[.slice (some ⟨b1, o1, none⟩) r.at_.length cap, vl, vh] 53) ∧ w11x.heap.size ≤ C ∧ Below w11x.heap.size w11x wx)
      case first =>
        have hls := HLS.out
        have BL := Lib.hid (Below.refl w11x.heap.size w11x)
        have c0 : w11x.cell? ⟨w.heap.size, 0, none⟩ = some (.slice (some ⟨b1, o1, none⟩) r.at_.length cap) := cellB Zc0 BL.out
        have c1x : w11x.cell? ⟨w.heap.size, 1, none⟩ = some (.slice (some ⟨b2, o2, none⟩) r.low.length cap2) := cellB Zc1 BL.out
        have c2x : w11x.cell? ⟨w.heap.size, 2, none⟩ = some (.slice (some ⟨b3, o3, none⟩) r.high.length cap3) := cellB Zc2 BL.out
        refine wp_region_T 12 (fun W' => W'.cell? ⟨w.heap.size, 0, none⟩ = some (.slice (some ⟨b1, o1, none⟩) r.at_.length cap) ∧ W'.cell? ⟨w.heap.size, 1, none⟩ = some (.slice (some ⟨b2, o2, none⟩) r.low.length cap2) ∧ W'.cell? ⟨w.heap.size, 2, none⟩ = some (.slice (some ⟨b3, o3, none⟩) r.high.length cap3)) (by kernel_rfl) (by kernel_rfl) ⟨c0, c1x, c2x⟩ ?_
        intro inv hS
        have hbD : Below w11x.heap.size w11x w11x.drew := (Below.refl _ _).drew
        generalize w11x.drew = V0 at *
        replace RL := Lib.hid (owns_below RL.out hbD)
        replace RH := Lib.hid (owns_below RH.out hbD)
        replace BL := Lib.hid (bC BL.out hbD)
        clear hbD
        clear c0
        have c0 : V0.cell? ⟨w.heap.size, 0, none⟩ = some (.slice (some ⟨b1, o1, none⟩) r.at_.length cap) := cellB Zc0 BL.out
        clear c1x
        have c1x : V0.cell? ⟨w.heap.size, 1, none⟩ = some (.slice (some ⟨b2, o2, none⟩) r.low.length cap2) := cellB Zc1 BL.out
        clear c2x
        have c2x : V0.cell? ⟨w.heap.size, 2, none⟩ = some (.slice (some ⟨b3, o3, none⟩) r.high.length cap3) := cellB Zc2 BL.out
        refine wpAnyT_take inv (by kernel_rfl) (by omega) (i := 0) (v := .pointer (some ⟨w.heap.size, 0, none⟩)) rfl (by kernel_rfl) (by kernel_rfl) (fun _ _ _ h => h) (Or.inl ⟨by kernel_rfl, ?_⟩) (by assumption) ?_
        · rintro W' ⟨s0, s1, s2⟩
          go_simp
        intro inv2
        clear inv
        have inv := inv2
        clear inv2
        simp only [Act.put, List.setIfInBounds_toArray]
        refine wpAnyT_take inv (by kernel_rfl) (by omega) (i := 1) (v := .slice (some ⟨b1, o1, none⟩) r.at_.length cap) rfl (by kernel_rfl) (by kernel_rfl) (fun _ _ _ h => h) (Or.inl ⟨by kernel_rfl, ?_⟩) (by assumption) ?_
        · rintro W' ⟨s0, s1, s2⟩
          go_simp
        intro inv2
        clear inv
        have inv := inv2
        clear inv2
        simp only [Act.put]
        refine wpAnyT_take inv (by kernel_rfl) (by omega) (i := 3) (v := .pointer (some ⟨w.heap.size, 1, none⟩)) rfl (by kernel_rfl) (by kernel_rfl) (fun _ _ _ h => h) (Or.inl ⟨by kernel_rfl, ?_⟩) (by assumption) ?_
        · rintro W' ⟨s0, s1, s2⟩
          go_simp
        intro inv2
        clear inv
        have inv := inv2
        clear inv2
        simp only [Act.put]
        refine wpAnyT_take inv (by kernel_rfl) (by omega) (i := 4) (v := .slice (some ⟨b2, o2, none⟩) r.low.length cap2) rfl (by kernel_rfl) (by kernel_rfl) (fun _ _ _ h => h) (Or.inl ⟨by kernel_rfl, ?_⟩) (by assumption) ?_
        · rintro W' ⟨s0, s1, s2⟩
          go_simp
        intro inv2
        clear inv
        have inv := inv2
        clear inv2
        simp only [Act.put]
        refine wpAnyT_take inv (by kernel_rfl) (by omega) (i := 7) (v := .pointer (some ⟨w.heap.size, 2, none⟩)) rfl (by kernel_rfl) (by kernel_rfl) (fun _ _ _ h => h) (Or.inl ⟨by kernel_rfl, ?_⟩) (by assumption) ?_
        · rintro W' ⟨s0, s1, s2⟩
          go_simp
        intro inv2
        clear inv
        have inv := inv2
        clear inv2
        simp only [Act.put]
        refine wpAnyT_take inv (by kernel_rfl) (by omega) (i := 8) (v := .slice (some ⟨b3, o3, none⟩) r.high.length cap3) rfl (by kernel_rfl) (by kernel_rfl) (fun _ _ _ h => h) (Or.inl ⟨by kernel_rfl, ?_⟩) (by assumption) ?_
        · rintro W' ⟨s0, s1, s2⟩
          go_simp
        intro inv2
        clear inv
        have inv := inv2
        clear inv2
        simp only [Act.put]
        refine wpAnyT_ready [2, 11] (by kernel_rfl) (by simp) ?_
        refine AllReadyT.cons rfl (fun K hK => ?_) ?_
        ·
          go_simp
          refine (ranges_below (.slice none 0 0) _).mono ?_
          rintro e V1 ⟨rfl, hbC⟩
          replace RL := Lib.hid (owns_below RL.out hbC)
          replace RH := Lib.hid (owns_below RH.out hbC)
          replace BL := Lib.hid (bC BL.out hbC)
          clear hbC
          clear c0
          have c0 : V1.cell? ⟨w.heap.size, 0, none⟩ = some (.slice (some ⟨b1, o1, none⟩) r.at_.length cap) := cellB Zc0 BL.out
          clear c1x
          have c1x : V1.cell? ⟨w.heap.size, 1, none⟩ = some (.slice (some ⟨b2, o2, none⟩) r.low.length cap2) := cellB Zc1 BL.out
          clear c2x
          have c2x : V1.cell? ⟨w.heap.size, 2, none⟩ = some (.slice (some ⟨b3, o3, none⟩) r.high.length cap3) := cellB Zc2 BL.out
          refine hK.out _ _ (fun _ => ⟨c0, c1x, c2x⟩) (fun _ => ?_)
          clear hK K
          try simp only [Act.put]
          refine wpAnyT_ready [5, 11] (by kernel_rfl) (by simp) ?_
          refine AllReadyT.cons rfl (fun K hK => ?_) ?_
          ·
            refine Eq.mpr (if_pos ?_) ?_
            · rfl
            have hsz := BL.out.size
            have HNN := Lib.hid (pairs_news (HLO2.out.below BL.out))
            refine wp_append_at _ _ _ 23 rfl w11x.heap.size 69 ir (.agg #[.int .i64 0, .int .i64 0]) 2 16 undR IR.out K0.out K1.out K2.out rfl (by decide) _ _ _ rfl RL.out ⟨b2, o2, none⟩ r.low.length cap2 (pairCells r.low) rfl (by first | rfl | simp | (simp [pairCells_length]; done)) HNN.out (by intro u hu; exact pairCells_one hu) (by unfold maxLen; omega) (by omega) (by omega) ?_
            intro v3 V2 own gr att
            have AORH := AP_RH_RL
            replace AP_RH_RL := apart_grown RH.out AP_RH_RL att
            replace RH := Lib.hid (owns_apart RH.out AORH gr)
            replace BL := Lib.hid (below_owns RL.out gr BL.out hsz)
            replace RL := Lib.hid own
            clear own gr att HNN hsz AORH
            obtain ⟨v3a, v3n, v3c, rfl⟩ := (Row.of_owns RL.out).slice
            clear c0
            have c0 : V2.cell? ⟨w.heap.size, 0, none⟩ = some (.slice (some ⟨b1, o1, none⟩) r.at_.length cap) := cellB Zc0 BL.out
            clear c1x
            have c1x : V2.cell? ⟨w.heap.size, 1, none⟩ = some (.slice (some ⟨b2, o2, none⟩) r.low.length cap2) := cellB Zc1 BL.out
            clear c2x
            have c2x : V2.cell? ⟨w.heap.size, 2, none⟩ = some (.slice (some ⟨b3, o3, none⟩) r.high.length cap3) := cellB Zc2 BL.out
            refine hK.out _ _ (fun _ => ⟨c0, c1x, c2x⟩) (fun _ => ?_)
            clear hK K
            try simp only [Act.put]
            refine wpAnyT_ready [6, 11] (by kernel_rfl) (by simp) ?_
            refine AllReadyT.cons rfl (fun K hK => ?_) ?_
            ·
              go_simp
              refine (ranges_below (.slice none 0 0) _).mono ?_
              rintro e V3 ⟨rfl, hbC⟩
              replace RL := Lib.hid (owns_below RL.out hbC)
              replace RH := Lib.hid (owns_below RH.out hbC)
              replace BL := Lib.hid (bC BL.out hbC)
              clear hbC
              clear c0
              have c0 : V3.cell? ⟨w.heap.size, 0, none⟩ = some (.slice (some ⟨b1, o1, none⟩) r.at_.length cap) := cellB Zc0 BL.out
              clear c1x
              have c1x : V3.cell? ⟨w.heap.size, 1, none⟩ = some (.slice (some ⟨b2, o2, none⟩) r.low.length cap2) := cellB Zc1 BL.out
              clear c2x
              have c2x : V3.cell? ⟨w.heap.size, 2, none⟩ = some (.slice (some ⟨b3, o3, none⟩) r.high.length cap3) := cellB Zc2 BL.out
              refine hK.out _ _ (fun _ => ⟨c0, c1x, c2x⟩) (fun _ => ?_)
              clear hK K
              try simp only [Act.put]
              refine wpAnyT_ready [9, 11] (by kernel_rfl) (by simp) ?_
              refine AllReadyT.cons rfl (fun K hK => ?_) ?_
              ·
                refine Eq.mpr (if_pos ?_) ?_
                · rfl
                have hsz := BL.out.size
                have HNN := Lib.hid (pairs_news (HHI2.out.below BL.out))
                refine wp_append_at _ _ _ 23 rfl w11x.heap.size 69 ir (.agg #[.int .i64 0, .int .i64 0]) 2 16 undR IR.out K0.out K1.out K2.out rfl (by decide) _ _ _ rfl RH.out ⟨b3, o3, none⟩ r.high.length cap3 (pairCells r.high) rfl (by first | rfl | simp | (simp [pairCells_length]; done)) HNN.out (by intro u hu; exact pairCells_one hu) (by unfold maxLen; omega) (by omega) (by omega) ?_
                intro v4 V4 own gr att
                have AORL := AP_RH_RL.symm
                replace AP_RH_RL := (apart_grown RL.out AP_RH_RL.symm att).symm
                replace RL := Lib.hid (owns_apart RL.out AORL gr)
                replace BL := Lib.hid (below_owns RH.out gr BL.out hsz)
                replace RH := Lib.hid own
                clear own gr att HNN hsz AORL
                obtain ⟨v4a, v4n, v4c, rfl⟩ := (Row.of_owns RH.out).slice
                clear c0
                have c0 : V4.cell? ⟨w.heap.size, 0, none⟩ = some (.slice (some ⟨b1, o1, none⟩) r.at_.length cap) := cellB Zc0 BL.out
                clear c1x
                have c1x : V4.cell? ⟨w.heap.size, 1, none⟩ = some (.slice (some ⟨b2, o2, none⟩) r.low.length cap2) := cellB Zc1 BL.out
                clear c2x
                have c2x : V4.cell? ⟨w.heap.size, 2, none⟩ = some (.slice (some ⟨b3, o3, none⟩) r.high.length cap3) := cellB Zc2 BL.out
                refine hK.out _ _ (fun _ => ⟨c0, c1x, c2x⟩) (fun _ => ?_)
                clear hK K
                try simp only [Act.put]
                replace inv := HeadM.step inv 2 (by kernel_rfl) (by omega)
                replace inv := HeadM.step inv 5 (by kernel_rfl) (by omega)
                replace inv := HeadM.step inv 6 (by kernel_rfl) (by omega)
                replace inv := HeadM.step inv 9 (by kernel_rfl) (by omega)
                clear hS
                have hS : V4.cell? ⟨w.heap.size, 0, none⟩ = some (.slice (some ⟨b1, o1, none⟩) r.at_.length cap) ∧ V4.cell? ⟨w.heap.size, 1, none⟩ = some (.slice (some ⟨b2, o2, none⟩) r.low.length cap2) ∧ V4.cell? ⟨w.heap.size, 2, none⟩ = some (.slice (some ⟨b3, o3, none⟩) r.high.length cap3) := ⟨c0, c1x, c2x⟩
                refine wpAnyT_take inv (by kernel_rfl) (by omega) (i := 10) (v := .agg #[.slice (some ⟨b1, o1, none⟩) r.at_.length cap, .slice v3a v3n v3c, .slice v4a v4n v4c]) rfl (by kernel_rfl) (by kernel_rfl) (fun _ _ _ h => h) (Or.inl ⟨by kernel_rfl, ?_⟩) (by assumption) ?_
                · rintro W' ⟨s0, s1, s2⟩
                  go_simp
                intro inv2
                clear inv
                have inv := inv2
                clear inv2
                simp only [Act.put, List.setIfInBounds_toArray]
                refine wpAnyT_ready [11] (by kernel_rfl) (by simp) ?_
                refine AllReadyT.cons rfl (fun K hK => ?_) AllReadyT.nil
                go_simp
                have hbA := below1 V4 (.cells #[.slice none 0 0, .slice none 0 0, .slice none 0 0] 53)
                have BN11 := Lib.hid (Blk.new V4 (.cells #[.slice none 0 0, .slice none 0 0, .slice none 0 0] 53))
                have SN11 : w11x.heap.size ≤ V4.heap.size := BL.out.size
                have AN11RL := fun g (h : Value.ownBlock (.slice v3a v3n v3c) = some g) (e : g = V4.heap.size) => show False by have := owns_block RL.out h; omega
                have AN11RH := fun g (h : Value.ownBlock (.slice v4a v4n v4c) = some g) (e : g = V4.heap.size) => show False by have := owns_block RH.out h; omega
                generalize V4.alloc (.cells #[.slice none 0 0, .slice none 0 0, .slice none 0 0] 53) = V5 at *
                replace RL := Lib.hid (owns_below RL.out hbA)
                replace RH := Lib.hid (owns_below RH.out hbA)
                replace BL := Lib.hid (bC BL.out hbA)
                clear hbA
                clear c0
                have c0 : V5.cell? ⟨w.heap.size, 0, none⟩ = some (.slice (some ⟨b1, o1, none⟩) r.at_.length cap) := cellB Zc0 BL.out
                clear c1x
                have c1x : V5.cell? ⟨w.heap.size, 1, none⟩ = some (.slice (some ⟨b2, o2, none⟩) r.low.length cap2) := cellB Zc1 BL.out
                clear c2x
                have c2x : V5.cell? ⟨w.heap.size, 2, none⟩ = some (.slice (some ⟨b3, o3, none⟩) r.high.length cap3) := cellB Zc2 BL.out
                refine hK.out _ _ (fun _ => ⟨c0, c1x, c2x⟩) (fun _ => ?_)
                clear hK K
                try simp only [Act.put]
                refine wpAnyT_chain (fuel := 1) rfl (by kernel_rfl) ?_
                simp only [List.drop_succ_cons, List.drop_zero]
                clear hS inv c0 c1x c2x
                have a0 := BN11.out.cell 0
                have az0 := BN11.out.frozen 0
                have a1 := BN11.out.cell 1
                have az1 := BN11.out.frozen 1
                have a2 := BN11.out.cell 2
                have az2 := BN11.out.frozen 2
                have al := BN11.out.lt
                simp at a0 a1 a2
                replace RL := Lib.hid (owns_setA (owns_setA (owns_setA RL.out (fun g h e => AN11RL g h e) 0 (.slice (some ⟨b1, o1, none⟩) r.at_.length cap)) (fun g h e => AN11RL g h e) 1 (.slice v3a v3n v3c)) (fun g h e => AN11RL g h e) 2 (.slice v4a v4n v4c))
                replace RH := Lib.hid (owns_setA (owns_setA (owns_setA RH.out (fun g h e => AN11RH g h e) 0 (.slice (some ⟨b1, o1, none⟩) r.at_.length cap)) (fun g h e => AN11RH g h e) 1 (.slice v3a v3n v3c)) (fun g h e => AN11RH g h e) 2 (.slice v4a v4n v4c))
                replace BL := Lib.hid (((BL.out.setCell (p := ⟨V4.heap.size, 0, none⟩) SN11 (.slice (some ⟨b1, o1, none⟩) r.at_.length cap)).setCell (p := ⟨V4.heap.size, 1, none⟩) SN11 (.slice v3a v3n v3c)).setCell (p := ⟨V4.heap.size, 2, none⟩) SN11 (.slice v4a v4n v4c))
                have hU := (((BN11.out.set (j := 0) (.slice (some ⟨b1, o1, none⟩) r.at_.length cap)).set (j := 1) (.slice v3a v3n v3c)).set (j := 2) (.slice v4a v4n v4c))
                simp only [List.setIfInBounds_toArray, List.set_cons_zero, List.set_cons_succ] at hU
                replace BN11 := Lib.hid hU
                clear hU  
                have hRL := RL.out
                have hRH := RH.out
                rw [Nat.zero_add, List.nil_append] at hRL hRH
                have HRL2 := Lib.hid hRL
                have HRH2 := Lib.hid hRH
                clear hRL hRH
                go_wp2_with fail
                go_meet
                exact ⟨_, _, _, rfl, HRL2.out, HRH2.out, AP_RH_RL, BN11.out, SN11, BL.out⟩
              refine AllReadyT.cons rfl (fun K hK => ?_) AllReadyT.nil
              go_simp
              have hbA := below1 V3 (.cells #[.slice none 0 0, .slice none 0 0, .slice none 0 0] 53)
              have BN11 := Lib.hid (Blk.new V3 (.cells #[.slice none 0 0, .slice none 0 0, .slice none 0 0] 53))
              have SN11 : w11x.heap.size ≤ V3.heap.size := BL.out.size
              have AN11RL := fun g (h : Value.ownBlock (.slice v3a v3n v3c) = some g) (e : g = V3.heap.size) => show False by have := owns_block RL.out h; omega
              have AN11RH := fun g (h : Value.ownBlock (.slice none 0 0) = some g) (e : g = V3.heap.size) => show False by have := owns_block RH.out h; omega
              generalize V3.alloc (.cells #[.slice none 0 0, .slice none 0 0, .slice none 0 0] 53) = V6 at *
              replace RL := Lib.hid (owns_below RL.out hbA)
              replace RH := Lib.hid (owns_below RH.out hbA)
              replace BL := Lib.hid (bC BL.out hbA)
              clear hbA
              clear c0
              have c0 : V6.cell? ⟨w.heap.size, 0, none⟩ = some (.slice (some ⟨b1, o1, none⟩) r.at_.length cap) := cellB Zc0 BL.out
              clear c1x
              have c1x : V6.cell? ⟨w.heap.size, 1, none⟩ = some (.slice (some ⟨b2, o2, none⟩) r.low.length cap2) := cellB Zc1 BL.out
              clear c2x
              have c2x : V6.cell? ⟨w.heap.size, 2, none⟩ = some (.slice (some ⟨b3, o3, none⟩) r.high.length cap3) := cellB Zc2 BL.out
              refine hK.out _ _ (fun _ => ⟨c0, c1x, c2x⟩) (fun _ => ?_)
              clear hK K
              try simp only [Act.put]
              refine wpAnyT_ready [9] (by kernel_rfl) (by simp) ?_
              refine AllReadyT.cons rfl (fun K hK => ?_) AllReadyT.nil
              refine Eq.mpr (if_pos ?_) ?_
              · rfl
              have HZ11 := BN11.out.lt
              have hsz := BL.out.size
              have HNN := Lib.hid (pairs_news (HHI2.out.below BL.out))
              refine wp_append_at _ _ _ 23 rfl w11x.heap.size 69 ir (.agg #[.int .i64 0, .int .i64 0]) 2 16 undR IR.out K0.out K1.out K2.out rfl (by decide) _ _ _ rfl RH.out ⟨b3, o3, none⟩ r.high.length cap3 (pairCells r.high) rfl (by first | rfl | simp | (simp [pairCells_length]; done)) HNN.out (by intro u hu; exact pairCells_one hu) (by unfold maxLen; omega) (by omega) (by omega) ?_
              intro v4 V7 own gr att
              replace BN11 : Hid (Blk V7 (V3.heap.size) (.cells #[.slice none 0 0, .slice none 0 0, .slice none 0 0] 53)) := Lib.hid ((gr.block _ BN11.out.lt (fun h => AN11RH _ h.symm rfl)).trans BN11.out)
              have AORL := AP_RH_RL.symm
              replace AP_RH_RL := (apart_grown RL.out AP_RH_RL.symm att).symm
              replace RL := Lib.hid (owns_apart RL.out AORL gr)
              have hk11 : V3.heap.size < V6.heap.size := HZ11
              replace AN11RH : ∀ g, Value.ownBlock v4 = some g → g = V3.heap.size → False := by
                intro g h e
                rcases att with e1 | e1
                · exact AN11RH g (e1.symm.trans h) e
                · have h6 := Option.some.inj (h.symm.trans e1)
                  omega
              clear hk11 HZ11
              replace BL := Lib.hid (below_owns RH.out gr BL.out hsz)
              replace RH := Lib.hid own
              clear own gr att HNN hsz AORL
              obtain ⟨v4a, v4n, v4c, rfl⟩ := (Row.of_owns RH.out).slice
              clear c0
              have c0 : V7.cell? ⟨w.heap.size, 0, none⟩ = some (.slice (some ⟨b1, o1, none⟩) r.at_.length cap) := cellB Zc0 BL.out
              clear c1x
              have c1x : V7.cell? ⟨w.heap.size, 1, none⟩ = some (.slice (some ⟨b2, o2, none⟩) r.low.length cap2) := cellB Zc1 BL.out
              clear c2x
              have c2x : V7.cell? ⟨w.heap.size, 2, none⟩ = some (.slice (some ⟨b3, o3, none⟩) r.high.length cap3) := cellB Zc2 BL.out
              refine hK.out _ _ (fun _ => ⟨c0, c1x, c2x⟩) (fun _ => ?_)
              clear hK K
              try simp only [Act.put]
              replace inv := HeadM.step inv 2 (by kernel_rfl) (by omega)
              replace inv := HeadM.step inv 5 (by kernel_rfl) (by omega)
              replace inv := HeadM.step inv 6 (by kernel_rfl) (by omega)
              replace inv := HeadM.step inv 11 (by kernel_rfl) (by omega)
              replace inv := HeadM.step inv 9 (by kernel_rfl) (by omega)
              clear hS
              have hS : V7.cell? ⟨w.heap.size, 0, none⟩ = some (.slice (some ⟨b1, o1, none⟩) r.at_.length cap) ∧ V7.cell? ⟨w.heap.size, 1, none⟩ = some (.slice (some ⟨b2, o2, none⟩) r.low.length cap2) ∧ V7.cell? ⟨w.heap.size, 2, none⟩ = some (.slice (some ⟨b3, o3, none⟩) r.high.length cap3) := ⟨c0, c1x, c2x⟩
              refine wpAnyT_take inv (by kernel_rfl) (by omega) (i := 10) (v := .agg #[.slice (some ⟨b1, o1, none⟩) r.at_.length cap, .slice v3a v3n v3c, .slice v4a v4n v4c]) rfl (by kernel_rfl) (by kernel_rfl) (fun _ _ _ h => h) (Or.inl ⟨by kernel_rfl, ?_⟩) (by assumption) ?_
              · rintro W' ⟨s0, s1, s2⟩
                go_simp
              intro inv2
              clear inv
              have inv := inv2
              clear inv2
              simp only [Act.put, List.setIfInBounds_toArray]
              refine wpAnyT_chain (fuel := 1) rfl (by kernel_rfl) ?_
              simp only [List.drop_succ_cons, List.drop_zero]
              clear hS inv c0 c1x c2x
              have a0 := BN11.out.cell 0
              have az0 := BN11.out.frozen 0
              have a1 := BN11.out.cell 1
              have az1 := BN11.out.frozen 1
              have a2 := BN11.out.cell 2
              have az2 := BN11.out.frozen 2
              have al := BN11.out.lt
              simp at a0 a1 a2
              replace RL := Lib.hid (owns_setA (owns_setA (owns_setA RL.out (fun g h e => AN11RL g h e) 0 (.slice (some ⟨b1, o1, none⟩) r.at_.length cap)) (fun g h e => AN11RL g h e) 1 (.slice v3a v3n v3c)) (fun g h e => AN11RL g h e) 2 (.slice v4a v4n v4c))
              replace RH := Lib.hid (owns_setA (owns_setA (owns_setA RH.out (fun g h e => AN11RH g h e) 0 (.slice (some ⟨b1, o1, none⟩) r.at_.length cap)) (fun g h e => AN11RH g h e) 1 (.slice v3a v3n v3c)) (fun g h e => AN11RH g h e) 2 (.slice v4a v4n v4c))
              replace BL := Lib.hid (((BL.out.setCell (p := ⟨V3.heap.size, 0, none⟩) SN11 (.slice (some ⟨b1, o1, none⟩) r.at_.length cap)).setCell (p := ⟨V3.heap.size, 1, none⟩) SN11 (.slice v3a v3n v3c)).setCell (p := ⟨V3.heap.size, 2, none⟩) SN11 (.slice v4a v4n v4c))
              have hU := (((BN11.out.set (j := 0) (.slice (some ⟨b1, o1, none⟩) r.at_.length cap)).set (j := 1) (.slice v3a v3n v3c)).set (j := 2) (.slice v4a v4n v4c))
              simp only [List.setIfInBounds_toArray, List.set_cons_zero, List.set_cons_succ] at hU
              replace BN11 := Lib.hid hU
              clear hU  
              have hRL := RL.out
              have hRH := RH.out
              rw [Nat.zero_add, List.nil_append] at hRL hRH
              have HRL2 := Lib.hid hRL
              have HRH2 := Lib.hid hRH
              clear hRL hRH
              go_wp2_with fail
              go_meet
              exact ⟨_, _, _, rfl, HRL2.out, HRH2.out, AP_RH_RL, BN11.out, SN11, BL.out⟩
            refine AllReadyT.cons rfl (fun K hK => ?_) AllReadyT.nil
            go_simp
            have hbA := below1 V2 (.cells #[.slice none 0 0, .slice none 0 0, .slice none 0 0] 53)
            have BN11 := Lib.hid (Blk.new V2 (.cells #[.slice none 0 0, .slice none 0 0, .slice none 0 0] 53))
            have SN11 : w11x.heap.size ≤ V2.heap.size := BL.out.size
            have AN11RL := fun g (h : Value.ownBlock (.slice v3a v3n v3c) = some g) (e : g = V2.heap.size) => show False by have := owns_block RL.out h; omega
            have AN11RH := fun g (h : Value.ownBlock (.slice none 0 0) = some g) (e : g = V2.heap.size) => show False by have := owns_block RH.out h; omega
            generalize V2.alloc (.cells #[.slice none 0 0, .slice none 0 0, .slice none 0 0] 53) = V8 at *
            replace RL := Lib.hid (owns_below RL.out hbA)
            replace RH := Lib.hid (owns_below RH.out hbA)
            replace BL := Lib.hid (bC BL.out hbA)
            clear hbA
            clear c0
            have c0 : V8.cell? ⟨w.heap.size, 0, none⟩ = some (.slice (some ⟨b1, o1, none⟩) r.at_.length cap) := cellB Zc0 BL.out
            clear c1x
            have c1x : V8.cell? ⟨w.heap.size, 1, none⟩ = some (.slice (some ⟨b2, o2, none⟩) r.low.length cap2) := cellB Zc1 BL.out
            clear c2x
            have c2x : V8.cell? ⟨w.heap.size, 2, none⟩ = some (.slice (some ⟨b3, o3, none⟩) r.high.length cap3) := cellB Zc2 BL.out
            refine hK.out _ _ (fun _ => ⟨c0, c1x, c2x⟩) (fun _ => ?_)
            clear hK K
            try simp only [Act.put]
            refine wpAnyT_ready [6] (by kernel_rfl) (by simp) ?_
            refine AllReadyT.cons rfl (fun K hK => ?_) AllReadyT.nil
            go_simp
            refine (ranges_below (.slice none 0 0) _).mono ?_
            rintro e V9 ⟨rfl, hbC⟩
            replace RL := Lib.hid (owns_below RL.out hbC)
            replace RH := Lib.hid (owns_below RH.out hbC)
            replace BN11 := Lib.hid (BN11.out.below hbC)
            replace BL := Lib.hid (bC BL.out hbC)
            clear hbC
            clear c0
            have c0 : V9.cell? ⟨w.heap.size, 0, none⟩ = some (.slice (some ⟨b1, o1, none⟩) r.at_.length cap) := cellB Zc0 BL.out
            clear c1x
            have c1x : V9.cell? ⟨w.heap.size, 1, none⟩ = some (.slice (some ⟨b2, o2, none⟩) r.low.length cap2) := cellB Zc1 BL.out
            clear c2x
            have c2x : V9.cell? ⟨w.heap.size, 2, none⟩ = some (.slice (some ⟨b3, o3, none⟩) r.high.length cap3) := cellB Zc2 BL.out
            refine hK.out _ _ (fun _ => ⟨c0, c1x, c2x⟩) (fun _ => ?_)
            clear hK K
            try simp only [Act.put]
            refine wpAnyT_ready [9] (by kernel_rfl) (by simp) ?_
            refine AllReadyT.cons rfl (fun K hK => ?_) AllReadyT.nil
            refine Eq.mpr (if_pos ?_) ?_
            · rfl
            have HZ11 := BN11.out.lt
            have hsz := BL.out.size
            have HNN := Lib.hid (pairs_news (HHI2.out.below BL.out))
            refine wp_append_at _ _ _ 23 rfl w11x.heap.size 69 ir (.agg #[.int .i64 0, .int .i64 0]) 2 16 undR IR.out K0.out K1.out K2.out rfl (by decide) _ _ _ rfl RH.out ⟨b3, o3, none⟩ r.high.length cap3 (pairCells r.high) rfl (by first | rfl | simp | (simp [pairCells_length]; done)) HNN.out (by intro u hu; exact pairCells_one hu) (by unfold maxLen; omega) (by omega) (by omega) ?_
            intro v4 V10 own gr att
            replace BN11 : Hid (Blk V10 (V2.heap.size) (.cells #[.slice none 0 0, .slice none 0 0, .slice none 0 0] 53)) := Lib.hid ((gr.block _ BN11.out.lt (fun h => AN11RH _ h.symm rfl)).trans BN11.out)
            have AORL := AP_RH_RL.symm
            replace AP_RH_RL := (apart_grown RL.out AP_RH_RL.symm att).symm
            replace RL := Lib.hid (owns_apart RL.out AORL gr)
            have hk11 : V2.heap.size < V9.heap.size := HZ11
            replace AN11RH : ∀ g, Value.ownBlock v4 = some g → g = V2.heap.size → False := by
              intro g h e
              rcases att with e1 | e1
              · exact AN11RH g (e1.symm.trans h) e
              · have h6 := Option.some.inj (h.symm.trans e1)
                omega
            clear hk11 HZ11
            replace BL := Lib.hid (below_owns RH.out gr BL.out hsz)
            replace RH := Lib.hid own
            clear own gr att HNN hsz AORL
            obtain ⟨v4a, v4n, v4c, rfl⟩ := (Row.of_owns RH.out).slice
            clear c0
            have c0 : V10.cell? ⟨w.heap.size, 0, none⟩ = some (.slice (some ⟨b1, o1, none⟩) r.at_.length cap) := cellB Zc0 BL.out
            clear c1x
            have c1x : V10.cell? ⟨w.heap.size, 1, none⟩ = some (.slice (some ⟨b2, o2, none⟩) r.low.length cap2) := cellB Zc1 BL.out
            clear c2x
            have c2x : V10.cell? ⟨w.heap.size, 2, none⟩ = some (.slice (some ⟨b3, o3, none⟩) r.high.length cap3) := cellB Zc2 BL.out
            refine hK.out _ _ (fun _ => ⟨c0, c1x, c2x⟩) (fun _ => ?_)
            clear hK K
            try simp only [Act.put]
            replace inv := HeadM.step inv 2 (by kernel_rfl) (by omega)
            replace inv := HeadM.step inv 5 (by kernel_rfl) (by omega)
            replace inv := HeadM.step inv 11 (by kernel_rfl) (by omega)
            replace inv := HeadM.step inv 6 (by kernel_rfl) (by omega)
            replace inv := HeadM.step inv 9 (by kernel_rfl) (by omega)
            clear hS
            have hS : V10.cell? ⟨w.heap.size, 0, none⟩ = some (.slice (some ⟨b1, o1, none⟩) r.at_.length cap) ∧ V10.cell? ⟨w.heap.size, 1, none⟩ = some (.slice (some ⟨b2, o2, none⟩) r.low.length cap2) ∧ V10.cell? ⟨w.heap.size, 2, none⟩ = some (.slice (some ⟨b3, o3, none⟩) r.high.length cap3) := ⟨c0, c1x, c2x⟩
            refine wpAnyT_take inv (by kernel_rfl) (by omega) (i := 10) (v := .agg #[.slice (some ⟨b1, o1, none⟩) r.at_.length cap, .slice v3a v3n v3c, .slice v4a v4n v4c]) rfl (by kernel_rfl) (by kernel_rfl) (fun _ _ _ h => h) (Or.inl ⟨by kernel_rfl, ?_⟩) (by assumption) ?_
            · rintro W' ⟨s0, s1, s2⟩
              go_simp
            intro inv2
            clear inv
            have inv := inv2
            clear inv2
            simp only [Act.put, List.setIfInBounds_toArray]
            refine wpAnyT_chain (fuel := 1) rfl (by kernel_rfl) ?_
            simp only [List.drop_succ_cons, List.drop_zero]
            clear hS inv c0 c1x c2x
            have a0 := BN11.out.cell 0
            have az0 := BN11.out.frozen 0
            have a1 := BN11.out.cell 1
            have az1 := BN11.out.frozen 1
            have a2 := BN11.out.cell 2
            have az2 := BN11.out.frozen 2
            have al := BN11.out.lt
            simp at a0 a1 a2
            replace RL := Lib.hid (owns_setA (owns_setA (owns_setA RL.out (fun g h e => AN11RL g h e) 0 (.slice (some ⟨b1, o1, none⟩) r.at_.length cap)) (fun g h e => AN11RL g h e) 1 (.slice v3a v3n v3c)) (fun g h e => AN11RL g h e) 2 (.slice v4a v4n v4c))
            replace RH := Lib.hid (owns_setA (owns_setA (owns_setA RH.out (fun g h e => AN11RH g h e) 0 (.slice (some ⟨b1, o1, none⟩) r.at_.length cap)) (fun g h e => AN11RH g h e) 1 (.slice v3a v3n v3c)) (fun g h e => AN11RH g h e) 2 (.slice v4a v4n v4c))
            replace BL := Lib.hid (((BL.out.setCell (p := ⟨V2.heap.size, 0, none⟩) SN11 (.slice (some ⟨b1, o1, none⟩) r.at_.length cap)).setCell (p := ⟨V2.heap.size, 1, none⟩) SN11 (.slice v3a v3n v3c)).setCell (p := ⟨V2.heap.size, 2, none⟩) SN11 (.slice v4a v4n v4c))
            have hU := (((BN11.out.set (j := 0) (.slice (some ⟨b1, o1, none⟩) r.at_.length cap)).set (j := 1) (.slice v3a v3n v3c)).set (j := 2) (.slice v4a v4n v4c))
            simp only [List.setIfInBounds_toArray, List.set_cons_zero, List.set_cons_succ] at hU
            replace BN11 := Lib.hid hU
            clear hU  
            have hRL := RL.out
            have hRH := RH.out
            rw [Nat.zero_add, List.nil_append] at hRL hRH
            have HRL2 := Lib.hid hRL
            have HRH2 := Lib.hid hRH
            clear hRL hRH
            go_wp2_with fail
            go_meet
            exact ⟨_, _, _, rfl, HRL2.out, HRH2.out, AP_RH_RL, BN11.out, SN11, BL.out⟩
          refine AllReadyT.cons rfl (fun K hK => ?_) AllReadyT.nil
          go_simp
          have hbA := below1 V1 (.cells #[.slice none 0 0, .slice none 0 0, .slice none 0 0] 53)
          have BN11 := Lib.hid (Blk.new V1 (.cells #[.slice none 0 0, .slice none 0 0, .slice none 0 0] 53))
          have SN11 : w11x.heap.size ≤ V1.heap.size := BL.out.size
          have AN11RL := fun g (h : Value.ownBlock (.slice none 0 0) = some g) (e : g = V1.heap.size) => show False by have := owns_block RL.out h; omega
          have AN11RH := fun g (h : Value.ownBlock (.slice none 0 0) = some g) (e : g = V1.heap.size) => show False by have := owns_block RH.out h; omega
          generalize V1.alloc (.cells #[.slice none 0 0, .slice none 0 0, .slice none 0 0] 53) = V11 at *
          replace RL := Lib.hid (owns_below RL.out hbA)
          replace RH := Lib.hid (owns_below RH.out hbA)
          replace BL := Lib.hid (bC BL.out hbA)
          clear hbA
          clear c0
          have c0 : V11.cell? ⟨w.heap.size, 0, none⟩ = some (.slice (some ⟨b1, o1, none⟩) r.at_.length cap) := cellB Zc0 BL.out
          clear c1x
          have c1x : V11.cell? ⟨w.heap.size, 1, none⟩ = some (.slice (some ⟨b2, o2, none⟩) r.low.length cap2) := cellB Zc1 BL.out
          clear c2x
          have c2x : V11.cell? ⟨w.heap.size, 2, none⟩ = some (.slice (some ⟨b3, o3, none⟩) r.high.length cap3) := cellB Zc2 BL.out
          refine hK.out _ _ (fun _ => ⟨c0, c1x, c2x⟩) (fun _ => ?_)
          clear hK K
          try simp only [Act.put]
          refine wpAnyT_ready [5] (by kernel_rfl) (by simp) ?_
          refine AllReadyT.cons rfl (fun K hK => ?_) AllReadyT.nil
          refine Eq.mpr (if_pos ?_) ?_
          · rfl
          have HZ11 := BN11.out.lt
          have hsz := BL.out.size
          have HNN := Lib.hid (pairs_news (HLO2.out.below BL.out))
          refine wp_append_at _ _ _ 23 rfl w11x.heap.size 69 ir (.agg #[.int .i64 0, .int .i64 0]) 2 16 undR IR.out K0.out K1.out K2.out rfl (by decide) _ _ _ rfl RL.out ⟨b2, o2, none⟩ r.low.length cap2 (pairCells r.low) rfl (by first | rfl | simp | (simp [pairCells_length]; done)) HNN.out (by intro u hu; exact pairCells_one hu) (by unfold maxLen; omega) (by omega) (by omega) ?_
          intro v3 V12 own gr att
          replace BN11 : Hid (Blk V12 (V1.heap.size) (.cells #[.slice none 0 0, .slice none 0 0, .slice none 0 0] 53)) := Lib.hid ((gr.block _ BN11.out.lt (fun h => AN11RL _ h.symm rfl)).trans BN11.out)
          have AORH := AP_RH_RL
          replace AP_RH_RL := apart_grown RH.out AP_RH_RL att
          replace RH := Lib.hid (owns_apart RH.out AORH gr)
          have hk11 : V1.heap.size < V11.heap.size := HZ11
          replace AN11RL : ∀ g, Value.ownBlock v3 = some g → g = V1.heap.size → False := by
            intro g h e
            rcases att with e1 | e1
            · exact AN11RL g (e1.symm.trans h) e
            · have h6 := Option.some.inj (h.symm.trans e1)
              omega
          clear hk11 HZ11
          replace BL := Lib.hid (below_owns RL.out gr BL.out hsz)
          replace RL := Lib.hid own
          clear own gr att HNN hsz AORH
          obtain ⟨v3a, v3n, v3c, rfl⟩ := (Row.of_owns RL.out).slice
          clear c0
          have c0 : V12.cell? ⟨w.heap.size, 0, none⟩ = some (.slice (some ⟨b1, o1, none⟩) r.at_.length cap) := cellB Zc0 BL.out
          clear c1x
          have c1x : V12.cell? ⟨w.heap.size, 1, none⟩ = some (.slice (some ⟨b2, o2, none⟩) r.low.length cap2) := cellB Zc1 BL.out
          clear c2x
          have c2x : V12.cell? ⟨w.heap.size, 2, none⟩ = some (.slice (some ⟨b3, o3, none⟩) r.high.length cap3) := cellB Zc2 BL.out
          refine hK.out _ _ (fun _ => ⟨c0, c1x, c2x⟩) (fun _ => ?_)
          clear hK K
          try simp only [Act.put]
          refine wpAnyT_ready [6] (by kernel_rfl) (by simp) ?_
          refine AllReadyT.cons rfl (fun K hK => ?_) AllReadyT.nil
          go_simp
          refine (ranges_below (.slice none 0 0) _).mono ?_
          rintro e V13 ⟨rfl, hbC⟩
          replace RL := Lib.hid (owns_below RL.out hbC)
          replace RH := Lib.hid (owns_below RH.out hbC)
          replace BN11 := Lib.hid (BN11.out.below hbC)
          replace BL := Lib.hid (bC BL.out hbC)
          clear hbC
          clear c0
          have c0 : V13.cell? ⟨w.heap.size, 0, none⟩ = some (.slice (some ⟨b1, o1, none⟩) r.at_.length cap) := cellB Zc0 BL.out
          clear c1x
          have c1x : V13.cell? ⟨w.heap.size, 1, none⟩ = some (.slice (some ⟨b2, o2, none⟩) r.low.length cap2) := cellB Zc1 BL.out
          clear c2x
          have c2x : V13.cell? ⟨w.heap.size, 2, none⟩ = some (.slice (some ⟨b3, o3, none⟩) r.high.length cap3) := cellB Zc2 BL.out
          refine hK.out _ _ (fun _ => ⟨c0, c1x, c2x⟩) (fun _ => ?_)
          clear hK K
          try simp only [Act.put]
          refine wpAnyT_ready [9] (by kernel_rfl) (by simp) ?_
          refine AllReadyT.cons rfl (fun K hK => ?_) AllReadyT.nil
          refine Eq.mpr (if_pos ?_) ?_
          · rfl
          have HZ11 := BN11.out.lt
          have hsz := BL.out.size
          have HNN := Lib.hid (pairs_news (HHI2.out.below BL.out))
          refine wp_append_at _ _ _ 23 rfl w11x.heap.size 69 ir (.agg #[.int .i64 0, .int .i64 0]) 2 16 undR IR.out K0.out K1.out K2.out rfl (by decide) _ _ _ rfl RH.out ⟨b3, o3, none⟩ r.high.length cap3 (pairCells r.high) rfl (by first | rfl | simp | (simp [pairCells_length]; done)) HNN.out (by intro u hu; exact pairCells_one hu) (by unfold maxLen; omega) (by omega) (by omega) ?_
          intro v4 V14 own gr att
          replace BN11 : Hid (Blk V14 (V1.heap.size) (.cells #[.slice none 0 0, .slice none 0 0, .slice none 0 0] 53)) := Lib.hid ((gr.block _ BN11.out.lt (fun h => AN11RH _ h.symm rfl)).trans BN11.out)
          have AORL := AP_RH_RL.symm
          replace AP_RH_RL := (apart_grown RL.out AP_RH_RL.symm att).symm
          replace RL := Lib.hid (owns_apart RL.out AORL gr)
          have hk11 : V1.heap.size < V13.heap.size := HZ11
          replace AN11RH : ∀ g, Value.ownBlock v4 = some g → g = V1.heap.size → False := by
            intro g h e
            rcases att with e1 | e1
            · exact AN11RH g (e1.symm.trans h) e
            · have h6 := Option.some.inj (h.symm.trans e1)
              omega
          clear hk11 HZ11
          replace BL := Lib.hid (below_owns RH.out gr BL.out hsz)
          replace RH := Lib.hid own
          clear own gr att HNN hsz AORL
          obtain ⟨v4a, v4n, v4c, rfl⟩ := (Row.of_owns RH.out).slice
          clear c0
          have c0 : V14.cell? ⟨w.heap.size, 0, none⟩ = some (.slice (some ⟨b1, o1, none⟩) r.at_.length cap) := cellB Zc0 BL.out
          clear c1x
          have c1x : V14.cell? ⟨w.heap.size, 1, none⟩ = some (.slice (some ⟨b2, o2, none⟩) r.low.length cap2) := cellB Zc1 BL.out
          clear c2x
          have c2x : V14.cell? ⟨w.heap.size, 2, none⟩ = some (.slice (some ⟨b3, o3, none⟩) r.high.length cap3) := cellB Zc2 BL.out
          refine hK.out _ _ (fun _ => ⟨c0, c1x, c2x⟩) (fun _ => ?_)
          clear hK K
          try simp only [Act.put]
          replace inv := HeadM.step inv 2 (by kernel_rfl) (by omega)
          replace inv := HeadM.step inv 11 (by kernel_rfl) (by omega)
          replace inv := HeadM.step inv 5 (by kernel_rfl) (by omega)
          replace inv := HeadM.step inv 6 (by kernel_rfl) (by omega)
          replace inv := HeadM.step inv 9 (by kernel_rfl) (by omega)
          clear hS
          have hS : V14.cell? ⟨w.heap.size, 0, none⟩ = some (.slice (some ⟨b1, o1, none⟩) r.at_.length cap) ∧ V14.cell? ⟨w.heap.size, 1, none⟩ = some (.slice (some ⟨b2, o2, none⟩) r.low.length cap2) ∧ V14.cell? ⟨w.heap.size, 2, none⟩ = some (.slice (some ⟨b3, o3, none⟩) r.high.length cap3) := ⟨c0, c1x, c2x⟩
          refine wpAnyT_take inv (by kernel_rfl) (by omega) (i := 10) (v := .agg #[.slice (some ⟨b1, o1, none⟩) r.at_.length cap, .slice v3a v3n v3c, .slice v4a v4n v4c]) rfl (by kernel_rfl) (by kernel_rfl) (fun _ _ _ h => h) (Or.inl ⟨by kernel_rfl, ?_⟩) (by assumption) ?_
          · rintro W' ⟨s0, s1, s2⟩
            go_simp
          intro inv2
          clear inv
          have inv := inv2
          clear inv2
          simp only [Act.put, List.setIfInBounds_toArray]
          refine wpAnyT_chain (fuel := 1) rfl (by kernel_rfl) ?_
          simp only [List.drop_succ_cons, List.drop_zero]
          clear hS inv c0 c1x c2x
          have a0 := BN11.out.cell 0
          have az0 := BN11.out.frozen 0
          have a1 := BN11.out.cell 1
          have az1 := BN11.out.frozen 1
          have a2 := BN11.out.cell 2
          have az2 := BN11.out.frozen 2
          have al := BN11.out.lt
          simp at a0 a1 a2
          replace RL := Lib.hid (owns_setA (owns_setA (owns_setA RL.out (fun g h e => AN11RL g h e) 0 (.slice (some ⟨b1, o1, none⟩) r.at_.length cap)) (fun g h e => AN11RL g h e) 1 (.slice v3a v3n v3c)) (fun g h e => AN11RL g h e) 2 (.slice v4a v4n v4c))
          replace RH := Lib.hid (owns_setA (owns_setA (owns_setA RH.out (fun g h e => AN11RH g h e) 0 (.slice (some ⟨b1, o1, none⟩) r.at_.length cap)) (fun g h e => AN11RH g h e) 1 (.slice v3a v3n v3c)) (fun g h e => AN11RH g h e) 2 (.slice v4a v4n v4c))
          replace BL := Lib.hid (((BL.out.setCell (p := ⟨V1.heap.size, 0, none⟩) SN11 (.slice (some ⟨b1, o1, none⟩) r.at_.length cap)).setCell (p := ⟨V1.heap.size, 1, none⟩) SN11 (.slice v3a v3n v3c)).setCell (p := ⟨V1.heap.size, 2, none⟩) SN11 (.slice v4a v4n v4c))
          have hU := (((BN11.out.set (j := 0) (.slice (some ⟨b1, o1, none⟩) r.at_.length cap)).set (j := 1) (.slice v3a v3n v3c)).set (j := 2) (.slice v4a v4n v4c))
          simp only [List.setIfInBounds_toArray, List.set_cons_zero, List.set_cons_succ] at hU
          replace BN11 := Lib.hid hU
          clear hU  
          have hRL := RL.out
          have hRH := RH.out
          rw [Nat.zero_add, List.nil_append] at hRL hRH
          have HRL2 := Lib.hid hRL
          have HRH2 := Lib.hid hRH
          clear hRL hRH
          go_wp2_with fail
          go_meet
          exact ⟨_, _, _, rfl, HRL2.out, HRH2.out, AP_RH_RL, BN11.out, SN11, BL.out⟩
        refine AllReadyT.cons rfl (fun K hK => ?_) AllReadyT.nil
        go_simp
        have hbA := below1 V0 (.cells #[.slice none 0 0, .slice none 0 0, .slice none 0 0] 53)
        have BN11 := Lib.hid (Blk.new V0 (.cells #[.slice none 0 0, .slice none 0 0, .slice none 0 0] 53))
        have SN11 : w11x.heap.size ≤ V0.heap.size := BL.out.size
        have AN11RL := fun g (h : Value.ownBlock (.slice none 0 0) = some g) (e : g = V0.heap.size) => show False by have := owns_block RL.out h; omega
        have AN11RH := fun g (h : Value.ownBlock (.slice none 0 0) = some g) (e : g = V0.heap.size) => show False by have := owns_block RH.out h; omega
        generalize V0.alloc (.cells #[.slice none 0 0, .slice none 0 0, .slice none 0 0] 53) = V15 at *
        replace RL := Lib.hid (owns_below RL.out hbA)
        replace RH := Lib.hid (owns_below RH.out hbA)
        replace BL := Lib.hid (bC BL.out hbA)
        clear hbA
        clear c0
        have c0 : V15.cell? ⟨w.heap.size, 0, none⟩ = some (.slice (some ⟨b1, o1, none⟩) r.at_.length cap) := cellB Zc0 BL.out
        clear c1x
        have c1x : V15.cell? ⟨w.heap.size, 1, none⟩ = some (.slice (some ⟨b2, o2, none⟩) r.low.length cap2) := cellB Zc1 BL.out
        clear c2x
        have c2x : V15.cell? ⟨w.heap.size, 2, none⟩ = some (.slice (some ⟨b3, o3, none⟩) r.high.length cap3) := cellB Zc2 BL.out
        refine hK.out _ _ (fun _ => ⟨c0, c1x, c2x⟩) (fun _ => ?_)
        clear hK K
        try simp only [Act.put]
        refine wpAnyT_ready [2] (by kernel_rfl) (by simp) ?_
        refine AllReadyT.cons rfl (fun K hK => ?_) AllReadyT.nil
        go_simp
        refine (ranges_below (.slice none 0 0) _).mono ?_
        rintro e V16 ⟨rfl, hbC⟩
        replace RL := Lib.hid (owns_below RL.out hbC)
        replace RH := Lib.hid (owns_below RH.out hbC)
        replace BN11 := Lib.hid (BN11.out.below hbC)
        replace BL := Lib.hid (bC BL.out hbC)
        clear hbC
        clear c0
        have c0 : V16.cell? ⟨w.heap.size, 0, none⟩ = some (.slice (some ⟨b1, o1, none⟩) r.at_.length cap) := cellB Zc0 BL.out
        clear c1x
        have c1x : V16.cell? ⟨w.heap.size, 1, none⟩ = some (.slice (some ⟨b2, o2, none⟩) r.low.length cap2) := cellB Zc1 BL.out
        clear c2x
        have c2x : V16.cell? ⟨w.heap.size, 2, none⟩ = some (.slice (some ⟨b3, o3, none⟩) r.high.length cap3) := cellB Zc2 BL.out
        refine hK.out _ _ (fun _ => ⟨c0, c1x, c2x⟩) (fun _ => ?_)
        clear hK K
        try simp only [Act.put]
        refine wpAnyT_ready [5] (by kernel_rfl) (by simp) ?_
        refine AllReadyT.cons rfl (fun K hK => ?_) AllReadyT.nil
        refine Eq.mpr (if_pos ?_) ?_
        · rfl
        have HZ11 := BN11.out.lt
        have hsz := BL.out.size
        have HNN := Lib.hid (pairs_news (HLO2.out.below BL.out))
        refine wp_append_at _ _ _ 23 rfl w11x.heap.size 69 ir (.agg #[.int .i64 0, .int .i64 0]) 2 16 undR IR.out K0.out K1.out K2.out rfl (by decide) _ _ _ rfl RL.out ⟨b2, o2, none⟩ r.low.length cap2 (pairCells r.low) rfl (by first | rfl | simp | (simp [pairCells_length]; done)) HNN.out (by intro u hu; exact pairCells_one hu) (by unfold maxLen; omega) (by omega) (by omega) ?_
        intro v3 V17 own gr att
        replace BN11 : Hid (Blk V17 (V0.heap.size) (.cells #[.slice none 0 0, .slice none 0 0, .slice none 0 0] 53)) := Lib.hid ((gr.block _ BN11.out.lt (fun h => AN11RL _ h.symm rfl)).trans BN11.out)
        have AORH := AP_RH_RL
        replace AP_RH_RL := apart_grown RH.out AP_RH_RL att
        replace RH := Lib.hid (owns_apart RH.out AORH gr)
        have hk11 : V0.heap.size < V16.heap.size := HZ11
        replace AN11RL : ∀ g, Value.ownBlock v3 = some g → g = V0.heap.size → False := by
          intro g h e
          rcases att with e1 | e1
          · exact AN11RL g (e1.symm.trans h) e
          · have h6 := Option.some.inj (h.symm.trans e1)
            omega
        clear hk11 HZ11
        replace BL := Lib.hid (below_owns RL.out gr BL.out hsz)
        replace RL := Lib.hid own
        clear own gr att HNN hsz AORH
        obtain ⟨v3a, v3n, v3c, rfl⟩ := (Row.of_owns RL.out).slice
        clear c0
        have c0 : V17.cell? ⟨w.heap.size, 0, none⟩ = some (.slice (some ⟨b1, o1, none⟩) r.at_.length cap) := cellB Zc0 BL.out
        clear c1x
        have c1x : V17.cell? ⟨w.heap.size, 1, none⟩ = some (.slice (some ⟨b2, o2, none⟩) r.low.length cap2) := cellB Zc1 BL.out
        clear c2x
        have c2x : V17.cell? ⟨w.heap.size, 2, none⟩ = some (.slice (some ⟨b3, o3, none⟩) r.high.length cap3) := cellB Zc2 BL.out
        refine hK.out _ _ (fun _ => ⟨c0, c1x, c2x⟩) (fun _ => ?_)
        clear hK K
        try simp only [Act.put]
        refine wpAnyT_ready [6] (by kernel_rfl) (by simp) ?_
        refine AllReadyT.cons rfl (fun K hK => ?_) AllReadyT.nil
        go_simp
        refine (ranges_below (.slice none 0 0) _).mono ?_
        rintro e V18 ⟨rfl, hbC⟩
        replace RL := Lib.hid (owns_below RL.out hbC)
        replace RH := Lib.hid (owns_below RH.out hbC)
        replace BN11 := Lib.hid (BN11.out.below hbC)
        replace BL := Lib.hid (bC BL.out hbC)
        clear hbC
        clear c0
        have c0 : V18.cell? ⟨w.heap.size, 0, none⟩ = some (.slice (some ⟨b1, o1, none⟩) r.at_.length cap) := cellB Zc0 BL.out
        clear c1x
        have c1x : V18.cell? ⟨w.heap.size, 1, none⟩ = some (.slice (some ⟨b2, o2, none⟩) r.low.length cap2) := cellB Zc1 BL.out
        clear c2x
        have c2x : V18.cell? ⟨w.heap.size, 2, none⟩ = some (.slice (some ⟨b3, o3, none⟩) r.high.length cap3) := cellB Zc2 BL.out
        refine hK.out _ _ (fun _ => ⟨c0, c1x, c2x⟩) (fun _ => ?_)
        clear hK K
        try simp only [Act.put]
        refine wpAnyT_ready [9] (by kernel_rfl) (by simp) ?_
        refine AllReadyT.cons rfl (fun K hK => ?_) AllReadyT.nil
        refine Eq.mpr (if_pos ?_) ?_
        · rfl
        have HZ11 := BN11.out.lt
        have hsz := BL.out.size
        have HNN := Lib.hid (pairs_news (HHI2.out.below BL.out))
        refine wp_append_at _ _ _ 23 rfl w11x.heap.size 69 ir (.agg #[.int .i64 0, .int .i64 0]) 2 16 undR IR.out K0.out K1.out K2.out rfl (by decide) _ _ _ rfl RH.out ⟨b3, o3, none⟩ r.high.length cap3 (pairCells r.high) rfl (by first | rfl | simp | (simp [pairCells_length]; done)) HNN.out (by intro u hu; exact pairCells_one hu) (by unfold maxLen; omega) (by omega) (by omega) ?_
        intro v4 V19 own gr att
        replace BN11 : Hid (Blk V19 (V0.heap.size) (.cells #[.slice none 0 0, .slice none 0 0, .slice none 0 0] 53)) := Lib.hid ((gr.block _ BN11.out.lt (fun h => AN11RH _ h.symm rfl)).trans BN11.out)
        have AORL := AP_RH_RL.symm
        replace AP_RH_RL := (apart_grown RL.out AP_RH_RL.symm att).symm
        replace RL := Lib.hid (owns_apart RL.out AORL gr)
        have hk11 : V0.heap.size < V18.heap.size := HZ11
        replace AN11RH : ∀ g, Value.ownBlock v4 = some g → g = V0.heap.size → False := by
          intro g h e
          rcases att with e1 | e1
          · exact AN11RH g (e1.symm.trans h) e
          · have h6 := Option.some.inj (h.symm.trans e1)
            omega
        clear hk11 HZ11
        replace BL := Lib.hid (below_owns RH.out gr BL.out hsz)
        replace RH := Lib.hid own
        clear own gr att HNN hsz AORL
        obtain ⟨v4a, v4n, v4c, rfl⟩ := (Row.of_owns RH.out).slice
        clear c0
        have c0 : V19.cell? ⟨w.heap.size, 0, none⟩ = some (.slice (some ⟨b1, o1, none⟩) r.at_.length cap) := cellB Zc0 BL.out
        clear c1x
        have c1x : V19.cell? ⟨w.heap.size, 1, none⟩ = some (.slice (some ⟨b2, o2, none⟩) r.low.length cap2) := cellB Zc1 BL.out
        clear c2x
        have c2x : V19.cell? ⟨w.heap.size, 2, none⟩ = some (.slice (some ⟨b3, o3, none⟩) r.high.length cap3) := cellB Zc2 BL.out
        refine hK.out _ _ (fun _ => ⟨c0, c1x, c2x⟩) (fun _ => ?_)
        clear hK K
        try simp only [Act.put]
        replace inv := HeadM.step inv 11 (by kernel_rfl) (by omega)
        replace inv := HeadM.step inv 2 (by kernel_rfl) (by omega)
        replace inv := HeadM.step inv 5 (by kernel_rfl) (by omega)
        replace inv := HeadM.step inv 6 (by kernel_rfl) (by omega)
        replace inv := HeadM.step inv 9 (by kernel_rfl) (by omega)
        clear hS
        have hS : V19.cell? ⟨w.heap.size, 0, none⟩ = some (.slice (some ⟨b1, o1, none⟩) r.at_.length cap) ∧ V19.cell? ⟨w.heap.size, 1, none⟩ = some (.slice (some ⟨b2, o2, none⟩) r.low.length cap2) ∧ V19.cell? ⟨w.heap.size, 2, none⟩ = some (.slice (some ⟨b3, o3, none⟩) r.high.length cap3) := ⟨c0, c1x, c2x⟩
        refine wpAnyT_take inv (by kernel_rfl) (by omega) (i := 10) (v := .agg #[.slice (some ⟨b1, o1, none⟩) r.at_.length cap, .slice v3a v3n v3c, .slice v4a v4n v4c]) rfl (by kernel_rfl) (by kernel_rfl) (fun _ _ _ h => h) (Or.inl ⟨by kernel_rfl, ?_⟩) (by assumption) ?_
        · rintro W' ⟨s0, s1, s2⟩
          go_simp
        intro inv2
        clear inv
        have inv := inv2
        clear inv2
        simp only [Act.put, List.setIfInBounds_toArray]
        refine wpAnyT_chain (fuel := 1) rfl (by kernel_rfl) ?_
        simp only [List.drop_succ_cons, List.drop_zero]
        clear hS inv c0 c1x c2x
        have a0 := BN11.out.cell 0
        have az0 := BN11.out.frozen 0
        have a1 := BN11.out.cell 1
        have az1 := BN11.out.frozen 1
        have a2 := BN11.out.cell 2
        have az2 := BN11.out.frozen 2
        have al := BN11.out.lt
        simp at a0 a1 a2
        replace RL := Lib.hid (owns_setA (owns_setA (owns_setA RL.out (fun g h e => AN11RL g h e) 0 (.slice (some ⟨b1, o1, none⟩) r.at_.length cap)) (fun g h e => AN11RL g h e) 1 (.slice v3a v3n v3c)) (fun g h e => AN11RL g h e) 2 (.slice v4a v4n v4c))
        replace RH := Lib.hid (owns_setA (owns_setA (owns_setA RH.out (fun g h e => AN11RH g h e) 0 (.slice (some ⟨b1, o1, none⟩) r.at_.length cap)) (fun g h e => AN11RH g h e) 1 (.slice v3a v3n v3c)) (fun g h e => AN11RH g h e) 2 (.slice v4a v4n v4c))
        replace BL := Lib.hid (((BL.out.setCell (p := ⟨V0.heap.size, 0, none⟩) SN11 (.slice (some ⟨b1, o1, none⟩) r.at_.length cap)).setCell (p := ⟨V0.heap.size, 1, none⟩) SN11 (.slice v3a v3n v3c)).setCell (p := ⟨V0.heap.size, 2, none⟩) SN11 (.slice v4a v4n v4c))
        have hU := (((BN11.out.set (j := 0) (.slice (some ⟨b1, o1, none⟩) r.at_.length cap)).set (j := 1) (.slice v3a v3n v3c)).set (j := 2) (.slice v4a v4n v4c))
        simp only [List.setIfInBounds_toArray, List.set_cons_zero, List.set_cons_succ] at hU
        replace BN11 := Lib.hid hU
        clear hU  
        have hRL := RL.out
        have hRH := RH.out
        rw [Nat.zero_add, List.nil_append] at hRL hRH
        have HRL2 := Lib.hid hRL
        have HRH2 := Lib.hid hRH
        clear hRL hRH
        go_wp2_with fail
        go_meet
        exact ⟨_, _, _, rfl, HRL2.out, HRH2.out, AP_RH_RL, BN11.out, SN11, BL.out⟩
      obtain ⟨C, vl, vh, rfl, hrl, hrh, hap, hx, hC, hW⟩ := hcut
      rename World => wr
      clear RL RH AP_RH_RL
      obtain ⟨gl, capl, curl, rfl, hgl, hbl, hsl, htl⟩ := row_blk hrl (by have := HLL.out; omega)
      obtain ⟨gh, caph, curh, rfl, hgh, hbh, hsh, hth⟩ := row_blk hrh (by have := HLL.out; omega)
      have hne : gh ≠ gl := fun e => hap gh rfl (by rw [e]; rfl)
      have NXL := Lib.hid (ne_types hx hbl (by decide))
      have NXH := Lib.hid (ne_types hx hbh (by decide))
      have HNE := Lib.hid hne
      have GL := Lib.hid hbl
      have GH := Lib.hid hbh
      have X := Lib.hid hx
      have BL := Lib.hid hW
      have HTL := Lib.hid (And.intro htl hth)
      have HG := Lib.hid (And.intro hgl hgh)
      have HSZ := Lib.hid (And.intro hsl hsh)
      have hI := HI.out
      have hl1 : iN < r.low.length := by have := HLL.out; omega
      have hl2 : iN < r.high.length := by have := HLL.out; omega
      have hte : (trueD r ns).edges.length = r.at_.length := upto_len _ _
      obtain ⟨b2', o2', e2, hc2, hc3⟩ := (PairsAt.at HLO2.out).2 iN hl1
      obtain ⟨b3', o3', e3, hc4, hc5⟩ := (PairsAt.at HHI2.out).2 iN hl2
      simp only [Option.some.injEq, Addr.mk.injEq, and_true] at e2 e3
      obtain ⟨rfl, rfl⟩ := e2
      obtain ⟨rfl, rfl⟩ := e3
      have hI6 : iN < (trueD r ns).edges.length := by rw [hte]; exact hI
      obtain ⟨b6, o6, rfl, hc6, hc7⟩ := (PairsAt.at HUE11.out).2 iN (by rw [hte]; exact hI)
      have hteg : ∀ hh, (trueD r ns).edges[iN]'hh = trueF r ns iN := fun hh => by
        have := upto_get (trueF r ns) r.at_.length hI (0, 0)
        rw [List.getD_eq_getElem?_getD, List.getElem?_eq_getElem (by rw [upto_len]; exact hI)] at this
        exact this
      rw [hteg] at hc6 hc7
      obtain ⟨T1, hT1⟩ : ∃ z, (trueF r ns iN).1 = z := ⟨_, rfl⟩
      obtain ⟨T2, hT2⟩ : ∃ z, (trueF r ns iN).2 = z := ⟨_, rfl⟩
      obtain ⟨lb, hlb⟩ : ∃ z, r.low[iN].2 = z := ⟨_, rfl⟩
      obtain ⟨ha, hha⟩ : ∃ z, r.high[iN].1 = z := ⟨_, rfl⟩
      rw [hT1] at hc6
      rw [hT2] at hc7
      rw [hlb] at hc3
      rw [hha] at hc4
      have HSH := Lib.hid (show sharpR r ns iN = ⟨r.at_, r.low.set iN (T1, lb), r.high.set iN (ha, T2)⟩ by
        have xe1 : lowD r iN = r.low[iN] := by simp [lowD, hl1]
        have xe2 : highD r iN = r.high[iN] := by simp [highD, hl2]
        simp only [sharpR, xe1, xe2, hT1, hT2, hlb, hha])
      have hz : ((r.at_.length : Int) == 0) = false := by rw [beq_eq_false_iff_ne]; omega
      have hz' : ¬ (r.at_.length : Int) = 0 := by omega
      have g2 := G2.out
      have rw1 : IntKind.i64.wrap wh = wh := IntWalk.i64_in _ (by omega)
      have rw2 : IntKind.i64.wrap (iN : Int) = (iN : Int) := IntWalk.i64_in _ (by have := HLL.out; omega)
      have hiN := HIN.out
      have m0 := cellB Zc0 hW
      have m1 := cellB Zc1 hW
      have m2 := cellB Zc2 hW
      clear hT1 hT2 hlb hha hteg hte hbl hbh hx hW hap hrl hrh hne htl hth hsl hsh hgl hgh
      go_wp2_with fail
      clear m0 m1 m2 hz hz' rw1 rw2 hiN g2
      have Lc0 := HL11.out.cell 0
      have Lc1 := HL11.out.cell 1
      simp at Lc0 Lc1
      have Ll := HL11.out.lt
      have hsz8 := HSZ.out
      have d0 : wr.cell? ⟨C, 1, none⟩ = some (.slice (some ⟨gl, 0, none⟩) r.low.length capl) := by rw [X.out.cell]; rfl
      have d1x : wr.cell? ⟨C, 2, none⟩ = some (.slice (some ⟨gh, 0, none⟩) r.high.length caph) := by rw [X.out.cell]; rfl
      have d2x : wr.cell? ⟨w2x.heap.size, 1, none⟩ = some (.slice (some ⟨b6, o6, none⟩) (trueD r ns).edges.length cap6) := cellB Lc1 BL.out
      have d3x : wr.cell? ⟨b6, o6 + iN * 2, none⟩ = some (.int .i64 (T1)) := cellB hc6 BL.out
      have d4x : wr.cell? ⟨b6, o6 + iN * 2 + 1, none⟩ = some (.int .i64 (T2)) := cellB hc7 BL.out
      have d5x : wr.cell? ⟨w.heap.size, 1, none⟩ = some (.slice (some ⟨b2, o2, none⟩) r.low.length cap2) := cellB Zc1 BL.out
      have d6x : wr.cell? ⟨w.heap.size, 2, none⟩ = some (.slice (some ⟨b3, o3, none⟩) r.high.length cap3) := cellB Zc2 BL.out
      have d7x : wr.cell? ⟨b2, o2 + iN * 2 + 1, none⟩ = some (.int .i64 (lb)) := cellB hc3 BL.out
      have d8x : wr.cell? ⟨b3, o3 + iN * 2, none⟩ = some (.int .i64 (ha)) := cellB hc4 BL.out
      refine wp_region_T 34 (fun W' => W'.cell? ⟨C, 1, none⟩ = some (.slice (some ⟨gl, 0, none⟩) r.low.length capl) ∧ W'.cell? ⟨C, 2, none⟩ = some (.slice (some ⟨gh, 0, none⟩) r.high.length caph) ∧ W'.cell? ⟨w2x.heap.size, 1, none⟩ = some (.slice (some ⟨b6, o6, none⟩) (trueD r ns).edges.length cap6) ∧ W'.cell? ⟨b6, o6 + iN * 2, none⟩ = some (.int .i64 (T1)) ∧ W'.cell? ⟨b6, o6 + iN * 2 + 1, none⟩ = some (.int .i64 (T2)) ∧ W'.cell? ⟨w.heap.size, 1, none⟩ = some (.slice (some ⟨b2, o2, none⟩) r.low.length cap2) ∧ W'.cell? ⟨w.heap.size, 2, none⟩ = some (.slice (some ⟨b3, o3, none⟩) r.high.length cap3) ∧ W'.cell? ⟨b2, o2 + iN * 2 + 1, none⟩ = some (.int .i64 (lb)) ∧ W'.cell? ⟨b3, o3 + iN * 2, none⟩ = some (.int .i64 (ha))) (by kernel_rfl) (by kernel_rfl) ⟨d0, d1x, d2x, d3x, d4x, d5x, d6x, d7x, d8x⟩ ?_
      intro inv hS
      have hbD : Below wr.heap.size wr wr.drew := (Below.refl _ _).drew
      generalize wr.drew = U0 at *
      replace GL := Lib.hid (GL.out.below hbD)
      replace GH := Lib.hid (GH.out.below hbD)
      replace X := Lib.hid (X.out.below hbD)
      replace BL := Lib.hid (bC BL.out hbD)
      clear hbD
      clear d0
      have d0 : U0.cell? ⟨C, 1, none⟩ = some (.slice (some ⟨gl, 0, none⟩) r.low.length capl) := by rw [X.out.cell]; rfl
      clear d1x
      have d1x : U0.cell? ⟨C, 2, none⟩ = some (.slice (some ⟨gh, 0, none⟩) r.high.length caph) := by rw [X.out.cell]; rfl
      clear d2x
      have d2x : U0.cell? ⟨w2x.heap.size, 1, none⟩ = some (.slice (some ⟨b6, o6, none⟩) (trueD r ns).edges.length cap6) := cellB Lc1 BL.out
      clear d3x
      have d3x : U0.cell? ⟨b6, o6 + iN * 2, none⟩ = some (.int .i64 (T1)) := cellB hc6 BL.out
      clear d4x
      have d4x : U0.cell? ⟨b6, o6 + iN * 2 + 1, none⟩ = some (.int .i64 (T2)) := cellB hc7 BL.out
      clear d5x
      have d5x : U0.cell? ⟨w.heap.size, 1, none⟩ = some (.slice (some ⟨b2, o2, none⟩) r.low.length cap2) := cellB Zc1 BL.out
      clear d6x
      have d6x : U0.cell? ⟨w.heap.size, 2, none⟩ = some (.slice (some ⟨b3, o3, none⟩) r.high.length cap3) := cellB Zc2 BL.out
      clear d7x
      have d7x : U0.cell? ⟨b2, o2 + iN * 2 + 1, none⟩ = some (.int .i64 (lb)) := cellB hc3 BL.out
      clear d8x
      have d8x : U0.cell? ⟨b3, o3 + iN * 2, none⟩ = some (.int .i64 (ha)) := cellB hc4 BL.out
      refine wpAnyT_take inv (by kernel_rfl) (by omega) (i := 0) (v := .pointer (some ⟨C, 1, none⟩)) rfl (by kernel_rfl) (by kernel_rfl) (fun _ _ _ h => h) (Or.inl ⟨by kernel_rfl, ?_⟩) (by assumption) ?_
      · rintro W' ⟨s0, s1, s2, s3, s4, s5, s6, s7, s8⟩
        go_simp
      intro inv2
      clear inv
      have inv := inv2
      clear inv2
      simp only [Act.put, List.setIfInBounds_toArray]
      refine wpAnyT_take inv (by kernel_rfl) (by omega) (i := 1) (v := .slice (some ⟨gl, 0, none⟩) r.low.length capl) rfl (by kernel_rfl) (by kernel_rfl) (fun _ _ _ h => h) (Or.inl ⟨by kernel_rfl, ?_⟩) (by assumption) ?_
      · rintro W' ⟨s0, s1, s2, s3, s4, s5, s6, s7, s8⟩
        go_simp
      intro inv2
      clear inv
      have inv := inv2
      clear inv2
      simp only [Act.put]
      refine wpAnyT_take inv (by kernel_rfl) (by omega) (i := 2) (v := .int .i64 (iN : Int)) rfl (by kernel_rfl) (by kernel_rfl) (fun _ _ _ h => h) (Or.inl ⟨by kernel_rfl, ?_⟩) (by assumption) ?_
      · rintro W' ⟨s0, s1, s2, s3, s4, s5, s6, s7, s8⟩
        go_simp
      intro inv2
      clear inv
      have inv := inv2
      clear inv2
      simp only [Act.put]
      refine wpAnyT_take inv (by kernel_rfl) (by omega) (i := 3) (v := .pointer (some ⟨C, 2, none⟩)) rfl (by kernel_rfl) (by kernel_rfl) (fun _ _ _ h => h) (Or.inl ⟨by kernel_rfl, ?_⟩) (by assumption) ?_
      · rintro W' ⟨s0, s1, s2, s3, s4, s5, s6, s7, s8⟩
        go_simp
      intro inv2
      clear inv
      have inv := inv2
      clear inv2
      simp only [Act.put]
      refine wpAnyT_take inv (by kernel_rfl) (by omega) (i := 4) (v := .slice (some ⟨gh, 0, none⟩) r.high.length caph) rfl (by kernel_rfl) (by kernel_rfl) (fun _ _ _ h => h) (Or.inl ⟨by kernel_rfl, ?_⟩) (by assumption) ?_
      · rintro W' ⟨s0, s1, s2, s3, s4, s5, s6, s7, s8⟩
        go_simp
      intro inv2
      clear inv
      have inv := inv2
      clear inv2
      simp only [Act.put]
      refine wpAnyT_take inv (by kernel_rfl) (by omega) (i := 5) (v := .int .i64 (iN : Int)) rfl (by kernel_rfl) (by kernel_rfl) (fun _ _ _ h => h) (Or.inl ⟨by kernel_rfl, ?_⟩) (by assumption) ?_
      · rintro W' ⟨s0, s1, s2, s3, s4, s5, s6, s7, s8⟩
        go_simp
      intro inv2
      clear inv
      have inv := inv2
      clear inv2
      simp only [Act.put]
      refine wpAnyT_take inv (by kernel_rfl) (by omega) (i := 6) (v := .pointer (some ⟨w2x.heap.size, 1, none⟩)) rfl (by kernel_rfl) (by kernel_rfl) (fun _ _ _ h => h) (Or.inl ⟨by kernel_rfl, ?_⟩) (by assumption) ?_
      · rintro W' ⟨s0, s1, s2, s3, s4, s5, s6, s7, s8⟩
        go_simp
      intro inv2
      clear inv
      have inv := inv2
      clear inv2
      simp only [Act.put]
      refine wpAnyT_take inv (by kernel_rfl) (by omega) (i := 7) (v := .slice (some ⟨b6, o6, none⟩) (trueD r ns).edges.length cap6) rfl (by kernel_rfl) (by kernel_rfl) (fun _ _ _ h => h) (Or.inl ⟨by kernel_rfl, ?_⟩) (by assumption) ?_
      · rintro W' ⟨s0, s1, s2, s3, s4, s5, s6, s7, s8⟩
        go_simp
      intro inv2
      clear inv
      have inv := inv2
      clear inv2
      simp only [Act.put]
      refine wpAnyT_take inv (by kernel_rfl) (by omega) (i := 8) (v := .int .i64 (iN : Int)) rfl (by kernel_rfl) (by kernel_rfl) (fun _ _ _ h => h) (Or.inl ⟨by kernel_rfl, ?_⟩) (by assumption) ?_
      · rintro W' ⟨s0, s1, s2, s3, s4, s5, s6, s7, s8⟩
        go_simp
      intro inv2
      clear inv
      have inv := inv2
      clear inv2
      simp only [Act.put]
      refine wpAnyT_take inv (by kernel_rfl) (by omega) (i := 9) (v := .pointer (some ⟨b6, o6 + iN * 2, none⟩)) rfl (by kernel_rfl) (by kernel_rfl) (fun _ _ _ h => h) (Or.inl ⟨by kernel_rfl, ?_⟩) (by assumption) ?_
      · rintro W' ⟨s0, s1, s2, s3, s4, s5, s6, s7, s8⟩
        go_simp
      intro inv2
      clear inv
      have inv := inv2
      clear inv2
      simp only [Act.put]
      refine wpAnyT_take inv (by kernel_rfl) (by omega) (i := 10) (v := .pointer (some ⟨b6, o6 + iN * 2, none⟩)) rfl (by kernel_rfl) (by kernel_rfl) (fun _ _ _ h => h) (Or.inl ⟨by kernel_rfl, ?_⟩) (by assumption) ?_
      · rintro W' ⟨s0, s1, s2, s3, s4, s5, s6, s7, s8⟩
        go_simp
      intro inv2
      clear inv
      have inv := inv2
      clear inv2
      simp only [Act.put]
      refine wpAnyT_take inv (by kernel_rfl) (by omega) (i := 11) (v := .int .i64 (T1)) rfl (by kernel_rfl) (by kernel_rfl) (fun _ _ _ h => h) (Or.inl ⟨by kernel_rfl, ?_⟩) (by assumption) ?_
      · rintro W' ⟨s0, s1, s2, s3, s4, s5, s6, s7, s8⟩
        go_simp
      intro inv2
      clear inv
      have inv := inv2
      clear inv2
      simp only [Act.put]
      refine wpAnyT_take inv (by kernel_rfl) (by omega) (i := 12) (v := .pointer (some ⟨w.heap.size, 1, none⟩)) rfl (by kernel_rfl) (by kernel_rfl) (fun _ _ _ h => h) (Or.inl ⟨by kernel_rfl, ?_⟩) (by assumption) ?_
      · rintro W' ⟨s0, s1, s2, s3, s4, s5, s6, s7, s8⟩
        go_simp
      intro inv2
      clear inv
      have inv := inv2
      clear inv2
      simp only [Act.put]
      refine wpAnyT_take inv (by kernel_rfl) (by omega) (i := 13) (v := .slice (some ⟨b2, o2, none⟩) r.low.length cap2) rfl (by kernel_rfl) (by kernel_rfl) (fun _ _ _ h => h) (Or.inl ⟨by kernel_rfl, ?_⟩) (by assumption) ?_
      · rintro W' ⟨s0, s1, s2, s3, s4, s5, s6, s7, s8⟩
        go_simp
      intro inv2
      clear inv
      have inv := inv2
      clear inv2
      simp only [Act.put]
      refine wpAnyT_take inv (by kernel_rfl) (by omega) (i := 14) (v := .int .i64 (iN : Int)) rfl (by kernel_rfl) (by kernel_rfl) (fun _ _ _ h => h) (Or.inl ⟨by kernel_rfl, ?_⟩) (by assumption) ?_
      · rintro W' ⟨s0, s1, s2, s3, s4, s5, s6, s7, s8⟩
        go_simp
      intro inv2
      clear inv
      have inv := inv2
      clear inv2
      simp only [Act.put]
      refine wpAnyT_take inv (by kernel_rfl) (by omega) (i := 15) (v := .pointer (some ⟨b2, o2 + iN * 2, none⟩)) rfl (by kernel_rfl) (by kernel_rfl) (fun _ _ _ h => h) (Or.inl ⟨by kernel_rfl, ?_⟩) (by assumption) ?_
      · rintro W' ⟨s0, s1, s2, s3, s4, s5, s6, s7, s8⟩
        go_simp
      intro inv2
      clear inv
      have inv := inv2
      clear inv2
      simp only [Act.put]
      refine wpAnyT_take inv (by kernel_rfl) (by omega) (i := 16) (v := .pointer (some ⟨b2, o2 + iN * 2 + 1, none⟩)) rfl (by kernel_rfl) (by kernel_rfl) (fun _ _ _ h => h) (Or.inl ⟨by kernel_rfl, ?_⟩) (by assumption) ?_
      · rintro W' ⟨s0, s1, s2, s3, s4, s5, s6, s7, s8⟩
        go_simp
      intro inv2
      clear inv
      have inv := inv2
      clear inv2
      simp only [Act.put]
      refine wpAnyT_take inv (by kernel_rfl) (by omega) (i := 17) (v := .int .i64 (lb)) rfl (by kernel_rfl) (by kernel_rfl) (fun _ _ _ h => h) (Or.inl ⟨by kernel_rfl, ?_⟩) (by assumption) ?_
      · rintro W' ⟨s0, s1, s2, s3, s4, s5, s6, s7, s8⟩
        go_simp
      intro inv2
      clear inv
      have inv := inv2
      clear inv2
      simp only [Act.put]
      refine wpAnyT_take inv (by kernel_rfl) (by omega) (i := 19) (v := .pointer (some ⟨w.heap.size, 2, none⟩)) rfl (by kernel_rfl) (by kernel_rfl) (fun _ _ _ h => h) (Or.inl ⟨by kernel_rfl, ?_⟩) (by assumption) ?_
      · rintro W' ⟨s0, s1, s2, s3, s4, s5, s6, s7, s8⟩
        go_simp
      intro inv2
      clear inv
      have inv := inv2
      clear inv2
      simp only [Act.put]
      refine wpAnyT_take inv (by kernel_rfl) (by omega) (i := 20) (v := .slice (some ⟨b3, o3, none⟩) r.high.length cap3) rfl (by kernel_rfl) (by kernel_rfl) (fun _ _ _ h => h) (Or.inl ⟨by kernel_rfl, ?_⟩) (by assumption) ?_
      · rintro W' ⟨s0, s1, s2, s3, s4, s5, s6, s7, s8⟩
        go_simp
      intro inv2
      clear inv
      have inv := inv2
      clear inv2
      simp only [Act.put]
      refine wpAnyT_take inv (by kernel_rfl) (by omega) (i := 21) (v := .int .i64 (iN : Int)) rfl (by kernel_rfl) (by kernel_rfl) (fun _ _ _ h => h) (Or.inl ⟨by kernel_rfl, ?_⟩) (by assumption) ?_
      · rintro W' ⟨s0, s1, s2, s3, s4, s5, s6, s7, s8⟩
        go_simp
      intro inv2
      clear inv
      have inv := inv2
      clear inv2
      simp only [Act.put]
      refine wpAnyT_take inv (by kernel_rfl) (by omega) (i := 22) (v := .pointer (some ⟨b3, o3 + iN * 2, none⟩)) rfl (by kernel_rfl) (by kernel_rfl) (fun _ _ _ h => h) (Or.inl ⟨by kernel_rfl, ?_⟩) (by assumption) ?_
      · rintro W' ⟨s0, s1, s2, s3, s4, s5, s6, s7, s8⟩
        go_simp
      intro inv2
      clear inv
      have inv := inv2
      clear inv2
      simp only [Act.put]
      refine wpAnyT_take inv (by kernel_rfl) (by omega) (i := 23) (v := .pointer (some ⟨b3, o3 + iN * 2, none⟩)) rfl (by kernel_rfl) (by kernel_rfl) (fun _ _ _ h => h) (Or.inl ⟨by kernel_rfl, ?_⟩) (by assumption) ?_
      · rintro W' ⟨s0, s1, s2, s3, s4, s5, s6, s7, s8⟩
        go_simp
      intro inv2
      clear inv
      have inv := inv2
      clear inv2
      simp only [Act.put]
      refine wpAnyT_take inv (by kernel_rfl) (by omega) (i := 24) (v := .int .i64 (ha)) rfl (by kernel_rfl) (by kernel_rfl) (fun _ _ _ h => h) (Or.inl ⟨by kernel_rfl, ?_⟩) (by assumption) ?_
      · rintro W' ⟨s0, s1, s2, s3, s4, s5, s6, s7, s8⟩
        go_simp
      intro inv2
      clear inv
      have inv := inv2
      clear inv2
      simp only [Act.put]
      refine wpAnyT_take inv (by kernel_rfl) (by omega) (i := 25) (v := .pointer (some ⟨w2x.heap.size, 1, none⟩)) rfl (by kernel_rfl) (by kernel_rfl) (fun _ _ _ h => h) (Or.inl ⟨by kernel_rfl, ?_⟩) (by assumption) ?_
      · rintro W' ⟨s0, s1, s2, s3, s4, s5, s6, s7, s8⟩
        go_simp
      intro inv2
      clear inv
      have inv := inv2
      clear inv2
      simp only [Act.put]
      refine wpAnyT_take inv (by kernel_rfl) (by omega) (i := 26) (v := .slice (some ⟨b6, o6, none⟩) (trueD r ns).edges.length cap6) rfl (by kernel_rfl) (by kernel_rfl) (fun _ _ _ h => h) (Or.inl ⟨by kernel_rfl, ?_⟩) (by assumption) ?_
      · rintro W' ⟨s0, s1, s2, s3, s4, s5, s6, s7, s8⟩
        go_simp
      intro inv2
      clear inv
      have inv := inv2
      clear inv2
      simp only [Act.put]
      refine wpAnyT_take inv (by kernel_rfl) (by omega) (i := 27) (v := .int .i64 (iN : Int)) rfl (by kernel_rfl) (by kernel_rfl) (fun _ _ _ h => h) (Or.inl ⟨by kernel_rfl, ?_⟩) (by assumption) ?_
      · rintro W' ⟨s0, s1, s2, s3, s4, s5, s6, s7, s8⟩
        go_simp
      intro inv2
      clear inv
      have inv := inv2
      clear inv2
      simp only [Act.put]
      refine wpAnyT_take inv (by kernel_rfl) (by omega) (i := 28) (v := .pointer (some ⟨b6, o6 + iN * 2, none⟩)) rfl (by kernel_rfl) (by kernel_rfl) (fun _ _ _ h => h) (Or.inl ⟨by kernel_rfl, ?_⟩) (by assumption) ?_
      · rintro W' ⟨s0, s1, s2, s3, s4, s5, s6, s7, s8⟩
        go_simp
      intro inv2
      clear inv
      have inv := inv2
      clear inv2
      simp only [Act.put]
      refine wpAnyT_take inv (by kernel_rfl) (by omega) (i := 29) (v := .pointer (some ⟨b6, o6 + iN * 2 + 1, none⟩)) rfl (by kernel_rfl) (by kernel_rfl) (fun _ _ _ h => h) (Or.inl ⟨by kernel_rfl, ?_⟩) (by assumption) ?_
      · rintro W' ⟨s0, s1, s2, s3, s4, s5, s6, s7, s8⟩
        go_simp
      intro inv2
      clear inv
      have inv := inv2
      clear inv2
      simp only [Act.put]
      refine wpAnyT_take inv (by kernel_rfl) (by omega) (i := 30) (v := .int .i64 (T2)) rfl (by kernel_rfl) (by kernel_rfl) (fun _ _ _ h => h) (Or.inl ⟨by kernel_rfl, ?_⟩) (by assumption) ?_
      · rintro W' ⟨s0, s1, s2, s3, s4, s5, s6, s7, s8⟩
        go_simp
      intro inv2
      clear inv
      have inv := inv2
      clear inv2
      simp only [Act.put]
      refine wpAnyT_ready [18] (by kernel_rfl) (by simp) ?_
      refine AllReadyT.cons rfl (fun K hK => ?_) AllReadyT.nil
      go_simp
      refine (to_any T1 lb _).mono ?_
      rintro e U1 ⟨rfl, hbC⟩
      replace GL := Lib.hid (GL.out.below hbC)
      replace GH := Lib.hid (GH.out.below hbC)
      replace X := Lib.hid (X.out.below hbC)
      replace BL := Lib.hid (bC BL.out hbC)
      clear hbC
      clear d0
      have d0 : U1.cell? ⟨C, 1, none⟩ = some (.slice (some ⟨gl, 0, none⟩) r.low.length capl) := by rw [X.out.cell]; rfl
      clear d1x
      have d1x : U1.cell? ⟨C, 2, none⟩ = some (.slice (some ⟨gh, 0, none⟩) r.high.length caph) := by rw [X.out.cell]; rfl
      clear d2x
      have d2x : U1.cell? ⟨w2x.heap.size, 1, none⟩ = some (.slice (some ⟨b6, o6, none⟩) (trueD r ns).edges.length cap6) := cellB Lc1 BL.out
      clear d3x
      have d3x : U1.cell? ⟨b6, o6 + iN * 2, none⟩ = some (.int .i64 (T1)) := cellB hc6 BL.out
      clear d4x
      have d4x : U1.cell? ⟨b6, o6 + iN * 2 + 1, none⟩ = some (.int .i64 (T2)) := cellB hc7 BL.out
      clear d5x
      have d5x : U1.cell? ⟨w.heap.size, 1, none⟩ = some (.slice (some ⟨b2, o2, none⟩) r.low.length cap2) := cellB Zc1 BL.out
      clear d6x
      have d6x : U1.cell? ⟨w.heap.size, 2, none⟩ = some (.slice (some ⟨b3, o3, none⟩) r.high.length cap3) := cellB Zc2 BL.out
      clear d7x
      have d7x : U1.cell? ⟨b2, o2 + iN * 2 + 1, none⟩ = some (.int .i64 (lb)) := cellB hc3 BL.out
      clear d8x
      have d8x : U1.cell? ⟨b3, o3 + iN * 2, none⟩ = some (.int .i64 (ha)) := cellB hc4 BL.out
      refine hK.out _ _ (fun _ => ⟨d0, d1x, d2x, d3x, d4x, d5x, d6x, d7x, d8x⟩) (fun _ => ?_)
      clear hK K
      try simp only [Act.put]
      refine wpAnyT_ready [31] (by kernel_rfl) (by simp) ?_
      refine AllReadyT.cons rfl (fun K hK => ?_) AllReadyT.nil
      go_simp
      refine (to_any ha T2 _).mono ?_
      rintro e U2 ⟨rfl, hbC⟩
      replace GL := Lib.hid (GL.out.below hbC)
      replace GH := Lib.hid (GH.out.below hbC)
      replace X := Lib.hid (X.out.below hbC)
      replace BL := Lib.hid (bC BL.out hbC)
      clear hbC
      clear d0
      have d0 : U2.cell? ⟨C, 1, none⟩ = some (.slice (some ⟨gl, 0, none⟩) r.low.length capl) := by rw [X.out.cell]; rfl
      clear d1x
      have d1x : U2.cell? ⟨C, 2, none⟩ = some (.slice (some ⟨gh, 0, none⟩) r.high.length caph) := by rw [X.out.cell]; rfl
      clear d2x
      have d2x : U2.cell? ⟨w2x.heap.size, 1, none⟩ = some (.slice (some ⟨b6, o6, none⟩) (trueD r ns).edges.length cap6) := cellB Lc1 BL.out
      clear d3x
      have d3x : U2.cell? ⟨b6, o6 + iN * 2, none⟩ = some (.int .i64 (T1)) := cellB hc6 BL.out
      clear d4x
      have d4x : U2.cell? ⟨b6, o6 + iN * 2 + 1, none⟩ = some (.int .i64 (T2)) := cellB hc7 BL.out
      clear d5x
      have d5x : U2.cell? ⟨w.heap.size, 1, none⟩ = some (.slice (some ⟨b2, o2, none⟩) r.low.length cap2) := cellB Zc1 BL.out
      clear d6x
      have d6x : U2.cell? ⟨w.heap.size, 2, none⟩ = some (.slice (some ⟨b3, o3, none⟩) r.high.length cap3) := cellB Zc2 BL.out
      clear d7x
      have d7x : U2.cell? ⟨b2, o2 + iN * 2 + 1, none⟩ = some (.int .i64 (lb)) := cellB hc3 BL.out
      clear d8x
      have d8x : U2.cell? ⟨b3, o3 + iN * 2, none⟩ = some (.int .i64 (ha)) := cellB hc4 BL.out
      refine hK.out _ _ (fun _ => ⟨d0, d1x, d2x, d3x, d4x, d5x, d6x, d7x, d8x⟩) (fun _ => ?_)
      clear hK K
      try simp only [Act.put]
      replace inv := HeadM.step inv 18 (by kernel_rfl) (by omega)
      replace inv := HeadM.step inv 31 (by kernel_rfl) (by omega)
      clear hS
      have hS : U2.cell? ⟨C, 1, none⟩ = some (.slice (some ⟨gl, 0, none⟩) r.low.length capl) ∧ U2.cell? ⟨C, 2, none⟩ = some (.slice (some ⟨gh, 0, none⟩) r.high.length caph) ∧ U2.cell? ⟨w2x.heap.size, 1, none⟩ = some (.slice (some ⟨b6, o6, none⟩) (trueD r ns).edges.length cap6) ∧ U2.cell? ⟨b6, o6 + iN * 2, none⟩ = some (.int .i64 (T1)) ∧ U2.cell? ⟨b6, o6 + iN * 2 + 1, none⟩ = some (.int .i64 (T2)) ∧ U2.cell? ⟨w.heap.size, 1, none⟩ = some (.slice (some ⟨b2, o2, none⟩) r.low.length cap2) ∧ U2.cell? ⟨w.heap.size, 2, none⟩ = some (.slice (some ⟨b3, o3, none⟩) r.high.length cap3) ∧ U2.cell? ⟨b2, o2 + iN * 2 + 1, none⟩ = some (.int .i64 (lb)) ∧ U2.cell? ⟨b3, o3 + iN * 2, none⟩ = some (.int .i64 (ha)) := ⟨d0, d1x, d2x, d3x, d4x, d5x, d6x, d7x, d8x⟩
      refine wpAnyT_take inv (by kernel_rfl) (by omega) (i := 32) (v := .pointer (some ⟨gl, iN * 2, none⟩)) rfl (by kernel_rfl) (by kernel_rfl) (fun _ _ _ h => h) (Or.inl ⟨by kernel_rfl, ?_⟩) (by assumption) ?_
      · rintro W' ⟨s0, s1, s2, s3, s4, s5, s6, s7, s8⟩
        go_simp
      intro inv2
      clear inv
      have inv := inv2
      clear inv2
      simp only [Act.put, List.setIfInBounds_toArray]
      refine wpAnyT_ready [33] (by kernel_rfl) (by simp) ?_
      refine AllReadyT.cons rfl (fun K hK => ?_) AllReadyT.nil
      obtain ⟨y0, hy0⟩ := arr_get (cur := curl) (q := iN * 2) (by have := HSZ.out; omega)
      obtain ⟨y1, hy1⟩ := arr_get (cur := curl) (q := iN * 2 + 1) (by have := HSZ.out; omega)
      have a0 := GL.out.cell (iN * 2)
      have a1 := GL.out.cell (iN * 2 + 1)
      rw [hy0] at a0
      rw [hy1] at a1
      have az0 := GL.out.frozen (iN * 2)
      have az1 := GL.out.frozen (iN * 2 + 1)
      have al := GL.out.lt
      clear hy0 hy1
      go_simp
      clear a0 a1 az0 az1 al
      replace GL := Lib.hid ((GL.out.set (j := iN * 2) (.int .i64 (T1))).set (j := iN * 2 + 1) (.int .i64 (lb)))
      replace GH := Lib.hid ((GH.out.other HNE.out (j := iN * 2) (.int .i64 (T1))).other HNE.out (j := iN * 2 + 1) (.int .i64 (lb)))
      replace X := Lib.hid ((X.out.other NXL.out (j := iN * 2) (.int .i64 (T1))).other NXL.out (j := iN * 2 + 1) (.int .i64 (lb)))
      replace BL := Lib.hid ((BL.out.setCell (p := ⟨gl, iN * 2, none⟩) HG.out.1 (.int .i64 (T1))).setCell (p := ⟨gl, iN * 2 + 1, none⟩) HG.out.1 (.int .i64 (lb)))
      generalize (U2.setCell ⟨gl, iN * 2, none⟩ (.int .i64 (T1))).setCell ⟨gl, iN * 2 + 1, none⟩ (.int .i64 (lb)) = U3 at *
      clear d0
      have d0 : U3.cell? ⟨C, 1, none⟩ = some (.slice (some ⟨gl, 0, none⟩) r.low.length capl) := by rw [X.out.cell]; rfl
      clear d1x
      have d1x : U3.cell? ⟨C, 2, none⟩ = some (.slice (some ⟨gh, 0, none⟩) r.high.length caph) := by rw [X.out.cell]; rfl
      clear d2x
      have d2x : U3.cell? ⟨w2x.heap.size, 1, none⟩ = some (.slice (some ⟨b6, o6, none⟩) (trueD r ns).edges.length cap6) := cellB Lc1 BL.out
      clear d3x
      have d3x : U3.cell? ⟨b6, o6 + iN * 2, none⟩ = some (.int .i64 (T1)) := cellB hc6 BL.out
      clear d4x
      have d4x : U3.cell? ⟨b6, o6 + iN * 2 + 1, none⟩ = some (.int .i64 (T2)) := cellB hc7 BL.out
      clear d5x
      have d5x : U3.cell? ⟨w.heap.size, 1, none⟩ = some (.slice (some ⟨b2, o2, none⟩) r.low.length cap2) := cellB Zc1 BL.out
      clear d6x
      have d6x : U3.cell? ⟨w.heap.size, 2, none⟩ = some (.slice (some ⟨b3, o3, none⟩) r.high.length cap3) := cellB Zc2 BL.out
      clear d7x
      have d7x : U3.cell? ⟨b2, o2 + iN * 2 + 1, none⟩ = some (.int .i64 (lb)) := cellB hc3 BL.out
      clear d8x
      have d8x : U3.cell? ⟨b3, o3 + iN * 2, none⟩ = some (.int .i64 (ha)) := cellB hc4 BL.out
      refine hK.out _ _ (fun _ => ⟨d0, d1x, d2x, d3x, d4x, d5x, d6x, d7x, d8x⟩) (fun _ => ?_)
      clear hK K
      try simp only [Act.put]
      refine wpAnyT_chain (fuel := 2) rfl (by kernel_rfl) ?_
      simp only [List.drop_succ_cons, List.drop_zero]
      clear hS inv d0 d1x d2x d3x d4x d5x d6x d7x d8x
      obtain ⟨y0, hy0⟩ := arr_get (cur := curh) (q := iN * 2) (by have := HSZ.out; omega)
      obtain ⟨y1, hy1⟩ := arr_get (cur := curh) (q := iN * 2 + 1) (by have := HSZ.out; omega)
      have a0 := GH.out.cell (iN * 2)
      have a1 := GH.out.cell (iN * 2 + 1)
      rw [hy0] at a0
      rw [hy1] at a1
      have az0 := GH.out.frozen (iN * 2)
      have az1 := GH.out.frozen (iN * 2 + 1)
      have al := GH.out.lt
      clear hy0 hy1
      have x0 := X.out.cell 0
      have x1 := X.out.cell 1
      have x2 := X.out.cell 2
      simp at x0 x1 x2
      have xl := X.out.lt
      have hxn : (C = gh) = False := by simp; exact NXH.out
      have hxn' : (gh = C) = False := by simp; exact fun e => NXH.out e.symm
      replace GH := Lib.hid ((GH.out.set (j := iN * 2) (.int .i64 (ha))).set (j := iN * 2 + 1) (.int .i64 (T2)))
      replace GL := Lib.hid ((GL.out.other (fun e => HNE.out e.symm) (j := iN * 2) (.int .i64 (ha))).other (fun e => HNE.out e.symm) (j := iN * 2 + 1) (.int .i64 (T2)))
      replace X := Lib.hid ((X.out.other NXH.out (j := iN * 2) (.int .i64 (ha))).other NXH.out (j := iN * 2 + 1) (.int .i64 (T2)))
      replace BL := Lib.hid ((BL.out.setCell (p := ⟨gh, iN * 2, none⟩) HG.out.2 (.int .i64 (ha))).setCell (p := ⟨gh, iN * 2 + 1, none⟩) HG.out.2 (.int .i64 (T2)))
      go_wp2_with fail
      clear a0 a1 az0 az1 al x0 x1 x2 xl hxn hxn'
      generalize (U3.setCell ⟨gh, iN * 2, none⟩ (.int .i64 (ha))).setCell ⟨gh, iN * 2 + 1, none⟩ (.int .i64 (T2)) = wf at *
      have HB0 := Lib.hid (bC HB11.out BL.out)
      have HBLo0 := Lib.hid (HBLo11.out.below BL.out)
      have HBHi0 := Lib.hid (HBHi11.out.below BL.out)
      have HRS := Lib.hid (show RoughAt wf (.agg #[.slice (some ⟨b1, o1, none⟩) r.at_.length cap, .slice (some ⟨gl, 0, none⟩) r.low.length capl, .slice (some ⟨gh, 0, none⟩) r.high.length caph]) (sharpR r ns iN) from by
        rw [HSH.out]
        exact ⟨_, _, _, rfl, HAT.out.below HB0.out, pairs_set GL.out HSZ.out.1 HTL.out.1 (by have := HI.out; omega), pairs_set GH.out HSZ.out.2 HTL.out.2 (by have := HI.out; omega)⟩)
      clear BL GL GH X hl1 hl2 hI6 hsz8 hc2 hc3 hc4 hc5 hc6 hc7 NXL NXH HNE HSZ HTL HG HSH
      clear hI Zc0 Zc1 Zc2 Zl Lc0 Lc1 Ll hC
      refine (HSQ.out _ _ HRS.out).mono ?_
      rintro e w1y ⟨rfl, hb⟩
      have HB1 := Lib.hid (bC HB0.out hb)
      have HBLo1 := Lib.hid (HBLo0.out.below hb)
      have HBHi1 := Lib.hid (HBHi0.out.below hb)
      clear hb HB0 HBLo0 HBHi0
      go_wp2_with fail
      have hA3 := (Blk.new w1y (.cells #[.int .i64 n3, .int .i64 d3] 31)).alloc (.cells #[.int .i64 n4, .int .i64 d4] 31)
      have hA4 := Blk.new (w1y.alloc (.cells #[.int .i64 n3, .int .i64 d3] 31)) (.cells #[.int .i64 n4, .int .i64 d4] 31)
      rw [World.size_alloc] at hA4
      have hA := below2 w1y (.cells #[.int .i64 n3, .int .i64 d3] 31) (.cells #[.int .i64 n4, .int .i64 d4] 31)
      generalize (w1y.alloc (.cells #[.int .i64 n3, .int .i64 d3] 31)).alloc (.cells #[.int .i64 n4, .int .i64 d4] 31) = W1y at *
      have HA32 := Lib.hid hA3
      have HA42 := Lib.hid hA4
      clear hA3 hA4
      have HB2 := Lib.hid (bC HB1.out hA)
      have HBLo2 := Lib.hid (HBLo1.out.below hA)
      have HBHi2 := Lib.hid (HBHi1.out.below hA)
      clear hA HB1 HBLo1 HBHi1
      refine (HM3.out _).mono ?_
      rintro e w3y ⟨rfl, hb⟩
      have HB3 := Lib.hid (bC HB2.out hb)
      have HBLo3 := Lib.hid (HBLo2.out.below hb)
      have HBHi3 := Lib.hid (HBHi2.out.below hb)
      have HA33 := Lib.hid (HA32.out.below hb)
      have HA43 := Lib.hid (HA42.out.below hb)
      clear hb HB2 HBLo2 HBHi2 HA32 HA42
      have A4c0 := HA43.out.cell 0
      have A4c1 := HA43.out.cell 1
      simp at A4c0 A4c1
      have A4l := HA43.out.lt
      go_wp2_with fail
      clear A4c0 A4c1 A4l
      refine (HM4.out _).mono ?_
      rintro e w4y ⟨rfl, hb⟩
      have HB4 := Lib.hid (bC HB3.out hb)
      have HBLo4 := Lib.hid (HBLo3.out.below hb)
      have HBHi4 := Lib.hid (HBHi3.out.below hb)
      have HA34 := Lib.hid (HA33.out.below hb)
      have HA44 := Lib.hid (HA43.out.below hb)
      clear hb HB3 HBLo3 HBHi3 HA33 HA43
      have A3c0 := HA34.out.cell 0
      have A3c1 := HA34.out.cell 1
      have BLoc0 := HBLo4.out.cell 0
      have BLoc1 := HBLo4.out.cell 1
      simp at A3c0 A3c1 BLoc0 BLoc1
      have A3l := HA34.out.lt
      have BLol := HBLo4.out.lt
      go_wp2_with fail
      clear A3c0 A3c1 BLoc0 BLoc1 A3l BLol
      refine (HR3.out _).mono ?_
      rintro e w5y ⟨rfl, hb⟩
      have HB5 := Lib.hid (bC HB4.out hb)
      have HBLo5 := Lib.hid (HBLo4.out.below hb)
      have HBHi5 := Lib.hid (HBHi4.out.below hb)
      have HA35 := Lib.hid (HA34.out.below hb)
      have HA45 := Lib.hid (HA44.out.below hb)
      clear hb HB4 HBLo4 HBHi4 HA34 HA44
      have BHic0 := HBHi5.out.cell 0
      have BHic1 := HBHi5.out.cell 1
      have A4c0 := HA45.out.cell 0
      have A4c1 := HA45.out.cell 1
      simp at BHic0 BHic1 A4c0 A4c1
      have BHil := HBHi5.out.lt
      have A4l := HA45.out.lt
      go_wp2_with fail
      clear BHic0 BHic1 A4c0 A4c1 BHil A4l
      refine (HR4.out _).mono ?_
      rintro e w6y ⟨rfl, hb⟩
      have HB6 := Lib.hid (bC HB5.out hb)
      have HBLo6 := Lib.hid (HBLo5.out.below hb)
      have HBHi6 := Lib.hid (HBHi5.out.below hb)
      have HA36 := Lib.hid (HA35.out.below hb)
      have HA46 := Lib.hid (HA45.out.below hb)
      clear hb HB5 HBLo5 HBHi5 HA35 HA45
      go_wp2_with fail
      refine (Works_any _ (HN.out.below HB6.out)).mono ?_
      rintro e wz ⟨rfl, hb⟩
      have HBF := Lib.hid (bC HB6.out hb)
      go_wp2_with fail
      go_ret
      exact ⟨rfl, HBF.out⟩
    · have t20 : decide ((20 : Int) < (ns.length : Int)) = true := by simp; omega
      clear h20
      go_enter Tryd.func15, Tryd.ntmps15
      go_wp2_with fail
      refine (HS.out _ (HV.out.below HB0.out)).mono ?_
      rintro e w1x ⟨rfl, hb⟩
      have HB1 := Lib.hid (bC HB0.out hb)
      have HZ1 := Lib.hid (HZ0.out.below hb)
      clear hb HB0 HZ0
      go_wp2_with fail
      refine (Works_any _ (HN.out.below HB1.out)).mono ?_
      rintro e w2x ⟨rfl, hb⟩
      have HB2 := Lib.hid (bC HB1.out hb)
      have HZ2 := Lib.hid (HZ1.out.below hb)
      clear hb HB1 HZ1
      go_wp2_with fail
      go_ret
      exact ⟨rfl, HB2.out⟩
  · have HS : Hid (∀ W, RoughAt W (.agg #[.slice a1 r.at_.length cap, .slice a2 r.low.length cap2, .slice a3 r.high.length cap3]) r → Calls Tryd.prog 52 #[(.agg #[.slice a1 r.at_.length cap, .slice a2 r.low.length cap2, .slice a3 r.high.length cap3])] W (Gets (.bool false) W)) := Lib.hid (fun W h => by have := sound_any _ r W h; rw [decide_eq_false h0] at this; exact this)
    clear h0
    go_enter Tryd.func15, Tryd.ntmps15
    go_wp2_with fail
    refine (HS.out _ (HV.out.below HB0.out)).mono ?_
    rintro e w1x ⟨rfl, hb⟩
    have HB1 := Lib.hid (bC HB0.out hb)
    have HZ1 := Lib.hid (HZ0.out.below hb)
    clear hb HB0 HZ0
    go_wp2_with fail
    refine (Works_any _ (HN.out.below HB1.out)).mono ?_
    rintro e w2x ⟨rfl, hb⟩
    have HB2 := Lib.hid (bC HB1.out hb)
    have HZ2 := Lib.hid (HZ1.out.below hb)
    clear hb HB1 HZ1
    go_wp2_with fail
    go_ret
    exact ⟨rfl, HB2.out⟩
end Go.Proofs.YtlhldkiggmlegaaDoor
