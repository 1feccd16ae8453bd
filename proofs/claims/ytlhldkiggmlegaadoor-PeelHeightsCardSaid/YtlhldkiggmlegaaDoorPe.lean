import Derived.Test.YtlhldkiggmlegaaDoorPj
import Derived.Test.YtlhldkiggmlegaaDoorNz
namespace Go.Proofs.YtlhldkiggmlegaaDoor
open Go.RowKit Go.Shelf Go.Sort
attribute [local go_sem] Oper.semAt_some

/-! ## The law PeelHeights -/
theorem he_agg (l : LogD) (core x : Int) : ∃ n d n' d' : Int, he l core x = .tuple #[.agg #[.int .i64 n, .int .i64 d], .agg #[.int .i64 n', .int .i64 d'], .int .i64 (heightsE l core x)] := by
  unfold he
  by_cases h : heightsE l core x = 0
  · rw [if_pos h, if_pos h]; exact ⟨_, _, _, _, rfl⟩
  · rw [if_neg h, if_neg h]; exact ⟨_, _, _, _, rfl⟩
set_option maxRecDepth 100000 in
set_option maxHeartbeats 4000000 in
theorem PeelHeights_any (v : Value) (l : LogD) (core x : Int) (w : World) (hN : NoneAt w) (hv : LogAt w v l) :
    Calls Tryd.prog 6 #[v, .int .i64 core, .int .i64 x] w fun e w' => e = .returned (.bool true) ∧ Below w.heap.size w w' := by
  obtain ⟨va, ve, rfl, h1, h2⟩ := hv
  obtain ⟨a, cap, rfl⟩ := h1.slice
  obtain ⟨a', cap', rfl⟩ := h2.slice
  have HV : Hid (LogAt w (.agg #[.slice a l.at_.length cap, .slice a' l.edges.length cap']) l) := Lib.hid ⟨_, _, rfl, h1, h2⟩
  have HN := Lib.hid hN
  have bl := Blk.new w (.cells #[.slice a l.at_.length cap, .slice a' l.edges.length cap'] 25)
  have hB0 := below1 w (.cells #[.slice a l.at_.length cap, .slice a' l.edges.length cap'] 25)
  have HBL := Lib.hid bl
  have HB0 := Lib.hid hB0
  clear bl hB0 h1 h2 hN
  by_cases hg : 12 < l.at_.length ∨ 12 < l.edges.length
  · have HG := Lib.hid hg
    clear hg
    go_enter Tryd.func6, Tryd.ntmps6
    go_wp2_with fail
    refine (great_yes _ l _ (HV.out.below HB0.out) HG.out).mono ?_
    rintro e w1 ⟨rfl, hb1⟩
    have HB1 := Lib.hid (bC HB0.out hb1)
    clear hb1
    go_wp2_with fail
    refine (Works_any _ (HN.out.below HB1.out)).mono ?_
    rintro e w2 ⟨rfl, hb2⟩
    have HB2 := Lib.hid (bC HB1.out hb2)
    clear hb2
    go_wp2
    go_ret
    exact ⟨rfl, HB2.out⟩
  · have hs : l.small := by unfold LogD.small; omega
    have HS := Lib.hid hs
    have HG1 := Lib.hid (show l.at_.length ≤ 12 by omega)
    have HG2 := Lib.hid (show l.edges.length ≤ 12 by omega)
    clear hg hs
    obtain ⟨n, d, n', d', hnd⟩ := he_agg l core x
    have HND := Lib.hid hnd
    clear hnd
    have HC1 := Lib.hid (fun W (h : LogAt W (.agg #[.slice a l.at_.length cap, .slice a' l.edges.length cap']) l) => HND.out ▸ Heights_any _ l core x W h HS.out)
    have HC2 := Lib.hid (fun W (h : LogAt W (.agg #[.slice a l.at_.length cap, .slice a' l.edges.length cap']) l) => HND.out ▸ rHeights_any _ l core x W h HS.out)
    obtain ⟨er, her⟩ : ∃ er, heightsE l core x = er := ⟨_, rfl⟩
    rw [her] at HC1 HC2
    clear her
    go_enter Tryd.func6, Tryd.ntmps6
    go_wp2_with fail
    refine (great_no _ l _ (HV.out.below HB0.out) HG1.out HG2.out).mono ?_
    rintro e w1 ⟨rfl, hb1⟩
    have HB1 := Lib.hid (bC HB0.out hb1)
    have L1 := Lib.hid (HBL.out.below hb1)
    clear hb1
    have l0 := L1.out.cell 0
    have l1 := L1.out.cell 1
    have ll := L1.out.lt
    simp at l0 l1
    go_wp2_with fail
    refine (HC1.out _ (HV.out.below HB1.out)).mono ?_
    rintro e w2 ⟨rfl, hb2⟩
    have HB2 := Lib.hid (bC HB1.out hb2)
    have L2 := Lib.hid (L1.out.below hb2)
    clear hb2 l0 l1 ll
    have l0 := L2.out.cell 0
    have l1 := L2.out.cell 1
    have ll := L2.out.lt
    simp at l0 l1
    go_wp2_with fail
    have na := (Blk.new w2 (.cells #[.int .i64 n, .int .i64 d] 31)).alloc (.cells #[.int .i64 n', .int .i64 d'] 31)
    have nb := Blk.new (w2.alloc (.cells #[.int .i64 n, .int .i64 d] 31)) (.cells #[.int .i64 n', .int .i64 d'] 31)
    have hb3 := below2 w2 (.cells #[.int .i64 n, .int .i64 d] 31) (.cells #[.int .i64 n', .int .i64 d'] 31)
    simp only [World.size_alloc] at nb
    generalize (w2.alloc (.cells #[.int .i64 n, .int .i64 d] 31)).alloc (.cells #[.int .i64 n', .int .i64 d'] 31) = w3 at *
    have HB3 := Lib.hid (bC HB2.out hb3)
    have NA := Lib.hid na
    have NB := Lib.hid nb
    clear hb3 l0 l1 ll na nb
    refine (HC2.out _ (HV.out.below HB3.out)).mono ?_
    rintro e w4 ⟨rfl, hb4⟩
    have HB4 := Lib.hid (bC HB3.out hb4)
    have NA4 := Lib.hid (NA.out.below hb4)
    have NB4 := Lib.hid (NB.out.below hb4)
    clear hb4 NA NB
    have x0 := NA4.out.cell 0
    have x1 := NA4.out.cell 1
    have x2 := NB4.out.cell 0
    have x3 := NB4.out.cell 1
    have xl := NA4.out.lt
    have yl := NB4.out.lt
    simp at x0 x1 x2 x3
    have heq := fun w => pair_eq n d w
    have heq2 := fun w => pair_eq n' d' w
    go_wp2_with fail
    have hb5 := below2 w4 (.cells #[.int .i64 n, .int .i64 d] 31) (.cells #[.int .i64 n', .int .i64 d'] 31)
    have HB5 := Lib.hid (bC HB4.out hb5)
    clear hb5 x0 x1 x2 x3 xl yl heq heq2
    generalize (w4.alloc (.cells #[.int .i64 n, .int .i64 d] 31)).alloc (.cells #[.int .i64 n', .int .i64 d'] 31) = w5 at *
    refine (Works_any _ (HN.out.below HB5.out)).mono ?_
    rintro e w6 ⟨rfl, hb6⟩
    have HB6 := Lib.hid (bC HB5.out hb6)
    clear hb6
    go_wp2
    go_ret
    exact ⟨rfl, HB6.out⟩
end Go.Proofs.YtlhldkiggmlegaaDoor
