import Derived.Test.YtjbeoakikdkdaaaSj
namespace Go.Proofs.Ytjbeoakikdkdaaa
open Go.RowKit Go.Vat Go.Sort Go.Shelf
attribute [local go_sem] Oper.semAt_some

/-! ## A proof of the fewest loads -/
def pickB (y : YardD) (h : Nat) (x : Int × Int) : Bool := decide (need y x.1 x.2 ≠ 0) && decide (U y x.1.toNat + need y x.1 x.2 = U y (h + 1))
def pick (y : YardD) (h : Nat) : Option (Int × Int) := (wins y h).find? (pickB y h)
def prF (y : YardD) : Nat → Nat → List (Int × Int)
  | 0, _ => []
  | _ + 1, 0 => []
  | f + 1, h + 1 => match pick y h with
    | some x => x :: prF y f x.1.toNat
    | none => prF y f h
theorem list42 {l : List Value} (h : l.length = 42) : ∃ u5 u6 u7 u8 u9 u10 u11 u12 u13 u14 u15 u16 u17 u18 u19 u20 u21 u22 u23 u24 u25 u26 u27 u28 u29 u30 u31 u32 u33 u34 u35 u36 u37 u38 u39 u40 u41 u42 u43 u44 u45 u46, l = [u5, u6, u7, u8, u9, u10, u11, u12, u13, u14, u15, u16, u17, u18, u19, u20, u21, u22, u23, u24, u25, u26, u27, u28, u29, u30, u31, u32, u33, u34, u35, u36, u37, u38, u39, u40, u41, u42, u43, u44, u45, u46] := by
  obtain ⟨u5, lu5, rfl, hu5⟩ := list_succ h
  obtain ⟨u6, lu6, rfl, hu6⟩ := list_succ hu5
  obtain ⟨u7, lu7, rfl, hu7⟩ := list_succ hu6
  obtain ⟨u8, lu8, rfl, hu8⟩ := list_succ hu7
  obtain ⟨u9, lu9, rfl, hu9⟩ := list_succ hu8
  obtain ⟨u10, lu10, rfl, hu10⟩ := list_succ hu9
  obtain ⟨u11, lu11, rfl, hu11⟩ := list_succ hu10
  obtain ⟨u12, lu12, rfl, hu12⟩ := list_succ hu11
  obtain ⟨u13, lu13, rfl, hu13⟩ := list_succ hu12
  obtain ⟨u14, lu14, rfl, hu14⟩ := list_succ hu13
  obtain ⟨u15, lu15, rfl, hu15⟩ := list_succ hu14
  obtain ⟨u16, lu16, rfl, hu16⟩ := list_succ hu15
  obtain ⟨u17, lu17, rfl, hu17⟩ := list_succ hu16
  obtain ⟨u18, lu18, rfl, hu18⟩ := list_succ hu17
  obtain ⟨u19, lu19, rfl, hu19⟩ := list_succ hu18
  obtain ⟨u20, lu20, rfl, hu20⟩ := list_succ hu19
  obtain ⟨u21, lu21, rfl, hu21⟩ := list_succ hu20
  obtain ⟨u22, lu22, rfl, hu22⟩ := list_succ hu21
  obtain ⟨u23, lu23, rfl, hu23⟩ := list_succ hu22
  obtain ⟨u24, lu24, rfl, hu24⟩ := list_succ hu23
  obtain ⟨u25, lu25, rfl, hu25⟩ := list_succ hu24
  obtain ⟨u26, lu26, rfl, hu26⟩ := list_succ hu25
  obtain ⟨u27, lu27, rfl, hu27⟩ := list_succ hu26
  obtain ⟨u28, lu28, rfl, hu28⟩ := list_succ hu27
  obtain ⟨u29, lu29, rfl, hu29⟩ := list_succ hu28
  obtain ⟨u30, lu30, rfl, hu30⟩ := list_succ hu29
  obtain ⟨u31, lu31, rfl, hu31⟩ := list_succ hu30
  obtain ⟨u32, lu32, rfl, hu32⟩ := list_succ hu31
  obtain ⟨u33, lu33, rfl, hu33⟩ := list_succ hu32
  obtain ⟨u34, lu34, rfl, hu34⟩ := list_succ hu33
  obtain ⟨u35, lu35, rfl, hu35⟩ := list_succ hu34
  obtain ⟨u36, lu36, rfl, hu36⟩ := list_succ hu35
  obtain ⟨u37, lu37, rfl, hu37⟩ := list_succ hu36
  obtain ⟨u38, lu38, rfl, hu38⟩ := list_succ hu37
  obtain ⟨u39, lu39, rfl, hu39⟩ := list_succ hu38
  obtain ⟨u40, lu40, rfl, hu40⟩ := list_succ hu39
  obtain ⟨u41, lu41, rfl, hu41⟩ := list_succ hu40
  obtain ⟨u42, lu42, rfl, hu42⟩ := list_succ hu41
  obtain ⟨u43, lu43, rfl, hu43⟩ := list_succ hu42
  obtain ⟨u44, lu44, rfl, hu44⟩ := list_succ hu43
  obtain ⟨u45, lu45, rfl, hu45⟩ := list_succ hu44
  obtain ⟨u46, lu46, rfl, hu46⟩ := list_succ hu45
  obtain rfl := List.length_eq_zero_iff.1 hu46
  exact ⟨_, _, _, _, _, _, _, _, _, _, _, _, _, _, _, _, _, _, _, _, _, _, _, _, _, _, _, _, _, _, _, _, _, _, _, _, _, _, _, _, _, _, rfl⟩
theorem prF_some {y : YardD} {f h : Nat} {x : Int × Int} (e : pick y h = some x) : prF y (f + 1) (h + 1) = x :: prF y f x.1.toNat := by simp only [prF, e]
theorem prF_none {y : YardD} {f h : Nat} (e : pick y h = none) : prF y (f + 1) (h + 1) = prF y f h := by simp only [prF, e]
theorem prF_zero (y : YardD) (f : Nat) : prF y f 0 = [] := by cases f <;> rfl
theorem pick_none {y : YardD} {h : Nat} {zs : List (WN y h)} (e : zs.map Subtype.val = wins y h) (hz : ∀ z ∈ zs, pickB y h z.1 = false) : pick y h = none := by
  unfold pick
  rw [List.find?_eq_none, ← e]
  intro x hx
  obtain ⟨z, hz1, rfl⟩ := List.mem_map.1 hx
  rw [hz z hz1]; simp
theorem pick_some {y : YardD} {h : Nat} {p : List (WN y h)} {x : WN y h} (e : (p ++ [x]).map Subtype.val <+: wins y h) (hz : ∀ z ∈ p, pickB y h z.1 = false) (hx : pickB y h x.1 = true) : pick y h = some x.1 := by
  unfold pick
  obtain ⟨t, ht⟩ := e
  have e2 : (wins y h).find? (pickB y h) = ((p ++ [x]).map Subtype.val ++ t).find? (pickB y h) := by rw [ht]
  rw [e2, List.map_append, List.append_assoc, List.find?_append]
  have : (p.map Subtype.val).find? (pickB y h) = none := by
    rw [List.find?_eq_none]
    intro a ha
    obtain ⟨z, hz1, rfl⟩ := List.mem_map.1 ha
    rw [hz z hz1]; simp
  rw [this]
  simp [hx]
theorem WN.bd {y : YardD} {h : Nat} (hy : y.Ok) (x : WN y h) : ∃ a : Nat, x.1 = ((a : Int), (h : Int)) ∧ a ≤ h ∧ x.1.1.toNat = a := by
  obtain ⟨_, h2, l, hl, h3, h4⟩ := wins_iff.1 x.2
  have := hy.log l hl
  exact ⟨x.1.1.toNat, Prod.ext (by simp; omega) h2, by omega, rfl⟩
/-- What lies at a round. -/
structure PR (w : World) (T : Nat) (hh : Nat) (ws : List (Int × Int)) (W : World) : Prop where
  below : Below w.heap.size w W
  bv : Blk W w.heap.size (.cells #[.pointer (some ⟨T, 0, none⟩)] 70)
  bh : Blk W (w.heap.size + 2) (.cells #[.int .i64 hh] 2)
  row : ∃ s, Blk W (w.heap.size + 1) (.cells #[s] 22) ∧ RowG W (w.heap.size + 3) s ws.length 2 (pairCells ws) ∧ (ws = [] → s = .slice none 0 0)
theorem PR.on {w W W' : World} {T hh : Nat} {ws : List (Int × Int)} (h : PR w T hh ws W) (hb : Below W.heap.size W W') : PR w T hh ws W' := by
  obtain ⟨h1, h2, h3, s, h4, h5, h6⟩ := h
  exact ⟨bC h1 hb, h2.below hb, h3.below hb, s, h4.below hb, h5.below hb, h6⟩
theorem PR.keeps {w W W' : World} {B T hh : Nat} {ws : List (Int × Int)} (h : PR w T hh ws W) (hk : KeepsB B W W') (hB : w.heap.size ≤ B) : PR w T hh ws W' := by
  obtain ⟨h1, h2, h3, s, h4, h5, h6⟩ := h
  exact ⟨below_keeps h1 hk (by omega) h1.size, h2.keepsC hk, h3.keepsC hk, s, h4.keepsC hk, ⟨h5.1.keeps hk, h5.2⟩, h6⟩
theorem PR.hour {w W : World} {T hh : Nat} {ws : List (Int × Int)} (h : PR w T hh ws W) (k : Nat) : PR w T k ws (W.setCell ⟨w.heap.size + 2, 0, none⟩ (.int .i64 k)) := by
  obtain ⟨h1, h2, h3, s, h4, h5, h6⟩ := h
  exact ⟨h1.setCell (by simp) _, h2.other (by omega) _, by simpa using h3.set (j := 0) (.int .i64 k), s, h4.other (by omega) _, h5.fr ((FrL.of_below (Below.refl _ _)).set 0 _) (by omega), h6⟩
theorem PR.more {w W : World} {T hh n : Nat} {ws ws' : List (Int × Int)} {s : Value} (h : PR w T hh ws W) (hr : RowG W (w.heap.size + 3) s n 2 (pairCells ws')) (hn : ws'.length = n) (hne : ws' ≠ []) : PR w T hh ws' (W.setCell ⟨w.heap.size + 1, 0, none⟩ s) := by
  subst hn
  obtain ⟨h1, h2, h3, s0, h4, h5, h6⟩ := h
  exact ⟨h1.setCell (by simp) _, h2.other (by omega) _, h3.other (by omega) _, s, by simpa using h4.set (j := 0) s, hr.fr ((FrL.of_below (Below.refl _ _)).set 0 _) (by omega), fun e => absurd e hne⟩
theorem PArr.cells {W : World} {g n c : Nat} {a b : Nat → Int} (h : PArr W g n c a b) : ∃ cs T, Blk W g (.cells cs T) := by
  obtain ⟨cs, T, h1, _⟩ := h
  exact ⟨cs, T, h1⟩
theorem Marks.fr {B g : Nat} {ds : List Deferred} {w w' : World} (h : Marks B ds w) (hf : FrL w g w') (hg : ∃ cs T, Blk w g (.cells cs T)) : Marks B ds w' := by
  obtain ⟨cs, T, hg⟩ := hg
  refine h.stay fun k _ hk => (hf.same k (Array.getElem?_eq_some_iff.1 hk).1 (fun e => ?_)).trans hk
  subst e
  rw [show w.heap[k]? = _ from hg] at hk
  cases hk
set_option maxRecDepth 100000 in
set_option maxHeartbeats 16000000 in
theorem proof_any (n₀ T M : Nat) (y : YardD) (u : Value) (H : Nat → Int) (w : World) (hL : LaidV w T M y n₀ u H) (hy : y.Ok) :
    Calls Try.prog 66 #[.pointer (some ⟨T, 0, none⟩)] w fun e w' => ∃ v, e = .returned v ∧ RowG w' w.heap.size v (prF y 101 101).length 2 (pairCells (prF y 101 101).reverse) ∧ (prF y 101 101 = [] → v = .slice none 0 0) ∧ Below w.heap.size w w' := by
  have HYD := Lib.hid hy
  have HL := Lib.hid hL
  clear hL hy
  refine (callsIn_wide (n := 12)).1 ?_
  refine callsIn_of_wp_marks Try.func66 rfl trivial ?_ rfl
  simp only [Try.ntmps66, List.size_toArray, List.length_cons, List.length_nil, Nat.reduceAdd, Nat.reduceSub, Array.replicate_succ, Array.replicate_zero, List.push_toArray, List.append_toArray, List.nil_append, List.cons_append]
  gi_wp2
  refine wpIn_wide.2 (wp_scope_straight ((wpIn_wide (n := 12)).1 ?_))
  gi_wp2
  refine wpIn_label ?_
  obtain ⟨W1, hW1⟩ : ∃ W1, ((w.alloc (.cells #[.pointer (some ⟨T, 0, none⟩)] 70)).alloc (.cells #[.slice none 0 0] 22)).alloc (.cells #[.int .i64 101] 2) = W1 := ⟨_, rfl⟩
  have HP1 : Hid (PR w T 101 [] W1) := Lib.hid (by
    rw [← hW1]
    have b1 := ((Blk.new w (.cells #[.pointer (some ⟨T, 0, none⟩)] 70)).alloc (.cells #[.slice none 0 0] 22)).alloc (.cells #[.int .i64 101] 2)
    have b2 := (Blk.new (w.alloc (.cells #[.pointer (some ⟨T, 0, none⟩)] 70)) (.cells #[.slice none 0 0] 22)).alloc (.cells #[.int .i64 101] 2)
    have b3 := Blk.new ((w.alloc (.cells #[.pointer (some ⟨T, 0, none⟩)] 70)).alloc (.cells #[.slice none 0 0] 22)) (.cells #[.int .i64 101] 2)
    simp only [World.size_alloc] at b2 b3
    exact ⟨below3 _ _ _ _, b1, b3, _, b2, RowG.nil _ _ _, fun _ => rfl⟩)
  try simp only [World.size_alloc]
  rw [hW1]
  clear hW1
  gi_wp2
  refine wpIn_loop_inv (Inv := fun m a wr => ∃ (h : Nat) (ws tl : _) (ds : List Deferred), h ≤ 101 ∧ h ≤ m ∧ ws ++ prF y m h = prF y 101 101 ∧ tl.length = 42 ∧ a = { tmps := (.pointer (some ⟨T, 0, none⟩) :: .pointer (some ⟨w.heap.size, 0, none⟩) :: .slice none 0 0 :: .pointer (some ⟨w.heap.size + 1, 0, none⟩) :: .pointer (some ⟨w.heap.size + 1 + 1, 0, none⟩) :: tl).toArray, defers := ds } ∧ Marks w.heap.size ds wr ∧ PR w T h ws wr ∧ ws.length + h ≤ 101) ?step (m := 101) ?init
  case init => exact ⟨101, [], _, [], Nat.le_refl _, Nat.le_refl _, rfl, by rfl, rfl, Marks.nil _ _, HP1.out, by simp⟩
  case step =>
    clear HP1
    rintro m a wr ⟨h, ws, tl, ds, hh, hm, hws, htl, rfl, hmk, hst, hwl⟩
    obtain ⟨u5, u6, u7, u8, u9, u10, u11, u12, u13, u14, u15, u16, u17, u18, u19, u20, u21, u22, u23, u24, u25, u26, u27, u28, u29, u30, u31, u32, u33, u34, u35, u36, u37, u38, u39, u40, u41, u42, u43, u44, u45, u46, rfl⟩ := list42 htl
    have HMK := Lib.hid hmk
    have HMM := Lib.hid (And.intro hm hws)
    have HST := Lib.hid hst
    have x1 := hst.bv.cell 0
    have x4 := hst.bh.cell 0
    simp at x1 x4
    have hz2 := hst.bh.lt
    clear htl hmk hm hst hws
    rcases h with _ | k
    · have d1 : decide ((0 : Int) > 0) = false := by decide
      have ec : ((0 : Nat) : Int) = 0 := rfl
      rw [ec] at x4
      clear ec
      have HWS := Lib.hid (show ws = prF y 101 101 by have := HMM.out.2; rw [prF_zero, List.append_nil] at this; exact this)
      obtain ⟨s, hbs, hrow, hsn⟩ := HST.out.row
      obtain ⟨⟨hlen, ⟨rfl, hn⟩ | ⟨g, cap, cur, ty, rfl, hblk, hc1, hc2, hc3, hc4⟩⟩, hge⟩ := hrow
      · have eW := hbs.cell 0
        simp only [List.getElem?_toArray, List.getElem?_cons_zero] at eW
        have hlw := hbs.lt
        clear hbs hge hlen hsn
        gi_wp2_with fail
        refine ⟨trivial, (callsIn_wide.2 (reverseP_nil _)).mono ?_⟩
        rintro e w2 ⟨⟨rv, rfl⟩, rfl⟩
        gi_wp2
        simp only [Exit.noGoto]
        refine leaves_marks HMK.out fun w' hk => ?_
        have hws : ws = [] := List.length_eq_zero_iff.1 hn
        rw [← HWS.out, hws]
        exact ⟨_, results_tmp rfl _ _ _, _, rfl, RowG.nil _ _ _, fun _ => rfl, below_keeps HST.out.below hk (Nat.le_refl _) HST.out.below.size⟩
      · have eW := hbs.cell 0
        simp only [List.getElem?_toArray, List.getElem?_cons_zero] at eW
        have hlw := hbs.lt
        have hg := hge g 0 ws.length cap rfl
        have HNE := Lib.hid (show ws ≠ [] from fun e => by cases hsn e)
        clear hsn
        have HPA := Lib.hid (PArr.of_blk hblk hc3 hc1 hc4)
        have HBS := Lib.hid hbs
        clear hbs hge hlen hblk hc3 hc4
        gi_wp2_with fail
        refine ⟨trivial, (callsIn_wide.2 (reverseP_any g ws.length cap _ _ wr HPA.out (by omega))).mono ?_⟩
        rintro e w2 ⟨⟨rv, rfl⟩, hp2, hf2⟩
        have HP2 := Lib.hid hp2
        have HF2 := Lib.hid hf2
        have HB2 := Lib.hid (HST.out.below.trans (hf2.under HST.out.below.size (by omega)))
        have HMK2 := Lib.hid (HMK.out.fr hf2 HPA.out.cells)
        have eW2 := (HBS.out.fr' hf2 (by omega)).cell 0
        simp only [List.getElem?_toArray, List.getElem?_cons_zero] at eW2
        have hlw2 := (HBS.out.fr' hf2 (by omega)).lt
        clear hp2 hf2 eW HPA
        gi_wp2
        simp only [Exit.noGoto]
        refine leaves_marks HMK2.out fun w' hk => ?_
        rw [← HWS.out]
        have hrw : RowG w2 w.heap.size (.slice (some ⟨g, 0, none⟩) ws.length cap) ws.length 2 (pairCells ws.reverse) := by
          have h1 := PArr.row (l := ws.reverse) (by rw [List.length_reverse]; exact HP2.out) (fun i hi => by
            rw [List.length_reverse] at hi
            rw [List.getElem_reverse]
            simp [List.getD, List.getElem?_eq_getElem (show ws.length - 1 - i < ws.length by omega)]) hc2
          rw [List.length_reverse] at h1
          exact ⟨h1, fun g' o k' c e => by cases e; omega⟩
        have hrk : RowG w' w.heap.size (.slice (some ⟨g, 0, none⟩) ws.length cap) ws.length 2 (pairCells ws.reverse) := ⟨hrw.1.keeps hk, hrw.2⟩
        exact ⟨_, results_tmp rfl _ _ _, .slice (some ⟨g, 0, none⟩) ws.length cap, rfl, hrk, fun e => absurd e HNE.out, below_keeps HB2.out hk (Nat.le_refl _) HB2.out.size⟩
    · have d1 : decide ((k : Int) + 1 > 0) = true := by simp <;> omega
      obtain ⟨m', rfl⟩ : ∃ m', m = m' + 1 := ⟨m - 1, by have := HMM.out.1; omega⟩
      have e1 : IntKind.i64.wrap ((k : Int) + 1 - 1) = (k : Int) := by rw [show (k : Int) + 1 - 1 = (k : Int) by omega]; exact IntWalk.i64_in _ (by omega)
      have ec : ((k + 1 : Nat) : Int) = (k : Int) + 1 := by omega
      rw [ec] at x4
      clear ec
      gi_wp2_with fail
      clear d1 e1
      refine ⟨trivial, (callsIn_wide.2 (windows_any T k _)).mono ?_⟩
      rintro e w7 ⟨rfl, rfl⟩
      have hb7 := below2 wr (.cells #[.pointer (some ⟨T, 0, none⟩)] 70) (.cells #[.int .i64 (k : Int)] 2)
      have HLr := Lib.hid (HL.out.below HST.out.below)
      have hlM := HLr.out.vat.lt
      have hfz := HLr.out.size
      have hfw := HST.out.below.size
      have HSH := Lib.hid (WnAt.new (w := wr) (h := k) HLr.out.vat.hd hfz)
      have HS7 := Lib.hid (HST.out.on hb7)
      have HMK7 := Lib.hid (HMK.out.below hb7)
      have hz7 : wr.heap.size + 2 = ((wr.alloc (.cells #[.pointer (some ⟨T, 0, none⟩)] 70)).alloc (.cells #[.int .i64 (k : Int)] 2)).heap.size := by simp
      generalize (wr.alloc (.cells #[.pointer (some ⟨T, 0, none⟩)] 70)).alloc (.cells #[.int .i64 (k : Int)] 2) = w7 at *
      clear HST HMK hb7 x1 x4 HLr
      gi_wp2_with fail
      generalize hA : Act.mk _ _ = a0
      have eg : ∀ args w, (callFunc 93 args).run Try.prog w = .ok (.enter 93 args) w := fun _ _ => rfl
      have hmlt : ∀ E, ({ target := .collected E, args := #[] } : Deferred) ∈ ds → E < w7.heap.size := fun E hE => HMK7.out.lt hE
      have hseq := windows_stops (12 - 1) (by omega) T M (wr.heap.size + 2) (wr.heap.size + 1) wr.heap.size k y u w7 HSH.out HYD.out
      have hTn : T < wr.heap.size + 2 := by omega
      refine wpIn_rangeFunc_ownH (F := Fence.wide) rfl (by omega) (gf := 93) (lb := #[.pointer (some ⟨wr.heap.size + 1, 0, none⟩), .pointer (some ⟨wr.heap.size, 0, none⟩)]) (by rw [← hA]; rfl) trivial eg
        hseq (fun h k => KT.trans h k) (fun W l o o' hl _ _ _ => KT.put (by omega) hTn) (Below.refl _ _) (fun _ => rfl)
        (fun (pre : List (WN y k)) W => PR w T (k + 1) ws W ∧ (∀ z ∈ pre, pickB y k z.1 = false) ∧ Marks w.heap.size ds W ∧ w7.heap.size ≤ W.heap.size)
        (fun c pre W => c = .exit 1 ∧ (∃ pre' x, pre = pre' ++ [x] ∧ (∀ z ∈ pre', pickB y k z.1 = false) ∧ pickB y k x.1 = true ∧ PR w T x.1.1.toNat (ws ++ [x.1]) W) ∧ Marks w.heap.size ds W ∧ w7.heap.size ≤ W.heap.size)
        (ownFrom_of fun pre W W' ⟨h1, h2, h3, h4⟩ hk => ⟨h1.keeps hk (by omega), h2, h3.keeps hmlt hk, Nat.le_trans h4 hk.size⟩)
        (fun c => ownFrom_of fun pre W W' ⟨h0, ⟨p, x, h1, h2, h3, h4⟩, h5, h6⟩ hk => ⟨h0, ⟨p, x, h1, h2, h3, h4.keeps hk (by omega)⟩, h5.keeps hmlt hk, Nat.le_trans h6 hk.size⟩)
        ⟨HS7.out, fun z hz => (by cases hz), HMK7.out, Nat.le_refl _⟩
        (fun x a' W => ∃ Bx, w7.heap.size ≤ Bx ∧ Blk W Bx (.cells #[.int .i64 x.1.1, .int .i64 x.1.2] 27) ∧ a' = { tmps := (a0.tmps.setIfInBounds 14 (pkV x.1)).setIfInBounds 5 (.pointer (some ⟨Bx, 0, none⟩)), defers := [] })
        (fun x a' => ownFrom_of fun _ W W' h hk => by obtain ⟨Bx, h1, h2, h3⟩ := h; exact ⟨Bx, h1, h2.keepsC hk, h3⟩)
        ?assign ?body ?done ?stop
      case assign =>
        rintro l pre x W K ⟨h1, h2, h3, h4⟩ hK
        subst hA
        unfold wnE pkV
        gi_wp2
        exact hK _ _ ((KeepsOthers.alloc _ _).from _) (KT.of_below (below1 _ _) (by omega) (by omega)) ⟨h1.on (below1 _ _), h2, h3.below (below1 _ _), by simp; omega⟩ ⟨W.heap.size, by omega, Blk.new W _, rfl⟩
      case body =>
        rintro l pre x a' W hl ⟨rr, hrr⟩ ⟨h1, h2, h3, h4⟩ ⟨Bx, hBx, bX, rfl⟩ hlt
        subst hA
        simp only [List.setIfInBounds_toArray, List.set_cons_succ, List.set_cons_zero]
        obtain ⟨a, hxe, hak, hat⟩ := WN.bd HYD.out x
        have HVW := Lib.hid (HL.out.below h1.below)
        have H1 := Lib.hid h1
        have H2 := Lib.hid h2
        have H3 := Lib.hid h3
        have hTW := HVW.out.vat.lt.1
        have hnb := nf_bd HYD.out ((a : Int), (k : Int))
        have hSx : ¬ Sy y ((a : Int), (k : Int)) → nf y ((a : Int), (k : Int)) = 0 := fun h => by
          by_cases q : nf y ((a : Int), (k : Int)) = 0
          · exact q
          · exact absurd ⟨⟨k, by omega, by rw [← hxe]; exact x.2⟩, q⟩ h
        have HSX := Lib.hid hSx
        have hub := U_nonneg y a
        have hul := U_len HYD.out a
        have hl10 := HYD.out.count
        rw [hxe] at bX
        have eX := bX.cell 0
        have eX' := bX.cell 1
        have eV := h1.bv.cell 0
        have eM := HVW.out.vat.mp
        simp at eX eX' eV
        have HBX := Lib.hid bX
        have HXE := Lib.hid (And.intro hxe hat)
        obtain ⟨fv, hfv⟩ : ∃ fv, nf y ((a : Int), (k : Int)) = fv := ⟨_, rfl⟩
        have HFV := Lib.hid hfv
        rw [hfv] at hnb
        have g0 := fun d os => cell_regrown eX d os
        have g1 := fun d os => cell_regrown eX' d os
        have g2 := fun d os => cell_regrown eV d os
        have g3 := fun d os => cell_regrown eM d os
        obtain ⟨ok, v1, hlk, hok⟩ : ∃ (ok : Bool) (v1 : Int), (∀ d os, (Instr.lookup 73 (.map (some M)) (.agg #[.int .i64 a, .int .i64 k]) true).run Try.prog (grow (redrawn W d) os) = .ok (.tuple #[.int .i64 v1, .bool ok]) (grow (redrawn W d) os)) ∧ ok = decide (fv ≠ 0) := by
          by_cases hS : Sy y ((a : Int), (k : Int))
          · exact ⟨true, _, fun d os => (HVW.out.map.below (below_regrown W d os)).look2_yes _ hS, by rw [← hfv]; simpa using hS.2⟩
          · exact ⟨false, _, fun d os => (HVW.out.map.below (below_regrown W d os)).look2_no _ hS, by rw [← hfv]; simpa using hSx hS⟩
        have HOK := Lib.hid hok
        rw [hxe]
        unfold pkV
        clear eX eX' eV eM hfv hSx hxe hat h1 h2 h3 bX hok
        gi_wp2_with fail
        refine wpIn_region_quietR (by kernel_rfl) (by kernel_rfl) ?_
        repeat (quiet_step (fail))
        refine wpQuiet_nil ?_
        intro _ hw'
        obtain ⟨⟨dq, osq⟩, hw''⟩ := hw'
        subst hw''
        have hb9 := below_regrown W dq osq
        have HB9 := Lib.hid hb9
        have H19 := Lib.hid (H1.out.on hb9)
        have H39 := Lib.hid (H3.out.below hb9)
        have HBX9 := Lib.hid (HBX.out.below hb9)
        have HV9 := Lib.hid (HVW.out.below hb9)
        have hz9 := hb9.size
        clear g0 g1 g2 g3 hlk hb9 H1 H3 HBX HVW
        generalize grow (redrawn W dq) osq = W9 at *
        have eX := HBX9.out.cell 0
        have eX' := HBX9.out.cell 1
        have eV := H19.out.bv.cell 0
        have e4 := H19.out.bh.cell 0
        have eU := HV9.out.vat.up (p := k + 1) (by omega)
        have ec : ((k + 1 : Nat) : Int) = (k : Int) + 1 := by omega
        simp only [List.getElem?_toArray, List.getElem?_cons_zero, List.getElem?_cons_succ] at eX eX' eV e4
        rw [ec] at e4
        clear ec
        have hW1 : ∀ (d : Nat) (os : Array Obj), _ := fun d os => Calls.regrown_of (provenWith_any n₀ T M y u (U y) H a (k : Int) (nf y) (Sy y) (grow (redrawn W9 d) os) (HV9.out.vat.below HV9.out.size (below_regrown W9 d os)) (by have := (below_regrown W9 d os).size; have := HV9.out.size; omega) (HV9.out.map.below (below_regrown W9 d os)) HSX.out (by omega) ⟨hub, by omega⟩ (by rw [HFV.out]; exact hnb))
        rw [HFV.out] at hW1
        have hpb : pickB y k x.1 = (ok && decide (U y a + fv = U y (k + 1))) := by
          unfold pickB
          rw [HXE.out.2, HXE.out.1, HOK.out]
          show (decide (nf y ((a : Int), (k : Int)) ≠ 0) && decide (U y a + nf y ((a : Int), (k : Int)) = U y (k + 1))) = _
          rw [HFV.out]
        obtain ⟨s, hs⟩ : ∃ s, U y a + fv = s := ⟨_, rfl⟩
        obtain ⟨ub, hu⟩ : ∃ ub, U y (k + 1) = ub := ⟨_, rfl⟩
        rw [hs] at hW1
        rw [hs, hu] at hpb
        rw [hu] at eU
        have HPB := Lib.hid hpb
        have i2 : (0 : Int) ≤ (k : Int) + 1 := by omega
        have i3 : ((k : Int) + 1).toNat = k + 1 := by omega
        have i4 : (k : Int) + 1 < 102 := by omega
        have g0 := fun d os => cell_regrown eX d os
        have g1 := fun d os => cell_regrown eX' d os
        have g2 := fun d os => cell_regrown eV d os
        have g3 := fun d os => cell_regrown e4 d os
        have g4 := fun d os => cell_regrown eU d os
        clear eX eX' eV e4 eU hs hu hpb
        cases ok with
        | false =>
          clear g0 g1 g2 g3 g4 hW1
          gi_wp2_with fail
          refine wpIn_region_quietR (by kernel_rfl) (by kernel_rfl) ?_
          repeat (with_reducible refine wpQuiet_step (fun K hK => ?_); go_simp; with_reducible refine hK _ ?_; clear hK K)
          refine wpQuiet_nil ?_
          intro _ hw'
          obtain ⟨⟨dq, osq⟩, hw''⟩ := hw'
          subst hw''
          have hb8 := HB9.out.trans ((below_regrown W9 dq osq).mono hz9)
          have H18 := Lib.hid (H19.out.on (below_regrown W9 dq osq))
          have H38 := Lib.hid (H39.out.below (below_regrown W9 dq osq))
          have hz8 := hb8.size
          have HB8 := Lib.hid hb8
          clear hb8 H19 H39 HBX9 HV9 HB9
          generalize grow (redrawn W9 dq) osq = W8 at *
          gi_wp2
          refine ⟨(KeepsOthers.of_below HB8.out).from _, KT.of_below HB8.out (by omega) hTW, H18.out, fun z hz => ?_, H38.out, by omega⟩
          rcases List.mem_append.1 hz with hz | hz
          · exact H2.out z hz
          · rw [List.mem_singleton] at hz
            subst hz
            rw [HPB.out]; rfl
        | true =>
          by_cases q : s = ub
          · have HPT : Hid (pickB y k x.1 = true) := Lib.hid (by rw [HPB.out]; simpa using q)
            subst q
            gi_wp2_with fail
            refine wpIn_region_quietR (by kernel_rfl) (by kernel_rfl) ?_
            repeat (with_reducible refine wpQuiet_step (fun K hK => ?_); go_simp; first | (with_reducible refine hK _ ?_; clear hK K) | (apply Exists.intro; refine ⟨fun _ => ?_, ?_⟩; (go_at_call 83; exact hW1 _ _); with_reducible refine hK _ ?_; clear hK K))
            refine wpQuiet_nil ?_
            intro _ hw'
            obtain ⟨⟨dq, osq⟩, hw''⟩ := hw'
            subst hw''
            have hb8 := HB9.out.trans ((below_regrown W9 dq osq).mono hz9)
            have H18 := Lib.hid (H19.out.on (below_regrown W9 dq osq))
            have H38 := Lib.hid (H39.out.below (below_regrown W9 dq osq))
            have HBX8 := Lib.hid (HBX9.out.below (below_regrown W9 dq osq))
            have hz8 := hb8.size
            have HB8 := Lib.hid hb8
            clear hb8 H19 H39 HBX9 HV9 HB9 g0 g1 g2 g3 g4 hW1
            generalize grow (redrawn W9 dq) osq = W8 at *
            obtain ⟨s', hbs, hrow, hsn⟩ := H18.out.row
            obtain ⟨sa', sn, sc, rfl⟩ := hrow.1.slice
            have HRW := Lib.hid hrow
            have eW := hbs.cell 0
            have eX := HBX8.out.cell 0
            have eX' := HBX8.out.cell 1
            simp only [List.getElem?_toArray, List.getElem?_cons_zero, List.getElem?_cons_succ] at eW eX eX'
            have hlw := hbs.lt
            have hlX := HBX8.out.lt
            clear hrow hbs hsn
            gi_wp2_with fail
            refine ⟨trivial, (CallsIn.inRound l (callsIn_wide.2 (grownEB_any _ ws.length _ (a : Int) (k : Int) W8 HRW.out.1 (by omega)))).mono ?_⟩
            rintro e w10 ⟨v10, rfl, hr10, hb10⟩
            obtain ⟨xa, xn, xc, rfl⟩ := hr10.1.slice
            have H110 := Lib.hid (H18.out.on hb10)
            have H310 := Lib.hid (H38.out.below hb10)
            have HB10 := Lib.hid (HB8.out.trans (hb10.mono hz8))
            have hz10 := hb10.size
            have HR10 := Lib.hid (hr10.mono (B' := w.heap.size + 3) (by have := H18.out.bh.lt; omega))
            obtain ⟨s2, hbs2, hrow2, _⟩ := H110.out.row
            have fW := hbs2.frozen 0
            have eW2 := cellB eW hb10
            have eX2 := cellB eX hb10
            have fH := H110.out.bh.frozen 0
            have eH := H110.out.bh.cell 0
            simp only [List.getElem?_toArray, List.getElem?_cons_zero] at eH
            have hlw2 := hbs2.lt
            have hlh2 := H110.out.bh.lt
            clear hr10 hb10 hbs2 hrow2 eW eX eX'
            gi_wp2
            refine ⟨((((KeepsOthers.of_below HB10.out).trans (KeepsOthers.setCell _ _ _)).trans (KeepsOthers.setCell _ _ _)).from _), rfl, ⟨pre, x, rfl, H2.out, HPT.out, ?_⟩, (H310.out.from ((KeepsOthers.setCell _ _ _).from _)).from ((KeepsOthers.setCell _ _ _).from _), by simp [World.setCell]; omega⟩
            have hr' : RowG w10 (w.heap.size + 3) (.slice xa xn xc) (ws.length + 1) 2 (pairCells (ws ++ [x.1])) := by rw [HXE.out.1, pairCells_snoc]; exact HR10.out
            have := (H110.out.more hr' (by simp) (by simp)).hour x.1.1.toNat
            rw [HXE.out.2] at this ⊢
            exact this
          · have HPT : Hid (pickB y k x.1 = false) := Lib.hid (by rw [HPB.out]; simpa using q)
            have d3 : (s == ub) = false := by simpa using q
            have d4 : decide (s = ub) = false := by simpa using q
            gi_wp2_with fail
            refine wpIn_region_quietR (by kernel_rfl) (by kernel_rfl) ?_
            repeat (with_reducible refine wpQuiet_step (fun K hK => ?_); go_simp; first | (with_reducible refine hK _ ?_; clear hK K) | (apply Exists.intro; refine ⟨fun _ => ?_, ?_⟩; (go_at_call 83; exact hW1 _ _); with_reducible refine hK _ ?_; clear hK K))
            refine wpQuiet_nil ?_
            intro _ hw'
            obtain ⟨⟨dq, osq⟩, hw''⟩ := hw'
            subst hw''
            have hb8 := HB9.out.trans ((below_regrown W9 dq osq).mono hz9)
            have H18 := Lib.hid (H19.out.on (below_regrown W9 dq osq))
            have H38 := Lib.hid (H39.out.below (below_regrown W9 dq osq))
            have HBX8 := Lib.hid (HBX9.out.below (below_regrown W9 dq osq))
            have hz8 := hb8.size
            have HB8 := Lib.hid hb8
            clear hb8 H19 H39 HBX9 HV9 HB9 g0 g1 g2 g3 g4 hW1
            generalize grow (redrawn W9 dq) osq = W8 at *
            gi_wp2
            refine ⟨(KeepsOthers.of_below HB8.out).from _, KT.of_below HB8.out (by omega) hTW, H18.out, fun z hz => ?_, H38.out, by omega⟩
            rcases List.mem_append.1 hz with hz | hz
            · exact H2.out z hz
            · rw [List.mem_singleton] at hz
              subst hz
              exact HPT.out
      case done =>
        rintro D zs W hD hzs ⟨h1, h2, h3, h4⟩ hK
        subst hA
        have hDl := (Array.getElem?_eq_some_iff.1 hK).1
        have HM := Lib.hid (h3.cons (D := D) (by omega) hK (fun E hE e => by have := hmlt E hE; omega))
        have HPN := Lib.hid (pick_none hzs h2)
        have H1 := Lib.hid h1
        have e4 := h1.bh.cell 0
        have f4 := h1.bh.frozen 0
        simp at e4
        have e1 : IntKind.i64.wrap ((k : Int) + 1 - 1) = (k : Int) := by rw [show (k : Int) + 1 - 1 = (k : Int) by omega]; exact IntWalk.i64_in _ (by omega)
        clear h1 h2 h3 hzs hK
        gi_wp2
        exact ⟨m', by omega, k, ws, _, _, by omega, by have := HMM.out.1; omega, by rw [← prF_none HPN.out]; exact HMM.out.2, by rfl, rfl, HM.out.from ((KeepsOthers.setCell _ _ _).from _), H1.out.hour k, by omega⟩
      case stop =>
        rintro D c pre W hD hpre ⟨rfl, ⟨p, x, rfl, h1, h2, h3⟩, h4, h5⟩ hK
        subst hA
        have hDl := (Array.getElem?_eq_some_iff.1 hK).1
        have HM := Lib.hid (h4.cons (D := D) (by omega) hK (fun E hE e => by have := hmlt E hE; omega))
        have HPN := Lib.hid (pick_some hpre h1 h2)
        have H3 := Lib.hid h3
        obtain ⟨a, hxe, hak, hat⟩ := WN.bd HYD.out x
        clear h1 h2 h3 h4 hpre hK
        gi_wp2
        exact ⟨m', by omega, x.1.1.toNat, ws ++ [x.1], _, _, by omega, by have := HMM.out.1; omega, by have := HMM.out.2; rw [prF_some HPN.out] at this; rw [← this]; simp, by rfl, rfl, HM.out, H3.out, by simp; omega⟩
end Go.Proofs.Ytjbeoakikdkdaaa

namespace Go.Proofs.Ytjbeoakikdkdaaa
open Go.RowKit Go.Vat Go.Sort Go.Shelf
attribute [local go_sem] Oper.semAt_some

/-! ## The exported proof -/
def proofL (y : YardD) : List (Int × Int) := (prF y 101 101).reverse
theorem prF_len (y : YardD) : ∀ f h, (prF y f h).length ≤ f
  | 0, _ => by simp [prF]
  | f + 1, 0 => by simp [prF]
  | f + 1, h + 1 => by
    cases e : pick y h with
    | none => rw [prF_none e]; have := prF_len y f h; omega
    | some x => rw [prF_some e]; have := prF_len y f x.1.toNat; simp only [List.length_cons]; omega
theorem proofL_len (y : YardD) : (proofL y).length ≤ 101 := by
  unfold proofL
  rw [List.length_reverse]
  exact prF_len y 101 101
set_option maxRecDepth 100000 in
set_option maxHeartbeats 1000000 in
theorem Proof_err (v : Value) (y : YardD) (w : World) (hv : YardAt w v y) (hl : y.logs.length ≤ 1000000) (he : yardErr y ≠ 0) :
    Calls Try.prog 30 #[v] w fun e w' => e = .returned (.tuple #[.slice none 0 0, .int .i64 (yardErr y)]) ∧ Below w.heap.size w w' := by
  obtain ⟨sv, rfl, hp⟩ := hv
  obtain ⟨sa, cap, rfl⟩ := hp.slice
  have HP := Lib.hid hp
  have HER := Lib.hid he
  obtain ⟨E, hE⟩ : ∃ E, yardErr y = E := ⟨_, rfl⟩
  have d1 : (E != 0) = true := by rw [← hE]; simpa using he
  have HE := Lib.hid hE
  clear hp he hE
  rw [HE.out]
  go_enter Try.func30, Try.ntmps30
  go_wp2_with fail
  refine (lay_err _ y _ ⟨_, rfl, HP.out.below (below1 _ _)⟩ hl HER.out).mono ?_
  rintro e w1 ⟨rfl, hb⟩
  rw [HE.out]
  go_wp2
  go_ret2
  exact ⟨rfl, after1 hb⟩
set_option maxRecDepth 100000 in
set_option maxHeartbeats 4000000 in
theorem Proof_ok (v : Value) (y : YardD) (w : World) (hv : YardAt w v y) (hy : y.Ok) :
    Calls Try.prog 30 #[v] w fun e w' => ∃ v', e = .returned (.tuple #[v', .int .i64 0]) ∧ PairsAt w' v' (proofL y) ∧ Below w.heap.size w w' := by
  obtain ⟨sv, rfl, hp⟩ := hv
  obtain ⟨sa, cap, rfl⟩ := hp.slice
  have hB0 := below1 w (.cells #[.int .i64 y.load, .slice sa y.logs.length cap] 24)
  have HV := Lib.hid (show YardAt (w.alloc (.cells #[.int .i64 y.load, .slice sa y.logs.length cap] 24)) (.agg #[.int .i64 y.load, .slice sa y.logs.length cap]) y from ⟨_, rfl, hp.below hB0⟩)
  have HYD := Lib.hid hy
  have hl10 := hy.count
  have hll := proofL_len y
  obtain ⟨L, hLL⟩ : ∃ L, proofL y = L := ⟨_, rfl⟩
  rw [hLL] at hll ⊢
  have HLL := Lib.hid hLL
  clear hLL
  clear hp hy
  go_enter Try.func30, Try.ntmps30
  go_wp2_with fail
  generalize w.alloc (.cells #[.int .i64 y.load, .slice sa y.logs.length cap] 24) = W0 at *
  refine (lay_ok _ y _ HV.out HYD.out).mono ?_
  rintro e w1 ⟨T, M, n₀, sv, H, rfl, hL, hT, hM, hb1⟩
  have HL := Lib.hid hL
  have HB1 := Lib.hid (bC hB0 hb1)
  clear hL hB0 HV
  go_wp2_with fail
  refine (proof_any n₀ T M y sv H _ HL.out HYD.out).mono ?_
  rintro e w2 ⟨v2, rfl, hr2, hn2, hb2⟩
  have hn3 : L = [] → v2 = .slice none 0 0 := fun e => hn2 (by have h := HLL.out; rw [e] at h; exact List.reverse_eq_nil_iff.1 h)
  clear hn2
  have hr3 : RowG w2 w1.heap.size v2 L.length 2 (pairCells L) := by
    rw [← HLL.out]
    have e1 : (proofL y).length = (prF y 101 101).length := by unfold proofL; rw [List.length_reverse]
    rw [e1]
    exact hr2
  have HB2 := Lib.hid (bC HB1.out hb2)
  have hi2 := hr3.1.pairs
  clear hr2 hb2
  by_cases hnil : L = []
  · obtain rfl := hn3 hnil
    subst hnil
    clear hr3 hi2 hn3
    go_wp2_with fail
    refine (takenE0_any _).mono ?_
    rintro e w3 ⟨v3, rfl, hi3, hb3⟩
    have HE := Lib.hid (And.intro hi3 (bC HB2.out hb3))
    clear hi3 hb3
    go_wp2
    go_ret2
    exact ⟨_, rfl, HE.out.1, HE.out.2⟩
  · obtain ⟨oa, oc, rfl⟩ := hi2.slice
    have HI2 := Lib.hid hi2
    have HNN := Lib.hid hnil
    clear hr3 hi2 hnil hn3
    go_wp2_with fail
    refine (takenE_any _ L _ HI2.out HNN.out (by omega)).mono ?_
    rintro e w3 ⟨g, gc, rfl, hg, hblk, hb3⟩
    have HE := Lib.hid (And.intro (PairsAt.of_blk (cap := gc) hblk) (bC HB2.out hb3))
    clear hblk hb3
    go_wp2
    go_ret2
    exact ⟨_, rfl, HE.out.1, HE.out.2⟩
end Go.Proofs.Ytjbeoakikdkdaaa
