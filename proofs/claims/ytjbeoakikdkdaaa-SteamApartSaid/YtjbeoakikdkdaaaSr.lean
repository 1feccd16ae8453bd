import Derived.Test.YtjbeoakikdkdaaaSk
import Derived.Test.YtjbeoakikdkdaaaSn
namespace Go.Proofs.Ytjbeoakikdkdaaa
open Go.RowKit Go.Vat Go.Sort Go.Shelf
attribute [local go_sem] Oper.semAt_some

/-! ## The logs in the order in which their ranges end: the library's stable sort, for at most 20 elements -/
theorem isNaN_any (x : Int) (w : World) : Calls Try.prog 97 #[.int .i64 x] w fun e w' => e = .returned (.bool false) ∧ w = w' := by
  have d : (x != x) = false := by simp
  go_enter Try.func97, Try.ntmps97
  go_wp2
  go_ret
  exact ⟨rfl, rfl⟩
def cmpI (x z : Int) : Int := if x < z then -1 else if z < x then 1 else 0
theorem cmpI_lt (x z : Int) : decide (cmpI x z < 0) = decide (x < z) := by
  unfold cmpI
  by_cases h : x < z
  · rw [if_pos h]; simp [h]
  · rw [if_neg h]
    split <;> simp [h]
theorem Compare_any (x z : Int) (w : World) : Calls Try.prog 92 #[.int .i64 x, .int .i64 z] w fun e w' => e = .returned (.int .i64 (cmpI x z)) ∧ w = w' := by
  by_cases h1 : x < z
  · have d1 : decide (x < z) = true := by simpa using h1
    have HE := Lib.hid (show -1 = cmpI x z by unfold cmpI; rw [if_pos h1])
    clear h1
    go_enter Try.func92, Try.ntmps92
    go_wp2_with fail
    refine (isNaN_any x _).mono ?_
    rintro e w1 ⟨rfl, rfl⟩
    go_wp2_with fail
    refine (isNaN_any z _).mono ?_
    rintro e w1 ⟨rfl, rfl⟩
    go_wp2
    go_ret
    exact ⟨ret_int HE.out, rfl⟩
  · have d1 : decide (x < z) = false := by simpa using h1
    by_cases h2 : z < x
    · have d2 : decide (x > z) = true := by simp; omega
      have d3 : decide (z < x) = true := by simp; omega
      have HE := Lib.hid (show 1 = cmpI x z by unfold cmpI; rw [if_neg h1, if_pos h2])
      clear h1 h2
      go_enter Try.func92, Try.ntmps92
      go_wp2_with fail
      refine (isNaN_any x _).mono ?_
      rintro e w1 ⟨rfl, rfl⟩
      go_wp2_with fail
      refine (isNaN_any z _).mono ?_
      rintro e w1 ⟨rfl, rfl⟩
      go_wp2
      go_ret
      exact ⟨ret_int HE.out, rfl⟩
    · have d2 : decide (x > z) = false := by simp; omega
      have d3 : decide (z < x) = false := by simp; omega
      have HE := Lib.hid (show 0 = cmpI x z by unfold cmpI; rw [if_neg h1, if_neg h2])
      clear h1 h2
      go_enter Try.func92, Try.ntmps92
      go_wp2_with fail
      refine (isNaN_any x _).mono ?_
      rintro e w1 ⟨rfl, rfl⟩
      go_wp2_with fail
      refine (isNaN_any z _).mono ?_
      rintro e w1 ⟨rfl, rfl⟩
      go_wp2
      go_ret
      exact ⟨ret_int HE.out, rfl⟩
set_option maxRecDepth 100000 in
set_option maxHeartbeats 8000000 in
theorem byCmp_any (bx T pb off m cap i j : Nat) (ki kj : Int) (w : World) (hx : w.cell? ⟨bx, 0, none⟩ = some (.pointer (some ⟨T, 0, none⟩))) (h1 : w.cell? ⟨T, 1, none⟩ = some (.slice (some ⟨pb, off, none⟩) m cap)) (hi : i < m) (hj : j < m) (ci : w.cell? ⟨pb, off + i * 2 + 1, none⟩ = some (.int .i64 ki)) (cj : w.cell? ⟨pb, off + j * 2 + 1, none⟩ = some (.int .i64 kj)) :
    Calls Try.prog 91 #[.int .i64 (i : Int), .int .i64 (j : Int), .pointer (some ⟨bx, 0, none⟩)] w fun e w' => e = .returned (.int .i64 (cmpI ki kj)) ∧ Below w.heap.size w w' := by
  have q1 : (i : Int) < (m : Int) := by omega
  have q2 : (j : Int) < (m : Int) := by omega
  have g0 := fun d os => cell_regrown hx d os
  have g1 := fun d os => cell_regrown h1 d os
  have g2 := fun d os => cell_regrown ci d os
  have g3 := fun d os => cell_regrown cj d os
  go_enter Try.func91, Try.ntmps91
  go_wp2_with fail
  clear hx h1 ci cj
  refine wp_region_tail 18 (by kernel_rfl) (by kernel_rfl) ?_
  repeat (quiet_step (fail))
  refine wpQuiet_nil ?_
  intro _ hw'
  obtain ⟨⟨dq, osq⟩, hw''⟩ := hw'
  subst hw''
  simp only [List.drop_succ_cons, List.drop_zero]
  have hb8 := below_regrown w dq osq
  clear g0 g1 g2 g3
  generalize grow (redrawn w dq) osq = w9 at *
  go_wp2_with fail
  refine (Compare_any ki kj _).mono ?_
  rintro e w2 ⟨rfl, rfl⟩
  go_wp2
  go_ret
  exact ⟨rfl, hb8⟩

/-! ## Two elements change places -/
def sw (i j k : Nat) : Nat := if k = i then j else if k = j then i else k
theorem sw_sw (i j k : Nat) : sw i j (sw i j k) = k := by
  unfold sw
  split <;> split <;> (try split) <;> omega
theorem range_sw {n i j : Nat} (hi : i < n) (hj : j < n) : ((List.range n).map (sw i j)).Perm (List.range n) := by
  have hinj : ∀ a b, sw i j a = sw i j b → a = b := fun a b h => by rw [← sw_sw i j a, h, sw_sw]
  refine (List.perm_ext_iff_of_nodup ?_ List.nodup_range).2 fun a => ?_
  · rw [List.nodup_iff_pairwise_ne, List.pairwise_map]
    exact (List.nodup_iff_pairwise_ne.1 (List.nodup_range (n := n))).imp fun h e => h (hinj _ _ e)
  · rw [List.mem_map]
    constructor
    · rintro ⟨k, hk, rfl⟩
      rw [List.mem_range] at hk ⊢
      unfold sw
      split
      · exact hj
      · split <;> omega
    · intro ha
      rw [List.mem_range] at ha
      refine ⟨sw i j a, ?_, sw_sw i j a⟩
      rw [List.mem_range]
      unfold sw
      split
      · exact hj
      · split <;> omega
theorem swap_perm {n i j : Nat} (f : Nat → Int) (hi : i < n) (hj : j < n) : ((List.range n).map (updF (updF f i (f j)) j (f i))).Perm ((List.range n).map f) := by
  have e : (List.range n).map (updF (updF f i (f j)) j (f i)) = ((List.range n).map (sw i j)).map f := by
    rw [List.map_map]
    refine List.map_congr_left fun k _ => ?_
    simp only [Function.comp, sw, updF]
    by_cases c1 : k = j
    · subst c1
      rw [if_pos rfl]
      by_cases c2 : k = i
      · subst c2; rw [if_pos rfl]
      · rw [if_neg c2, if_pos rfl]
    · rw [if_neg c1]
      by_cases c2 : k = i
      · rw [if_pos c2, if_pos c2]
      · rw [if_neg c2, if_neg c2, if_neg c1]
  rw [e]
  exact (range_sw hi hj).map f

/-! ## A list of numbers with room behind it -/
def IArr (W : World) (g n c : Nat) (f : Nat → Int) : Prop := ∃ cs T, Blk W g (.cells cs T) ∧ cs.size = c ∧ n ≤ c ∧ ∀ i, i < n → cs[i]? = some (.int .i64 (f i))
section
variable {W W' : World} {g n c : Nat} {f : Nat → Int}
theorem IArr.lt (h : IArr W g n c f) : g < W.heap.size := by obtain ⟨cs, T, h1, _⟩ := h; exact h1.lt
theorem IArr.cell (h : IArr W g n c f) {i : Nat} (hi : i < n) : W.cell? ⟨g, i, none⟩ = some (.int .i64 (f i)) := by
  obtain ⟨cs, T, h1, _, _, h3⟩ := h
  rw [h1.cell]
  exact h3 i hi
theorem IArr.frozen (h : IArr W g n c f) (i : Nat) : W.frozen? ⟨g, i, none⟩ = false := by
  obtain ⟨cs, T, h1, _⟩ := h
  exact h1.frozen i
theorem IArr.below (h : IArr W g n c f) (hb : Below W.heap.size W W') : IArr W' g n c f := by
  obtain ⟨cs, T, h1, h2⟩ := h
  exact ⟨cs, T, h1.below hb, h2⟩
theorem IArr.cap (h : IArr W g n c f) : n ≤ c := by obtain ⟨cs, T, _, _, h, _⟩ := h; exact h
theorem IArr.set (h : IArr W g n c f) (i : Nat) (v : Int) : IArr (W.setCell ⟨g, i, none⟩ (.int .i64 v)) g n c (updF f i v) := by
  obtain ⟨cs, T, h1, h2, h3, h4⟩ := h
  refine ⟨_, T, h1.set (.int .i64 v), by simpa using h2, h3, fun j hj => ?_⟩
  rw [Array.getElem?_setIfInBounds]
  unfold updF
  by_cases e : i = j
  · subst e
    rw [if_pos rfl, if_pos (by omega), if_pos rfl]
  · rw [if_neg e, if_neg (fun h => e h.symm)]
    exact h4 j hj
theorem IArr.ints (h : IArr W g n c f) : IntsAt W (.slice (some ⟨g, 0, none⟩) n c) ((List.range n).map f) := by
  refine ⟨some ⟨g, 0, none⟩, c, by simp, fun _ => ⟨g, 0, rfl, fun i hi => ?_⟩⟩
  simp only [List.length_map, List.length_range] at hi
  rw [Nat.zero_add, h.cell hi]
  simp
end
/-- In order up to a place, but for one element that goes back. -/
def Sorted (κ : Int → Int) (f : Nat → Int) (i : Nat) : Prop := ∀ a b, a < b → b < i → κ (f a) ≤ κ (f b)
def Going (κ : Int → Int) (f : Nat → Int) (i j : Nat) : Prop := (∀ a b, a < b → b ≤ i → a ≠ j → b ≠ j → κ (f a) ≤ κ (f b)) ∧ ∀ b, j < b → b ≤ i → κ (f j) ≤ κ (f b)
theorem Going.start {κ : Int → Int} {f : Nat → Int} {i : Nat} (h : Sorted κ f i) : Going κ f i i := ⟨fun a b h1 h2 _ h4 => h a b h1 (by omega), fun b h1 h2 => by omega⟩
theorem Going.stop {κ : Int → Int} {f : Nat → Int} {i j : Nat} (h : Going κ f i j) (hj : j = 0 ∨ κ (f (j - 1)) ≤ κ (f j)) : Sorted κ f (i + 1) := fun a b h1 h2 => by
  by_cases ea : a = j
  · subst ea; exact h.2 b h1 (by omega)
  · by_cases eb : b = j
    · subst eb
      rcases hj with hj | hj
      · omega
      · by_cases e : a = b - 1
        · subst e; exact hj
        · exact Int.le_trans (h.1 a (b - 1) (by omega) (by omega) ea (by omega)) hj
    · exact h.1 a b h1 (by omega) ea eb
theorem Going.step {κ : Int → Int} {f : Nat → Int} {i j : Nat} (h : Going κ f i (j + 1)) (hji : j + 1 ≤ i) (hlt : κ (f (j + 1)) < κ (f j)) : Going κ (updF (updF f (j + 1) (f j)) j (f (j + 1))) i j := by
  have e0 : updF (updF f (j + 1) (f j)) j (f (j + 1)) j = f (j + 1) := updF_same _ _ _
  have e1 : updF (updF f (j + 1) (f j)) j (f (j + 1)) (j + 1) = f j := by rw [updF_other _ (by omega), updF_same]
  have eo : ∀ k, k ≠ j → k ≠ j + 1 → updF (updF f (j + 1) (f j)) j (f (j + 1)) k = f k := fun k h1 h2 => by rw [updF_other _ h1, updF_other _ h2]
  refine ⟨fun a b h1 h2 h3 h4 => ?_, fun b h1 h2 => ?_⟩
  · by_cases ea : a = j + 1
    · subst ea
      rw [e1, eo b h4 (by omega)]
      exact h.1 j b (by omega) h2 (by omega) (by omega)
    · rw [eo a h3 ea]
      by_cases eb : b = j + 1
      · subst eb
        rw [e1]
        exact h.1 a j (by omega) (by omega) ea (by omega)
      · rw [eo b h4 eb]
        exact h.1 a b h1 h2 ea eb
  · rw [e0]
    by_cases eb : b = j + 1
    · subst eb
      rw [e1]
      omega
    · rw [eo b (by omega) eb]
      exact h.2 b (by omega) h2
set_option maxRecDepth 100000 in
set_option maxHeartbeats 16000000 in
theorem isort_any (g n c bx T pb off m cap : Nat) (f : Nat → Int) (κ : Int → Int) (w : World) (hA : IArr w g n c f) (hn : n ≤ 20) (hf : ∀ i, i < n → ∃ k : Nat, f i = (k : Int) ∧ k < m) (hx : w.cell? ⟨bx, 0, none⟩ = some (.pointer (some ⟨T, 0, none⟩))) (h1 : w.cell? ⟨T, 1, none⟩ = some (.slice (some ⟨pb, off, none⟩) m cap)) (hk : ∀ k : Nat, k < m → w.cell? ⟨pb, off + k * 2 + 1, none⟩ = some (.int .i64 (κ (k : Int)))) (hg : bx ≠ g ∧ T ≠ g ∧ pb ≠ g) :
    Calls Try.prog 99 #[.slice (some ⟨g, 0, none⟩) n c, .int .i64 0, .int .i64 (n : Int), .func (.func 91) #[] #[.pointer (some ⟨bx, 0, none⟩)]] w fun e w' => (∃ v, e = .returned v) ∧ (∃ f', IArr w' g n c f' ∧ Sorted κ f' n ∧ ((List.range n).map f').Perm ((List.range n).map f)) ∧ FrL w g w' := by
  have HA := Lib.hid hA
  have HF0 := Lib.hid hf
  have HX := Lib.hid hx
  have H1 := Lib.hid h1
  have HK := Lib.hid hk
  have mixed : Try.prog.follows .mixedOrders = true := by kernel_rfl
  obtain ⟨hg1, hg2, hg3⟩ := hg
  clear hA hf hx h1 hk
  go_enter Try.func99, Try.ntmps99
  go_wp2
  go_loopw [8, 9] (fun s _ wr => ∃ (i : Nat) (f' : Nat → Int), (1 ≤ i ∧ (i ≤ n ∨ i = 1)) ∧ s = .int .i64 (i : Int) ∧ IArr wr g n c f' ∧ Sorted κ f' i ∧ ((List.range n).map f').Perm ((List.range n).map f) ∧ FrL w g wr) (fun s _ _ => n - (intOf s).toNat)
  case atStart => exact ⟨1, f, ⟨by omega, .inr rfl⟩, rfl, HA.out, fun a b h1 h2 => by omega, List.Perm.refl _, FrL.of_below (Below.refl _ _)⟩
  case round =>
    clear HA
    obtain ⟨i, f', hi, rfl, hA, hS, hP, hF⟩ := hrel
    have HA := Lib.hid hA
    have HS := Lib.hid hS
    have HP := Lib.hid hP
    have HF := Lib.hid hF
    clear hA hS hP hF
    by_cases hlt : i < n
    · go_wp2
      go_loopw [9] (fun s w5 => ∃ (j : Nat) (f2 : Nat → Int), j ≤ i ∧ s = .int .i64 (j : Int) ∧ IArr w5 g n c f2 ∧ Going κ f2 i j ∧ ((List.range n).map f2).Perm ((List.range n).map f) ∧ FrL w g w5) (fun s _ => (intOf s).toNat)
      case atStart => exact ⟨i, f', Nat.le_refl _, rfl, HA.out, Going.start HS.out, HP.out, HF.out⟩
      case round =>
        clear HA HS HP HF
        obtain ⟨j, f2, hj, rfl, hA, hG, hP, hF⟩ := hrel
        have HA := Lib.hid hA
        have HG := Lib.hid hG
        have HP := Lib.hid hP
        have HF := Lib.hid hF
        have hF2 : ∀ q, q < n → ∃ k : Nat, f2 q = (k : Int) ∧ k < m := fun q hq => by
          have h1 : f2 q ∈ (List.range n).map f2 := List.mem_map.2 ⟨q, List.mem_range.2 hq, rfl⟩
          have h2 := hP.mem_iff.1 h1
          obtain ⟨q', hq', e⟩ := List.mem_map.1 h2
          obtain ⟨k, hk1, hk2⟩ := HF0.out q' (List.mem_range.1 hq')
          exact ⟨k, by rw [← e]; exact hk1, hk2⟩
        by_cases hj0 : 0 < j
        · obtain ⟨j, rfl⟩ : ∃ j', j = j' + 1 := ⟨j - 1, by omega⟩
          obtain ⟨a, ha, ham⟩ := hF2 (j + 1) (by omega)
          obtain ⟨b, hb, hbm⟩ := hF2 j (by omega)
          have e0 := hA.cell (i := j + 1) (by omega)
          have e1 := hA.cell (i := j) (by omega)
          rw [ha] at e0
          rw [hb] at e1
          have HAB := Lib.hid (And.intro ha hb)
          have x0 := cellF HX.out hF hg1
          have x1 := cellF H1.out hF hg2
          have ka := cellF (HK.out a ham) hF hg3
          have kb := cellF (HK.out b hbm) hF hg3
          have g0 := fun d os => cell_regrown e0 d os
          have g1 := fun d os => cell_regrown e1 d os
          have HST := Lib.hid (fun h => Going.step (κ := κ) hG hj h)
          have HSP := Lib.hid (fun h => Going.stop (κ := κ) hG (.inr h))
          have HPM := Lib.hid (swap_perm f2 (n := n) (i := j + 1) (j := j) (by omega) (by omega))
          have hcc : ∀ (d : Nat) (os : Array Obj), _ := fun d os => Calls.regrown_of (byCmp_any bx T pb off m cap a b (κ (a : Int)) (κ (b : Int)) (grow (redrawn wr d) os) (cell_regrown x0 d os) (cell_regrown x1 d os) ham hbm (cell_regrown ka d os) (cell_regrown kb d os))
          have HLT := Lib.hid (cmpI_lt (κ (a : Int)) (κ (b : Int)))
          obtain ⟨cv, hcv⟩ : ∃ cv, cmpI (κ (a : Int)) (κ (b : Int)) = cv := ⟨_, rfl⟩
          rw [hcv] at HLT
          simp only [hcv] at hcc
          have d1 : decide (((j + 1 : Nat) : Int) > 0) = true := decide_eq_true (by omega)
          have d2 : decide ((0 : Int) < ((j + 1 : Nat) : Int)) = true := decide_eq_true (by omega)
          have ec : ((j + 1 : Nat) : Int) = (j : Int) + 1 := by omega
          have q1 : IntKind.i64.wrap ((j : Int) + 1 - 1) = (j : Int) := by rw [show (j : Int) + 1 - 1 = (j : Int) by omega]; exact IntWalk.i64_in _ (by omega)
          have q1' : IntKind.i64.wrap (j : Int) = (j : Int) := IntWalk.i64_in _ (by omega)
          have q2 : (j : Int) + 1 < (n : Int) := by omega
          have q3 : (j : Int) < (n : Int) := by omega
          have q4 : ((j : Int) + 1).toNat = j + 1 := by omega
          have q5 : (0 : Int) ≤ (j : Int) + 1 := by omega
          rw [ec] at d1 d2 ⊢
          clear hA hG hP hF hF2 ha hb hcv ec x0 x1 ka kb
          by_cases q : cv < 0
          · have d3 : decide (cv < 0) = true := by simpa using q
            have HLT2 := Lib.hid (show κ (a : Int) < κ (b : Int) by have := HLT.out; rw [d3] at this; simpa using this.symm)
            clear q
            go_wp2_with fail
            refine wp_region_quiet_below (by kernel_rfl) (by kernel_rfl) ?_
            repeat (with_reducible refine wpQuiet_step (fun K hK => ?_); go_simp; first | (with_reducible refine hK _ ?_; clear hK K) | (apply Exists.intro; refine ⟨fun _ => ?_, ?_⟩; (go_at_call 91; exact hcc _ _); with_reducible refine hK _ ?_; clear hK K))
            refine wpQuiet_nil ?_
            intro _ hw'
            obtain ⟨⟨dq, osq⟩, hw''⟩ := hw'
            subst hw''
            have hb8 := below_regrown wr dq osq
            have HA8 := Lib.hid (HA.out.below hb8)
            have HF8 := Lib.hid (HF.out.below hb8)
            clear g0 g1 hcc hb8 HA HF
            generalize grow (redrawn wr dq) osq = w9 at *
            have e0 := HA8.out.cell (i := j + 1) (by omega)
            have e1 := HA8.out.cell (i := j) (by omega)
            rw [HAB.out.1] at e0
            rw [HAB.out.2] at e1
            have f0 := HA8.out.frozen (j + 1)
            have f1 := HA8.out.frozen j
            have hgl := HA8.out.lt
            have n1 : j ≠ j + 1 := by omega
            have n2 : j + 1 ≠ j := by omega
            go_wp2_with fail
            go_region_o
            go_wp2
            go_roundw
            case rel =>
              have hs := ((HA8.out.set (j + 1) (b : Int)).set j (a : Int)).below (Below.refl _ _).drew
              refine ⟨j, _, by omega, by go_num, hs, ?_, ?_, ((HF8.out.set (j + 1) (.int .i64 (b : Int))).set j (.int .i64 (a : Int))).below (Below.refl _ _).drew⟩
              · have := HST.out (by rw [HAB.out.1, HAB.out.2]; exact HLT2.out)
                rwa [HAB.out.1, HAB.out.2] at this
              · have := HPM.out
                rw [HAB.out.1, HAB.out.2] at this
                exact this.trans HP.out
            case measure => simp [intOf] <;> omega
          · have d3 : decide (cv < 0) = false := by simpa using q
            have HLT2 := Lib.hid (show κ (b : Int) ≤ κ (a : Int) by have := HLT.out; rw [d3] at this; simpa using this.symm)
            clear q
            go_wp2_with fail
            refine wp_region_quiet_below (by kernel_rfl) (by kernel_rfl) ?_
            repeat (with_reducible refine wpQuiet_step (fun K hK => ?_); go_simp; first | (with_reducible refine hK _ ?_; clear hK K) | (apply Exists.intro; refine ⟨fun _ => ?_, ?_⟩; (go_at_call 91; exact hcc _ _); with_reducible refine hK _ ?_; clear hK K))
            refine wpQuiet_nil ?_
            intro _ hw'
            obtain ⟨⟨dq, osq⟩, hw''⟩ := hw'
            subst hw''
            have hb8 := below_regrown wr dq osq
            have HA8 := Lib.hid (HA.out.below hb8)
            have HF8 := Lib.hid (HF.out.below hb8)
            clear g0 g1 hcc hb8 HA HF
            generalize grow (redrawn wr dq) osq = w9 at *
            have HS2 := Lib.hid (HSP.out (by rw [show j + 1 - 1 = j by omega, HAB.out.1, HAB.out.2]; exact HLT2.out))
            go_wp2
            go_roundw
            case rel => exact ⟨i + 1, f2, ⟨by omega, by omega⟩, by go_num, HA8.out, HS2.out, HP.out, HF8.out⟩
            case measure => simp [intOf] <;> omega
        · obtain rfl : j = 0 := by omega
          have d1 : decide (((0 : Nat) : Int) > 0) = false := decide_eq_false (by omega)
          have d2 : decide ((0 : Int) < ((0 : Nat) : Int)) = false := decide_eq_false (by omega)
          have HS2 := Lib.hid (Going.stop hG (.inl rfl))
          clear hA hG hP hF hF2
          go_wp2_with fail
          refine wp_region_quiet_below (by kernel_rfl) (by kernel_rfl) ?_
          repeat (with_reducible refine wpQuiet_step (fun K hK => ?_); go_simp; with_reducible refine hK _ ?_; clear hK K)
          refine wpQuiet_nil ?_
          intro _ hw'
          obtain ⟨⟨dq, osq⟩, hw''⟩ := hw'
          subst hw''
          have hb8 := below_regrown wr dq osq
          have HA8 := Lib.hid (HA.out.below hb8)
          have HF8 := Lib.hid (HF.out.below hb8)
          clear hb8 HA HF
          generalize grow (redrawn wr dq) osq = w9 at *
          go_wp2
          go_roundw
          case rel => exact ⟨i + 1, f2, ⟨by omega, by omega⟩, by go_num, HA8.out, HS2.out, HP.out, HF8.out⟩
          case measure => simp [intOf] <;> omega
    · have HE := Lib.hid (show Sorted κ f' n from fun a b h1 h2 => HS.out a b h1 (by omega))
      go_wp2
      go_end0
      exact ⟨⟨_, rfl⟩, ⟨f', HA.out, HE.out, HP.out⟩, HF.out⟩
set_option maxRecDepth 100000 in
set_option maxHeartbeats 8000000 in
theorem stable_any (g n c bx T pb off m cap : Nat) (f : Nat → Int) (κ : Int → Int) (w : World) (hA : IArr w g n c f) (hn : n ≤ 10) (hf : ∀ i, i < n → ∃ k : Nat, f i = (k : Int) ∧ k < m) (hx : w.cell? ⟨bx, 0, none⟩ = some (.pointer (some ⟨T, 0, none⟩))) (h1 : w.cell? ⟨T, 1, none⟩ = some (.slice (some ⟨pb, off, none⟩) m cap)) (hk : ∀ k : Nat, k < m → w.cell? ⟨pb, off + k * 2 + 1, none⟩ = some (.int .i64 (κ (k : Int)))) (hg : bx ≠ g ∧ T ≠ g ∧ pb ≠ g) :
    Calls Try.prog 96 #[.slice (some ⟨g, 0, none⟩) n c, .int .i64 (n : Int), .func (.func 91) #[] #[.pointer (some ⟨bx, 0, none⟩)]] w fun e w' => (∃ v, e = .returned v) ∧ (∃ f', IArr w' g n c f' ∧ Sorted κ f' n ∧ ((List.range n).map f').Perm ((List.range n).map f)) ∧ FrL w g w' := by
  have HC := Lib.hid (isort_any g n c bx T pb off m cap f κ w hA (by omega) hf hx h1 hk hg)
  clear hA hf hx h1 hk hg
  have d1 : decide ((20 : Int) ≤ (n : Int)) = false := by simp; omega
  have d2 : decide ((20 : Int) < (n : Int)) = false := by simp; omega
  go_enter Try.func96, Try.ntmps96
  go_wp2
  go_loopw [7, 8] (fun a b wr => a = .int .i64 0 ∧ b = .int .i64 20 ∧ wr = w) (fun _ _ _ => 0)
  case atStart => exact ⟨rfl, rfl, rfl⟩
  case round =>
    obtain ⟨rfl, rfl, rfl⟩ := hrel
    go_wp2_with fail
    refine HC.out.mono ?_
    rintro e w2 ⟨⟨v, rfl⟩, hs, hF⟩
    have HE := Lib.hid (And.intro hs hF)
    clear hs hF
    go_wp2
    go_loopw [6, 7, 8, 9] (fun a _ _ _ wr => a = .int .i64 20 ∧ wr = w2) (fun _ _ _ _ _ => 0)
    case atStart => exact ⟨rfl, rfl⟩
    case round =>
      obtain ⟨rfl, rfl⟩ := hrel
      go_wp2
      go_end0
      exact ⟨⟨_, rfl⟩, HE.out.1, HE.out.2⟩
set_option maxRecDepth 100000 in
set_option maxHeartbeats 8000000 in
theorem sorts_any (g n c bx T pb off m cap : Nat) (f : Nat → Int) (κ : Int → Int) (w : World) (hA : IArr w g n c f) (hn : n ≤ 10) (hf : ∀ i, i < n → ∃ k : Nat, f i = (k : Int) ∧ k < m) (hx : w.cell? ⟨bx, 0, none⟩ = some (.pointer (some ⟨T, 0, none⟩))) (h1 : w.cell? ⟨T, 1, none⟩ = some (.slice (some ⟨pb, off, none⟩) m cap)) (hk : ∀ k : Nat, k < m → w.cell? ⟨pb, off + k * 2 + 1, none⟩ = some (.int .i64 (κ (k : Int)))) (hg : bx ≠ g ∧ T ≠ g ∧ pb ≠ g) :
    Calls Try.prog 90 #[.slice (some ⟨g, 0, none⟩) n c, .func (.func 91) #[] #[.pointer (some ⟨bx, 0, none⟩)]] w fun e w' => (∃ v, e = .returned v) ∧ (∃ f', IArr w' g n c f' ∧ Sorted κ f' n ∧ ((List.range n).map f').Perm ((List.range n).map f)) ∧ FrL w g w' := by
  have HC := Lib.hid (stable_any g n c bx T pb off m cap f κ w hA hn hf hx h1 hk hg)
  clear hA hf hx h1 hk hg
  go_enter Try.func90, Try.ntmps90
  go_wp2_with fail
  refine HC.out.mono ?_
  rintro e w2 ⟨⟨v, rfl⟩, hs, hF⟩
  have HE := Lib.hid (And.intro hs hF)
  clear hs hF
  go_wp2
  go_end0
  exact ⟨⟨_, rfl⟩, HE.out.1, HE.out.2⟩
set_option maxRecDepth 100000 in
set_option maxHeartbeats 2000000 in
theorem grownIB_any (v : Value) (n : Nat) (xs : List Value) (x : Int) (w : World) (hrow : Row w v n 1 xs) (hn : n ≤ 1000000) :
    Calls Try.prog 89 #[v, .int .i64 x] w fun e w' => ∃ v', e = .returned v' ∧ RowG w' w.heap.size v' (n + 1) 1 (xs ++ [.int .i64 x]) ∧ Below w.heap.size w w' := by
  obtain ⟨a, cap, rfl, hcap, hnone, hcells, hlen⟩ := hrow.cells
  obtain ⟨i0, hi, hz0', hz1, hz2⟩ := info_parts infoI
  clear hrow
  have hn0 : ¬ (n : Int) < 0 := by omega
  have s1 := Lib.hid (show a = none → n = 0 ∧ n = 0 from fun h => ⟨(hnone h).1, (hnone h).1⟩)
  have hW : Below w.heap.size w (w.alloc (.cells #[.int .i64 x] 3)) := below1 _ _
  have s2 := Lib.hid (fun b (hb : a = some b) j u (hu : xs[j]? = some u) => addB (hcells b hb j u hu) hW)
  have hN : Blk (w.alloc (.cells #[.int .i64 x] 3)) w.heap.size (.cells #[.int .i64 x] 3) := Blk.new _ _
  have s3 := Lib.hid (show ∀ (j : Nat) (u : Value), [Value.int .i64 x][j]? = some u → (w.alloc (.cells #[.int .i64 x] 3)).cell? ((⟨w.heap.size, 0, none⟩ : Addr).add j) = some u from fun j u hu => by
    have e : (⟨w.heap.size, 0, none⟩ : Addr).add j = ⟨w.heap.size, j, none⟩ := by unfold Addr.add; split <;> simp_all
    rw [e, hN.cell]; simpa using hu)
  have s4 : n + 1 ≤ maxLen := by unfold maxLen; omega
  have s4' := Lib.hid s4
  have hHB := Lib.hid hW
  have HL := Lib.hid hlen
  clear hcells hlen hnone s4 hN hW
  go_enter Try.func89, Try.ntmps89
  go_wp2_with (at_builtin; refine wpList_append_grows _ rfl (.tmp 10) (.tmp 12) 44 rfl 3 i0 (.int .i64 0) 1 8 Try.underlying44 hi hz0' hz1 hz2 rfl (by decide) a n n xs (by simp [Act.eval]) s1.out HL.out s2.out ⟨w.heap.size, 0, none⟩ 1 1 [.int .i64 x] (by simp [Act.eval]) rfl s3.out (by simp [Value.oneCell']) (by omega) s4'.out (by omega) ?_; intro v' w' hown hgrow)
  go_ret
  refine ⟨v', rfl, ⟨Row.of_owns hown, ?_⟩, hHB.out.trans ((below_of_grown hgrow).mono (by simp))⟩
  intro g o k c e
  obtain ⟨_, ⟨h1, _⟩ | ⟨g', cap', cur, e1, e2, _⟩⟩ := hown
  · rw [h1] at e; cases e
  · rw [e1] at e; cases e; simp at e2; omega
set_option maxRecDepth 100000 in
set_option maxHeartbeats 8000000 in
theorem isort_zero (a : Option Addr) (c : Nat) (fv : Value) (w : World) :
    Calls Try.prog 99 #[.slice a 0 c, .int .i64 0, .int .i64 0, fv] w fun e w' => (∃ v, e = .returned v) ∧ w' = w := by
  go_enter Try.func99, Try.ntmps99
  go_wp2
  go_loopw [8, 9] (fun s _ wr => s = .int .i64 1 ∧ wr = w) (fun _ _ _ => 0)
  case atStart => exact ⟨rfl, rfl⟩
  case round =>
    obtain ⟨rfl, rfl⟩ := hrel
    go_wp2
    go_end0
    exact ⟨⟨_, rfl⟩, rfl⟩
set_option maxRecDepth 100000 in
set_option maxHeartbeats 8000000 in
theorem stable_zero (a : Option Addr) (c : Nat) (fv : Value) (w : World) :
    Calls Try.prog 96 #[.slice a 0 c, .int .i64 0, fv] w fun e w' => (∃ v, e = .returned v) ∧ w' = w := by
  have d1 : decide ((20 : Int) ≤ 0) = false := by decide
  have d2 : decide ((20 : Int) < 0) = false := by decide
  go_enter Try.func96, Try.ntmps96
  go_wp2
  go_loopw [7, 8] (fun a b wr => a = .int .i64 0 ∧ b = .int .i64 20 ∧ wr = w) (fun _ _ _ => 0)
  case atStart => exact ⟨rfl, rfl, rfl⟩
  case round =>
    obtain ⟨rfl, rfl, rfl⟩ := hrel
    go_wp2_with fail
    refine (isort_zero a c fv _).mono ?_
    rintro e w2 ⟨⟨v, rfl⟩, rfl⟩
    go_wp2
    go_loopw [6, 7, 8, 9] (fun a _ _ _ wr => a = .int .i64 20 ∧ wr = w2) (fun _ _ _ _ _ => 0)
    case atStart => exact ⟨rfl, rfl⟩
    case round =>
      obtain ⟨rfl, rfl⟩ := hrel
      go_wp2
      go_end0
      exact ⟨⟨_, rfl⟩, rfl⟩
set_option maxRecDepth 100000 in
set_option maxHeartbeats 8000000 in
theorem sorts_zero (a : Option Addr) (c : Nat) (fv : Value) (w : World) :
    Calls Try.prog 90 #[.slice a 0 c, fv] w fun e w' => (∃ v, e = .returned v) ∧ w' = w := by
  go_enter Try.func90, Try.ntmps90
  go_wp2_with fail
  refine (stable_zero a c fv _).mono ?_
  rintro e w2 ⟨⟨v, rfl⟩, rfl⟩
  go_wp2
  go_end0
  exact ⟨⟨_, rfl⟩, rfl⟩
theorem IArr.of_row {w : World} {v : Value} {n : Nat} {f : Nat → Int} (h : Row w v n 1 (((List.range n).map f).map (Value.int .i64))) (hn : 0 < n) : ∃ g c, v = .slice (some ⟨g, 0, none⟩) n c ∧ IArr w g n c f := by
  obtain ⟨h1, ⟨h2, h3⟩ | ⟨g, cap, cur, e, e1, e3, e4, e5, e6, e7⟩⟩ := h
  · omega
  · refine ⟨g, cap, e1, cur, e, e3, by rw [e6, Nat.mul_one], e4, fun i hi => ?_⟩
    have c1 : (((List.range n).map f).map (Value.int .i64))[i]? = some (.int .i64 (f i)) := by simp [hi]
    rw [← e7] at c1
    simp only [List.getElem?_take, Array.getElem?_toList] at c1
    rwa [if_pos (by omega)] at c1
theorem range_snoc (k : Nat) : (List.range (k + 1)).map (Nat.cast : Nat → Int) = (List.range k).map (Nat.cast : Nat → Int) ++ [(k : Int)] := by rw [List.range_succ, List.map_append]; rfl
/-- How the order of the logs is told: as numbers of logs. -/
theorem perm_nat {n : Nat} {f : Nat → Int} (h : ((List.range n).map f).Perm ((List.range n).map (Nat.cast : Nat → Int))) : ∃ ord : List Nat, ord.Perm (List.range n) ∧ (List.range n).map f = ord.map (Nat.cast : Nat → Int) := by
  refine ⟨((List.range n).map f).map Int.toNat, ?_, ?_⟩
  · refine (h.map Int.toNat).trans (List.Perm.of_eq ?_)
    rw [List.map_map]
    exact (List.map_congr_left fun k _ => by simp).trans (List.map_id _)
  · rw [List.map_map]
    refine ((List.map_congr_left fun x hx => ?_).trans (List.map_id _)).symm
    obtain ⟨k, _, rfl⟩ := List.mem_map.1 (h.mem_iff.1 hx)
    simp
set_option maxRecDepth 100000 in
set_option maxHeartbeats 8000000 in
theorem byEnd_any (n₀ T M : Nat) (y : YardD) (u : Value) (U H : Nat → Int) (w : World) (hV : VatAt w n₀ T M y u U H) (hy : y.Ok) (hn : n₀ ≤ w.heap.size) :
    Calls Try.prog 81 #[.pointer (some ⟨T, 0, none⟩)] w fun e w' => ∃ (v : Value) (ord : List Nat), e = .returned v ∧ IntsAt w' v (ord.map (Nat.cast : Nat → Int)) ∧ (∀ g o k c, v = .slice (some ⟨g, o, none⟩) k c → w.heap.size ≤ g) ∧ ord.Perm (List.range y.logs.length) ∧ (∀ a b, a < b → ∀ (ha : a < ord.length) (hb : b < ord.length), (y.logs.getD ord[a] (0, 0)).2 ≤ (y.logs.getD ord[b] (0, 0)).2) ∧ Below w.heap.size w w' := by
  have hB0 := below1 w (.cells #[.pointer (some ⟨T, 0, none⟩)] 70)
  have HBX := Lib.hid (Blk.new w (.cells #[.pointer (some ⟨T, 0, none⟩)] 70))
  obtain ⟨sa, cap, hue⟩ := hV.logs.slice
  subst hue
  have HV := Lib.hid (hV.below hn hB0)
  have hl10 := hy.count
  have hTl := hV.lt
  have hz0 : (w.alloc (.cells #[.pointer (some ⟨T, 0, none⟩)] 70)).heap.size = w.heap.size + 1 := by simp
  have c1 := hV.sl
  clear hV hy
  go_enter Try.func81, Try.ntmps81
  go_wp2_with fail
  clear c1
  generalize w.alloc (.cells #[.pointer (some ⟨T, 0, none⟩)] 70) = W0 at *
  have HB0 := Lib.hid hB0
  have hxl := HBX.out.lt
  clear hB0
  go_loopw [3, 4, 11] (fun o _ i wr => ∃ k : Nat, k ≤ y.logs.length ∧ i = .int .i64 (k : Int) ∧ RowG wr W0.heap.size o k 1 (((List.range k).map (Nat.cast : Nat → Int)).map (Value.int .i64)) ∧ Below W0.heap.size W0 wr) (fun _ _ i _ => y.logs.length - (intOf i).toNat)
  case atStart => exact ⟨0, Nat.zero_le _, rfl, RowG.nil _ _ _, Below.refl _ _⟩
  case round =>
    obtain ⟨k, hk, rfl, hrow, hbw⟩ := hrel
    obtain ⟨oa, on, oc, rfl⟩ := hrow.1.slice
    have HR := Lib.hid hrow
    have HBW := Lib.hid hbw
    have hsz := hbw.size
    clear hrow hbw
    by_cases hlt : k < y.logs.length
    · go_wp2_with fail
      refine (grownIB_any _ k _ (k : Int) _ HR.out.1 (by omega)).mono ?_
      rintro e w2 ⟨v2, rfl, hr2, hb2⟩
      obtain ⟨xa, xn, xc, rfl⟩ := hr2.1.slice
      have HR2 := Lib.hid (hr2.mono hsz)
      have HBW2 := Lib.hid (bC HBW.out hb2)
      have HS := Lib.hid (range_snoc k)
      clear hr2 hb2 HR HBW
      go_wp2
      go_roundw
      case rel => exact ⟨k + 1, by omega, by go_num, by rw [HS.out, ints_snoc64]; exact HR2.out, HBW2.out⟩
      case measure => simp [intOf] <;> omega
    · obtain rfl : k = y.logs.length := by omega
      by_cases hpos : 0 < y.logs.length
      · obtain ⟨g, c, e, hIA⟩ := IArr.of_row HR.out.1 hpos
        cases e
        have hgg := HR.out.2 g 0 _ _ rfl
        have HVw := Lib.hid (HV.out.below (by omega) HBW.out)
        have hgl := hIA.lt
        have hcap := hIA.cap
        obtain ⟨pb, off, e2, ⟨hp0, hp1, hp2⟩, _, _⟩ := HVw.out.logs.get 0 hpos
        subst e2
        have HKC := Lib.hid (fun (k : Nat) (hk : k < y.logs.length) => show wr.cell? ⟨pb, off + k * 2 + 1, none⟩ = some (.int .i64 ((fun z : Int => (y.logs.getD z.toNat (0, 0)).2) (k : Int))) by
          obtain ⟨pb', off', e3, _, _, h3⟩ := HVw.out.logs.get k hk
          cases e3
          rw [h3]
          simp [List.getD, List.getElem?_eq_getElem hk])
        have HSO := Lib.hid (sorts_any g y.logs.length _ w.heap.size T pb off y.logs.length cap (Nat.cast : Nat → Int) (fun z => (y.logs.getD z.toNat (0, 0)).2) wr hIA hl10 (fun i hi => ⟨i, rfl, hi⟩) ((HBX.out.below HBW.out).cell 0) HVw.out.sl HKC.out ⟨by omega, by omega, by omega⟩)
        clear hIA
        go_wp2_with fail
        refine HSO.out.mono ?_
        rintro e w3 ⟨⟨v, rfl⟩, ⟨f', hI3, hS3, hP3⟩, hF3⟩
        obtain ⟨ord, ho1, ho2⟩ := perm_nat hP3
        have hI4 := hI3.ints
        rw [ho2] at hI4
        have HI4 := Lib.hid hI4
        have HB4 := Lib.hid (HB0.out.trans ((HBW.out.mono (by omega)).trans (hF3.under (B := w.heap.size) (by omega) (by omega))))
        have hol := ho1.length_eq
        rw [List.length_range] at hol
        have HORD := Lib.hid (show ∀ a b, a < b → ∀ (ha : a < ord.length) (hb : b < ord.length), (y.logs.getD ord[a] (0, 0)).2 ≤ (y.logs.getD ord[b] (0, 0)).2 from fun a b hab ha hb => by
          have h1 := hS3 a b hab (by omega)
          have e : ∀ q (hq : q < ord.length), f' q = (ord[q] : Int) := fun q hq => by
            have h2 : ((List.range y.logs.length).map f')[q]? = (ord.map (Nat.cast : Nat → Int))[q]? := by rw [ho2]
            rw [List.getElem?_map, List.getElem?_range (by omega), List.getElem?_map, List.getElem?_eq_getElem hq] at h2
            simpa using h2
          rw [e a ha, e b hb] at h1
          simpa using h1)
        have HO1 := Lib.hid ho1
        clear hI3 hS3 hP3 hF3 ho1 ho2 hI4 hol
        go_wp2
        go_ret
        exact ⟨_, ord, rfl, HI4.out, fun g' o k c e => by cases e; omega, HO1.out, HORD.out, HB4.out⟩
      · have HE := Lib.hid (show y.logs.length = 0 by omega)
        obtain ⟨oa, oc, e⟩ : ∃ oa' oc', Value.slice oa on oc = .slice oa' 0 oc' := by
          obtain ⟨h1, ⟨h2, h3⟩ | ⟨g, cap', cur, e', e1, _⟩⟩ := HR.out.1
          · exact ⟨none, 0, h2⟩
          · exact ⟨some ⟨g, 0, none⟩, cap', by rw [e1, HE.out]⟩
        cases e
        go_wp2_with fail
        refine (sorts_zero _ _ _ _).mono ?_
        rintro e w3 ⟨⟨v, rfl⟩, rfl⟩
        have HB4 := Lib.hid (HB0.out.trans (HBW.out.mono (by omega)))
        go_wp2
        go_ret
        refine ⟨_, [], rfl, ⟨_, _, rfl, fun h => absurd rfl h⟩, fun g' o k c e => ?_, by rw [HE.out]; exact List.Perm.refl _, fun a b _ ha => by simp at ha, HB4.out⟩
        have := HR.out.2 g' o k c e
        omega
end Go.Proofs.Ytjbeoakikdkdaaa
