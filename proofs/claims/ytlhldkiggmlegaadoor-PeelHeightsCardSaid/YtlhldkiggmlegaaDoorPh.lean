import Derived.Test.YtlhldkiggmlegaaDoorOw
import Derived.Test.YtlhldkiggmlegaaDoorOq
namespace Go.Proofs.YtlhldkiggmlegaaDoor
open Go.RowKit Go.Shelf Go.Sort
attribute [local go_sem] Oper.semAt_some

/-! ## The reference: bounds -/
def tripCells (l : List B3) : List Value := l.flatMap fun b => [.int .i64 b.1, .int .i64 b.2.1, .int .i64 b.2.2]
theorem tripCells_length (l : List B3) : (tripCells l).length = l.length * 3 := by
  induction l with
  | nil => rfl
  | cons b l ih => simp only [tripCells, List.flatMap_cons, List.length_append, List.length_cons, List.length_nil] at ih ⊢; omega
theorem tripCells_snoc (l : List B3) (b : B3) : tripCells (l ++ [b]) = tripCells l ++ [.int .i64 b.1, .int .i64 b.2.1, .int .i64 b.2.2] := by simp [tripCells]
theorem tripCells_get (l : List B3) (j : Nat) (hj : j < l.length) : (tripCells l)[j * 3]? = some (.int .i64 l[j].1) ∧ (tripCells l)[j * 3 + 1]? = some (.int .i64 l[j].2.1) ∧ (tripCells l)[j * 3 + 2]? = some (.int .i64 l[j].2.2) := by
  induction l generalizing j with
  | nil => simp at hj
  | cons b l ih =>
    have e : tripCells (b :: l) = [.int .i64 b.1, .int .i64 b.2.1, .int .i64 b.2.2] ++ tripCells l := by simp [tripCells]
    rw [e]
    match j with
    | 0 => simp
    | j + 1 =>
      have h := ih j (by simpa using hj)
      rw [List.getElem?_append_right (by simp; omega), List.getElem?_append_right (by simp; omega), List.getElem?_append_right (by simp; omega)]
      simp only [List.length_cons, List.length_nil, List.getElem_cons_succ]
      rw [show (j + 1) * 3 - (0 + 1 + 1 + 1) = j * 3 by omega, show (j + 1) * 3 + 1 - (0 + 1 + 1 + 1) = j * 3 + 1 by omega, show (j + 1) * 3 + 2 - (0 + 1 + 1 + 1) = j * 3 + 2 by omega]
      exact h
def TripsAt (w : World) (v : Value) (l : List B3) : Prop :=
  ∃ a cap, v = .slice a l.length cap ∧ (l ≠ [] → ∃ b off, a = some ⟨b, off, none⟩ ∧ ∀ i (h : i < l.length), w.cell? ⟨b, off + i * 3, none⟩ = some (.int .i64 l[i].1) ∧ w.cell? ⟨b, off + i * 3 + 1, none⟩ = some (.int .i64 l[i].2.1) ∧ w.cell? ⟨b, off + i * 3 + 2, none⟩ = some (.int .i64 l[i].2.2))
theorem TripsAt.below {w w' : World} {v : Value} {l : List B3} (h : TripsAt w v l) (hb : Below w.heap.size w w') : TripsAt w' v l := by
  obtain ⟨a, cap, rfl, h1⟩ := h
  refine ⟨a, cap, rfl, fun hn => ?_⟩
  obtain ⟨b, off, e, h2⟩ := h1 hn
  exact ⟨b, off, e, fun i hi => ⟨cellB (h2 i hi).1 hb, cellB (h2 i hi).2.1 hb, cellB (h2 i hi).2.2 hb⟩⟩
theorem Row.trips {w : World} {v : Value} {l : List B3} (h : Row w v l.length 3 (tripCells l)) : TripsAt w v l := by
  obtain ⟨h1, ⟨h2, h3⟩ | ⟨g, cap, cur, e, e1, e3, e4, e5, e6, e7⟩⟩ := h
  · exact ⟨none, 0, by rw [h2, h3], fun hn => absurd (List.length_eq_zero_iff.1 h3) hn⟩
  · refine ⟨some ⟨g, 0, none⟩, cap, e1, fun _ => ⟨g, 0, rfl, fun j hj => ?_⟩⟩
    obtain ⟨c1, c2, c3⟩ := tripCells_get l j hj
    rw [← e7] at c1 c2 c3
    rw [e3.cell, e3.cell, e3.cell, Nat.zero_add]
    simp only [List.getElem?_take, Array.getElem?_toList] at c1 c2 c3
    rw [if_pos (by omega)] at c1 c2 c3
    exact ⟨c1, c2, c3⟩
theorem infoB : (Tryd.prog.info? 124).map (fun i => (i.zero, i.size, i.bytes)) = some (some (.agg #[.int .i64 0, .int .i64 0, .int .i64 0]), 3, 24) := by kernel_rfl
theorem undB : Tryd.prog.underlying 120 = some (.slice 124) := by kernel_rfl
theorem cells_trip {W : World} {b : Nat} {x y z : Value} (h0 : W.cell? ⟨b, 0, none⟩ = some x) (h1 : W.cell? ⟨b, 1, none⟩ = some y) (h2 : W.cell? ⟨b, 2, none⟩ = some z) : ∀ m u, [x, y, z][m]? = some u → W.cell? (Addr.add ⟨b, 0, none⟩ m) = some u := by
  intro m u hu
  have e1 : (Addr.add ⟨b, 0, none⟩ m) = ⟨b, m, none⟩ := by unfold Addr.add; split <;> simp_all
  rw [e1]
  match m with
  | 0 => rw [h0]; simpa using hu
  | 1 => rw [h1]; simpa using hu
  | 2 => rw [h2]; simpa using hu
  | m + 3 => simp at hu
theorem wpList_append_at {P : Program} (w : World) {ops : Array Oper} {rest : List Oper} {o : Oper} {a : Act} {Q : Exit → Act → World → Prop} (hgd : o.guard = none) (s x : Operand) (t : TypeId)
    (ho : o.op = .call { callee := .builtin .append, args := #[s, x], argTypes := #[t, t] })
    (base : Nat) (e : TypeId) (i : TypeInfo) (z : Value) (size bytes : Nat) (ht : P.underlying t = some (.slice e)) (hi : P.info? e = some i) (hz : i.zero = some z)
    (hsize : i.size = size) (hby : i.bytes = bytes) (hzs : z.cells.size = size) (hsz : 0 < size)
    (v : Value) (n : Nat) (xs : List Value) (hs : a.eval s = v) (hown : w.ownsRow base e size v n xs)
    (ad : Addr) (m c : Nat) (news : List Value) (hx : a.eval x = .slice (some ad) m c) (hl : news.length = m * size) (hnews : ∀ j u, news[j]? = some u → w.cell? (ad.add j) = some u) (h1 : ∀ u ∈ news, u.oneCell' = true)
    (h63 : n + m ≤ maxLen) (hbytes : (n + m) * bytes ≤ 140737488355328) (hbase : base ≤ w.heap.size)
    (h : ∀ v' w', w'.ownsRow base e size v' (n + m) (xs ++ news) → w.grownBy w' v.ownBlock → (v'.ownBlock = v.ownBlock ∨ v'.ownBlock = some w.heap.size) → wpList P ops Q rest (a.put o.dst v') w') : wpList P ops Q (o :: rest) a w :=
  wpList_plain hgd fun _ hK => wp_append_at w s x t ho base e i z size bytes ht hi hz hsize hby hzs hsz v n xs hs hown ad m c news hx hl hnews h1 h63 hbytes hbase fun v' w' h2 h3 h4 => hK _ _ (h v' w' h2 h3 h4)
set_option maxRecDepth 1000000 in
set_option maxHeartbeats 40000000 in
theorem rBounds_any (v : Value) (l : LogD) (core x : Int) (w : World) (hv : LogAt w v l) (h0 : logErr l = 0) (hc : -2000 ≤ core ∧ core ≤ 2000) (hx : 0 ≤ x ∧ x ≤ 100) :
    Calls Tryd.prog 82 #[v, .int .i64 core, .int .i64 x] w fun e w' => ∃ v1 v2, e = .returned (.tuple #[v1, v2]) ∧ TripsAt w' v1 (leastB l core x l.at_.length) ∧ TripsAt w' v2 (mostB l core x l.at_.length) ∧ Below w.heap.size w w' := by
  obtain ⟨va, ve, rfl, h1, h2⟩ := hv
  obtain ⟨a, cap, rfl⟩ := h1.slice
  obtain ⟨a', cap', rfl⟩ := h2.slice
  have hf := logErr_fit' h0
  have h8 := hf.eight
  have HLEN := Lib.hid (hf.lens _ (List.mem_singleton.2 rfl))
  have HFIT := Lib.hid hf
  have HIA := Lib.hid (IntsAt.at (w := w) (a := a) (n := l.at_.length) (cap := cap) h1).2
  have HPA := Lib.hid (PairsAt.at (w := w) (a := a') (n := l.edges.length) (cap := cap') h2).2
  obtain ⟨ib, hib, hk0, hk1, hk2⟩ := info_parts infoB
  have IB := Lib.hid hib
  have K0 := Lib.hid hk0
  have K1 := Lib.hid hk1
  have K2 := Lib.hid hk2
  clear hib hk0 hk1 hk2 h1 h2 hf h0
  have p0 := Blk.new w (.cells #[.slice a l.at_.length cap, .slice a' l.edges.length cap'] 25)
  have pb := below1 w (.cells #[.slice a l.at_.length cap, .slice a' l.edges.length cap'] 25)
  go_enter Tryd.func82, Tryd.ntmps82
  go_wp2_with fail
  generalize w.alloc (.cells #[.slice a l.at_.length cap, .slice a' l.edges.length cap'] 25) = w1 at *
  have Z0 := Lib.hid p0
  have BL0 := Lib.hid pb
  clear p0 pb
  go_loopw [8, 9, 10] (fun s8 s9 s10 wr => ∃ k : Nat, s10 = .int .i64 (k : Int) ∧ k ≤ l.at_.length ∧ wr.ownsRow w.heap.size 124 3 s8 (leastB l core x k).length (tripCells (leastB l core x k)) ∧ wr.ownsRow w.heap.size 124 3 s9 (mostB l core x k).length (tripCells (mostB l core x k)) ∧ Apart s8 s9 ∧ Blk wr w.heap.size (.cells #[.slice a l.at_.length cap, .slice a' l.edges.length cap'] 25) ∧ Below w.heap.size w wr) (fun _ _ s10 _ => l.at_.length - (intOf s10).toNat)
  case atStart => exact ⟨0, rfl, Nat.zero_le _, ⟨rfl, .inl ⟨rfl, rfl⟩⟩, ⟨rfl, .inl ⟨rfl, rfl⟩⟩, Apart.nil, Z0.out, BL0.out⟩
  case round =>
    clear Z0 BL0
    rename_i wr
    obtain ⟨k, rfl, hk, hrl, hrm, hap, hz, hb⟩ := hrel
    have RL := Lib.hid hrl
    have RM := Lib.hid hrm
    have AP := hap
    have Z := Lib.hid hz
    have BL := Lib.hid hb
    have m0 := hz.cell 0
    have m1 := hz.cell 1
    simp at m0 m1
    have ml := hz.lt
    have rk1 : IntKind.i64.wrap ((k : Int) + 1) = (k : Int) + 1 := IntWalk.i64_in _ (by omega)
    clear hrl hrm hap hz hb
    by_cases hlt : k < l.at_.length
    · have hle : k < l.edges.length := by have := HLEN.out; omega
      obtain ⟨b1, o1, rfl, hc1⟩ := HIA.out k hlt
      obtain ⟨b2, o2, rfl, hc2, hc3⟩ := HPA.out k hle
      rw [atD_eq hlt] at hc1
      rw [loD_eq hle] at hc2
      rw [hiD_eq hle] at hc3
      have hpt := log_pt HFIT.out hlt
      obtain ⟨A, hA⟩ : ∃ A, atD l k = A := ⟨_, rfl⟩
      obtain ⟨lo, hlo⟩ : ∃ lo, loD l k = lo := ⟨_, rfl⟩
      obtain ⟨hi, hhi⟩ : ∃ hi, hiD l k = hi := ⟨_, rfl⟩
      rw [hA] at hc1
      rw [hlo] at hc2
      rw [hhi] at hc3
      rw [hA, hlo, hhi] at hpt
      obtain ⟨D, hD⟩ : ∃ D, A - x = D := ⟨_, rfl⟩
      obtain ⟨L, hL⟩ : ∃ L, lo + core = L := ⟨_, rfl⟩
      obtain ⟨H, hH⟩ : ∃ H, hi - core = H := ⟨_, rfl⟩
      have HSN := Lib.hid (least_snoc l core x k)
      have HLA := Lib.hid (show leastAt l core x k = (if x < A then [(D, L, -1)] else if A < x then [(-D, -H, 1)] else []) ∧ mostAt l core x k = (if x < A then [(D, H, -1)] else if A < x then [(-D, -L, 1)] else []) by
        unfold leastAt mostAt loC hiC
        rw [hA, hlo, hhi, hD, hL, hH, show x - A = -D by omega]
        exact ⟨rfl, rfl⟩)
      have HLN := Lib.hid (len_least l core x k)
      have y1 : IntKind.i64.wrap D = D := IntWalk.i64_in _ (by omega)
      have y2 : IntKind.i64.wrap L = L := IntWalk.i64_in _ (by omega)
      have y3 : IntKind.i64.wrap H = H := IntWalk.i64_in _ (by omega)
      have y4 : IntKind.i64.wrap (-D) = -D := IntWalk.i64_in _ (by omega)
      have y5 : IntKind.i64.wrap (-L) = -L := IntWalk.i64_in _ (by omega)
      have y6 : IntKind.i64.wrap (-H) = -H := IntWalk.i64_in _ (by omega)
      have HB := Lib.hid (show D = A - x by omega)
      have tk : decide ((k : Int) < (l.at_.length : Int)) = true := by simp; omega
      clear hA hlo hhi hpt
      go_wp2_with fail
      clear tk
      have d1 := cellB hc1 BL.out
      have d2 := cellB hc2 BL.out
      have d3 := cellB hc3 BL.out
      have g0 := fun d os => cell_regrown m0 d os
      have g1 := fun d os => cell_regrown m1 d os
      have g2 := fun d os => cell_regrown d1 d os
      have g3 := fun d os => cell_regrown d2 d os
      have g4 := fun d os => cell_regrown d3 d os
      clear m0 m1 ml d1 d2 d3 hc1 hc2 hc3
      refine wp_region_quiet_below (by kernel_rfl) (by kernel_rfl) ?_
      repeat (quiet_step (fail))
      refine wpQuiet_nil ?_
      intro _ hw'
      obtain ⟨⟨dq, osq⟩, hw''⟩ := hw'
      subst hw''
      have hb := below_regrown wr dq osq
      clear g0 g1 g2 g3 g4 hD hL hH
      generalize grow (redrawn wr dq) osq = wq at *
      replace RL := Lib.hid (owns_below RL.out hb)
      replace RM := Lib.hid (owns_below RM.out hb)
      replace Z := Lib.hid (Z.out.below hb)
      replace BL := Lib.hid (bC BL.out hb)
      clear hb
      by_cases h1 : x < A
      · have t1 : decide ((0 : Int) < D) = true := by have := HB.out; simp; omega
        have t2 : decide (D < (0 : Int)) = false := by have := HB.out; simp; omega
        have e1 := HLA.out.1
        have e2 := HLA.out.2
        rw [if_pos h1] at e1 e2
        have E1 := Lib.hid e1
        have E2 := Lib.hid e2
        clear e1 e2
        have BN0 := Blk.new wq (.cells #[.int .i64 (D), .int .i64 (L), .int .i64 (-1)] 124)
        have hbn := below1 wq (.cells #[.int .i64 (D), .int .i64 (L), .int .i64 (-1)] 124)
        have BN := Lib.hid BN0
        have HNN := Lib.hid (cells_trip (by rw [BN.out.cell]; rfl) (by rw [BN.out.cell]; rfl) (by rw [BN.out.cell]; rfl) : ∀ jj uu, ([.int .i64 (D), .int .i64 (L), .int .i64 (-1)] : List Value)[jj]? = some uu → (wq.alloc (.cells #[.int .i64 (D), .int .i64 (L), .int .i64 (-1)] 124)).cell? (Addr.add ⟨wq.heap.size, 0, none⟩ jj) = some uu)
        have RL' := Lib.hid (owns_below RL.out hbn)
        have RM' := Lib.hid (owns_below RM.out hbn)
        have Z' := Lib.hid (Z.out.below hbn)
        have BL' := Lib.hid (bC BL.out hbn)
        have HSZ := Lib.hid BL'.out.size
        have hln := HLN.out
        have hn8 : (leastB l core x k).length ≤ 8 := by omega
        have hm8 : (mostB l core x k).length ≤ 8 := by omega
        clear hbn BN0 BN RL RM Z BL hln
        go_wp2_with (at_builtin; refine wpList_append_at _ rfl (.tmp 46) (.tmp 50) 120 rfl w.heap.size 124 ib (.agg #[.int .i64 0, .int .i64 0, .int .i64 0]) 3 24 undB IB.out K0.out K1.out K2.out rfl (by decide) _ _ _ rfl RL'.out ⟨wq.heap.size, 0, none⟩ 1 1 [.int .i64 (D), .int .i64 (L), .int .i64 (-1)] rfl rfl HNN.out (by intro u hu; simp only [List.mem_cons, List.not_mem_nil, or_false] at hu; rcases hu with rfl | rfl | rfl <;> rfl) (by unfold maxLen; omega) (by omega) HSZ.out ?_)
        intro v7 V7 own gr att
        replace att := att.elim Or.inl (fun e => Or.inr (e.trans (congrArg some (World.size_alloc wq (.cells #[.int .i64 (D), .int .i64 (L), .int .i64 (-1)] 124)).symm)))
        have RM := Lib.hid (owns_apart RM'.out (AP).symm gr)
        have Z := Lib.hid (Z'.out.grown RL'.out (by decide) gr)
        have BL := Lib.hid (below_owns RL'.out gr BL'.out HSZ.out)
        have RL := Lib.hid own
        have AP2 := (apart_grown RM'.out AP.symm att).symm
        clear AP
        have AP := AP2
        clear AP2 own gr att RL' RM' Z' BL' HSZ HNN hn8 hm8
        have BN0 := Blk.new V7 (.cells #[.int .i64 (D), .int .i64 (H), .int .i64 (-1)] 124)
        have hbn := below1 V7 (.cells #[.int .i64 (D), .int .i64 (H), .int .i64 (-1)] 124)
        have BN := Lib.hid BN0
        have HNN := Lib.hid (cells_trip (by rw [BN.out.cell]; rfl) (by rw [BN.out.cell]; rfl) (by rw [BN.out.cell]; rfl) : ∀ jj uu, ([.int .i64 (D), .int .i64 (H), .int .i64 (-1)] : List Value)[jj]? = some uu → (V7.alloc (.cells #[.int .i64 (D), .int .i64 (H), .int .i64 (-1)] 124)).cell? (Addr.add ⟨V7.heap.size, 0, none⟩ jj) = some uu)
        have RL' := Lib.hid (owns_below RL.out hbn)
        have RM' := Lib.hid (owns_below RM.out hbn)
        have Z' := Lib.hid (Z.out.below hbn)
        have BL' := Lib.hid (bC BL.out hbn)
        have HSZ := Lib.hid BL'.out.size
        have hln := HLN.out
        have hn8 : (leastB l core x k).length ≤ 8 := by omega
        have hm8 : (mostB l core x k).length ≤ 8 := by omega
        clear hbn BN0 BN RL RM Z BL hln
        go_wp2_with (at_builtin; refine wpList_append_at _ rfl (.tmp 52) (.tmp 56) 120 rfl w.heap.size 124 ib (.agg #[.int .i64 0, .int .i64 0, .int .i64 0]) 3 24 undB IB.out K0.out K1.out K2.out rfl (by decide) _ _ _ rfl RM'.out ⟨V7.heap.size, 0, none⟩ 1 1 [.int .i64 (D), .int .i64 (H), .int .i64 (-1)] rfl rfl HNN.out (by intro u hu; simp only [List.mem_cons, List.not_mem_nil, or_false] at hu; rcases hu with rfl | rfl | rfl <;> rfl) (by unfold maxLen; omega) (by omega) HSZ.out ?_)
        intro v8 V8 own gr att
        replace att := att.elim Or.inl (fun e => Or.inr (e.trans (congrArg some (World.size_alloc V7 (.cells #[.int .i64 (D), .int .i64 (H), .int .i64 (-1)] 124)).symm)))
        have RL := Lib.hid (owns_apart RL'.out (AP.symm).symm gr)
        have Z := Lib.hid (Z'.out.grown RM'.out (by decide) gr)
        have BL := Lib.hid (below_owns RM'.out gr BL'.out HSZ.out)
        have RM := Lib.hid own
        have AP2 := apart_grown RL'.out AP att
        clear AP
        have AP := AP2
        clear AP2 own gr att RL' RM' Z' BL' HSZ HNN hn8 hm8
        go_wp2
        go_roundw
        case rel =>
          refine ⟨k + 1, by go_num, by omega, ?_, ?_, AP, Z.out, BL.out⟩
          · have e3 := HSN.out.1
            rw [E1.out] at e3
            rw [e3, tripCells_snoc, List.length_append]
            exact RL.out
          · have e3 := HSN.out.2
            rw [E2.out] at e3
            rw [e3, tripCells_snoc, List.length_append]
            exact RM.out
        case measure => first | (simp [intOf]; done) | (simp [intOf]; omega)
      · have t1 : decide ((0 : Int) < D) = false := by have := HB.out; simp; omega
        by_cases h2 : A < x
        · have t2 : decide (D < (0 : Int)) = true := by have := HB.out; simp; omega
          have e1 := HLA.out.1
          have e2 := HLA.out.2
          rw [if_neg h1, if_pos h2] at e1 e2
          have E1 := Lib.hid e1
          have E2 := Lib.hid e2
          clear e1 e2
          have BN0 := Blk.new wq (.cells #[.int .i64 (-D), .int .i64 (-H), .int .i64 1] 124)
          have hbn := below1 wq (.cells #[.int .i64 (-D), .int .i64 (-H), .int .i64 1] 124)
          have BN := Lib.hid BN0
          have HNN := Lib.hid (cells_trip (by rw [BN.out.cell]; rfl) (by rw [BN.out.cell]; rfl) (by rw [BN.out.cell]; rfl) : ∀ jj uu, ([.int .i64 (-D), .int .i64 (-H), .int .i64 1] : List Value)[jj]? = some uu → (wq.alloc (.cells #[.int .i64 (-D), .int .i64 (-H), .int .i64 1] 124)).cell? (Addr.add ⟨wq.heap.size, 0, none⟩ jj) = some uu)
          have RL' := Lib.hid (owns_below RL.out hbn)
          have RM' := Lib.hid (owns_below RM.out hbn)
          have Z' := Lib.hid (Z.out.below hbn)
          have BL' := Lib.hid (bC BL.out hbn)
          have HSZ := Lib.hid BL'.out.size
          have hln := HLN.out
          have hn8 : (leastB l core x k).length ≤ 8 := by omega
          have hm8 : (mostB l core x k).length ≤ 8 := by omega
          clear hbn BN0 BN RL RM Z BL hln
          go_wp2_with (at_builtin; refine wpList_append_at _ rfl (.tmp 60) (.tmp 66) 120 rfl w.heap.size 124 ib (.agg #[.int .i64 0, .int .i64 0, .int .i64 0]) 3 24 undB IB.out K0.out K1.out K2.out rfl (by decide) _ _ _ rfl RL'.out ⟨wq.heap.size, 0, none⟩ 1 1 [.int .i64 (-D), .int .i64 (-H), .int .i64 1] rfl rfl HNN.out (by intro u hu; simp only [List.mem_cons, List.not_mem_nil, or_false] at hu; rcases hu with rfl | rfl | rfl <;> rfl) (by unfold maxLen; omega) (by omega) HSZ.out ?_)
          intro v7 V7 own gr att
          replace att := att.elim Or.inl (fun e => Or.inr (e.trans (congrArg some (World.size_alloc wq (.cells #[.int .i64 (-D), .int .i64 (-H), .int .i64 1] 124)).symm)))
          have RM := Lib.hid (owns_apart RM'.out (AP).symm gr)
          have Z := Lib.hid (Z'.out.grown RL'.out (by decide) gr)
          have BL := Lib.hid (below_owns RL'.out gr BL'.out HSZ.out)
          have RL := Lib.hid own
          have AP2 := (apart_grown RM'.out AP.symm att).symm
          clear AP
          have AP := AP2
          clear AP2 own gr att RL' RM' Z' BL' HSZ HNN hn8 hm8
          have BN0 := Blk.new V7 (.cells #[.int .i64 (-D), .int .i64 (-L), .int .i64 1] 124)
          have hbn := below1 V7 (.cells #[.int .i64 (-D), .int .i64 (-L), .int .i64 1] 124)
          have BN := Lib.hid BN0
          have HNN := Lib.hid (cells_trip (by rw [BN.out.cell]; rfl) (by rw [BN.out.cell]; rfl) (by rw [BN.out.cell]; rfl) : ∀ jj uu, ([.int .i64 (-D), .int .i64 (-L), .int .i64 1] : List Value)[jj]? = some uu → (V7.alloc (.cells #[.int .i64 (-D), .int .i64 (-L), .int .i64 1] 124)).cell? (Addr.add ⟨V7.heap.size, 0, none⟩ jj) = some uu)
          have RL' := Lib.hid (owns_below RL.out hbn)
          have RM' := Lib.hid (owns_below RM.out hbn)
          have Z' := Lib.hid (Z.out.below hbn)
          have BL' := Lib.hid (bC BL.out hbn)
          have HSZ := Lib.hid BL'.out.size
          have hln := HLN.out
          have hn8 : (leastB l core x k).length ≤ 8 := by omega
          have hm8 : (mostB l core x k).length ≤ 8 := by omega
          clear hbn BN0 BN RL RM Z BL hln
          go_wp2_with (at_builtin; refine wpList_append_at _ rfl (.tmp 68) (.tmp 74) 120 rfl w.heap.size 124 ib (.agg #[.int .i64 0, .int .i64 0, .int .i64 0]) 3 24 undB IB.out K0.out K1.out K2.out rfl (by decide) _ _ _ rfl RM'.out ⟨V7.heap.size, 0, none⟩ 1 1 [.int .i64 (-D), .int .i64 (-L), .int .i64 1] rfl rfl HNN.out (by intro u hu; simp only [List.mem_cons, List.not_mem_nil, or_false] at hu; rcases hu with rfl | rfl | rfl <;> rfl) (by unfold maxLen; omega) (by omega) HSZ.out ?_)
          intro v8 V8 own gr att
          replace att := att.elim Or.inl (fun e => Or.inr (e.trans (congrArg some (World.size_alloc V7 (.cells #[.int .i64 (-D), .int .i64 (-L), .int .i64 1] 124)).symm)))
          have RL := Lib.hid (owns_apart RL'.out (AP.symm).symm gr)
          have Z := Lib.hid (Z'.out.grown RM'.out (by decide) gr)
          have BL := Lib.hid (below_owns RM'.out gr BL'.out HSZ.out)
          have RM := Lib.hid own
          have AP2 := apart_grown RL'.out AP att
          clear AP
          have AP := AP2
          clear AP2 own gr att RL' RM' Z' BL' HSZ HNN hn8 hm8
          go_wp2
          go_roundw
          case rel =>
            refine ⟨k + 1, by go_num, by omega, ?_, ?_, AP, Z.out, BL.out⟩
            · have e3 := HSN.out.1
              rw [E1.out] at e3
              rw [e3, tripCells_snoc, List.length_append]
              exact RL.out
            · have e3 := HSN.out.2
              rw [E2.out] at e3
              rw [e3, tripCells_snoc, List.length_append]
              exact RM.out
          case measure => first | (simp [intOf]; done) | (simp [intOf]; omega)
        · have t2 : decide (D < (0 : Int)) = false := by have := HB.out; simp; omega
          have e1 := HLA.out.1
          have e2 := HLA.out.2
          rw [if_neg h1, if_neg h2] at e1 e2
          have e3 := HSN.out.1
          have e4 := HSN.out.2
          rw [e1, List.append_nil] at e3
          rw [e2, List.append_nil] at e4
          have E1 := Lib.hid e3
          have E2 := Lib.hid e4
          clear e1 e2 e3 e4
          go_wp2
          go_roundw
          case rel =>
            refine ⟨k + 1, by go_num, by omega, ?_, ?_, AP, Z.out, BL.out⟩
            · rw [E1.out]; exact RL.out
            · rw [E2.out]; exact RM.out
          case measure => first | (simp [intOf]; done) | (simp [intOf]; omega)
    · obtain rfl : k = l.at_.length := by omega
      have tk : decide ((l.at_.length : Int) < (l.at_.length : Int)) = false := by simp
      go_wp2
      refine bodyPost_ret (v := .tuple #[u8, u9]) (by simp [results, Tryd.results82, go_sem]) rfl ?_
      exact ⟨_, _, rfl, Row.trips (Row.of_owns RL.out), Row.trips (Row.of_owns RM.out), BL.out⟩
end Go.Proofs.YtlhldkiggmlegaaDoor
