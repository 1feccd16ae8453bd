import Derived.Test.YtlhldkiggmlegaaDoorNs
import Derived.Test.YtlhldkiggmlegaaDoorNo
import Derived.OwnWalk
namespace Go.Proofs.YtlhldkiggmlegaaDoor
open Go.RowKit Go.Shelf Go.Sort
attribute [local go_sem] Oper.semAt_some

/-! ## The law's own small functions -/
theorem to_any (a b : Int) (w : World) : Calls Tryd.prog 49 #[.int .i64 a, .int .i64 b] w fun e w' => e = .returned (.agg #[.int .i64 a, .int .i64 b]) ∧ Below w.heap.size w w' := by
  go_enter Tryd.func49, Tryd.ntmps49
  go_wp2
  exact bodyPost_ret (v := .agg #[.int .i64 a, .int .i64 b]) (by simp [results, Tryd.results49, go_sem]) rfl ⟨rfl, below1 _ _⟩
theorem by_any (a b : Int) (w : World) : Calls Tryd.prog 57 #[.int .i64 a, .int .i64 b] w fun e w' => e = .returned (.agg #[.int .i64 a, .int .i64 b]) ∧ Below w.heap.size w w' := by
  go_enter Tryd.func57, Tryd.ntmps57
  go_wp2
  exact bodyPost_ret (v := .agg #[.int .i64 a, .int .i64 b]) (by simp [results, Tryd.results57, go_sem]) rfl ⟨rfl, below1 _ _⟩
theorem line_any (a b c : Int) (w : World) : Calls Tryd.prog 47 #[.int .i64 a, .int .i64 b, .int .i64 c] w fun e w' => e = .returned (.agg #[.int .i64 a, .int .i64 b, .int .i64 c]) ∧ Below w.heap.size w w' := by
  go_enter Tryd.func47, Tryd.ntmps47
  go_wp2
  exact bodyPost_ret (v := .agg #[.int .i64 a, .int .i64 b, .int .i64 c]) (by simp [results, Tryd.results47, go_sem]) rfl ⟨rfl, below1 _ _⟩
theorem proof_any (a b c d : Int) (w : World) : Calls Tryd.prog 44 #[.int .i64 a, .int .i64 b, .int .i64 c, .int .i64 d] w fun e w' => e = .returned (.agg #[.int .i64 a, .int .i64 b, .int .i64 c, .int .i64 d]) ∧ Below w.heap.size w w' := by
  go_enter Tryd.func44, Tryd.ntmps44
  go_wp2
  exact bodyPost_ret (v := .agg #[.int .i64 a, .int .i64 b, .int .i64 c, .int .i64 d]) (by simp [results, Tryd.results44, go_sem]) rfl ⟨rfl, below1 _ _⟩

theorem longs_any (v : Value) (w : World) : Calls Tryd.prog 87 #[v] w fun e w' => e = .returned v ∧ w = w' := by
  go_enter Tryd.func87, Tryd.ntmps87
  go_wp2
  go_ret
  exact ⟨rfl, rfl⟩
theorem ranges_any (v : Value) (w : World) : Calls Tryd.prog 54 #[v] w fun e w' => e = .returned v ∧ w = w' := by
  go_enter Tryd.func54, Tryd.ntmps54
  go_wp2
  go_ret
  exact ⟨rfl, rfl⟩

/-! ## Rows of the call's own -/
theorem ne_types {W : World} {g B : Nat} {c d : Array Value} {e T : TypeId} {z y : Nat × Nat} (h : Blk W g (.cells c e z)) (hB : Blk W B (.cells d T y)) (hne : T ≠ e) : g ≠ B := by
  rintro rfl
  have := Option.some.inj (h.symm.trans hB)
  injection this with _ h2 _
  exact hne h2.symm
theorem owns_set {W : World} {base size n : Nat} {e T : TypeId} {v : Value} {xs : List Value} {B : Nat} {d : Array Value} {y : Nat × Nat} (h : W.ownsRow base e size v n xs) (hB : Blk W B (.cells d T y)) (hne : T ≠ e) (j : Nat) (u : Value) : (W.setCell ⟨B, j, none⟩ u).ownsRow base e size v n xs := by
  obtain ⟨h1, h2 | ⟨g, cap, cur, e1, e2, e3, e4⟩⟩ := h
  · exact ⟨h1, .inl h2⟩
  · exact ⟨h1, .inr ⟨g, cap, cur, e1, e2, Blk.other e3 (ne_types e3 hB hne) u, e4⟩⟩
theorem owns_below {W W' : World} {base size n : Nat} {e : TypeId} {v : Value} {xs : List Value} (h : W.ownsRow base e size v n xs) (hb : Below W.heap.size W W') : W'.ownsRow base e size v n xs := by
  obtain ⟨h1, h2 | ⟨g, cap, cur, e1, e2, e3, e4⟩⟩ := h
  · exact ⟨h1, .inl h2⟩
  · exact ⟨h1, .inr ⟨g, cap, cur, e1, e2, Blk.below e3 hb, e4⟩⟩
theorem Blk.grown {W W' : World} {base size n : Nat} {e T : TypeId} {v : Value} {xs : List Value} {B : Nat} {d : Array Value} {y : Nat × Nat} (hB : Blk W B (.cells d T y)) (h : W.ownsRow base e size v n xs) (hne : T ≠ e) (hg : W.grownBy W' v.ownBlock) : Blk W' B (.cells d T y) := by
  refine (hg.block B hB.lt ?_).trans hB
  obtain ⟨h1, h2 | ⟨g, cap, cur, e1, e2, e3, e4⟩⟩ := h
  · rw [h2.1]; intro h; cases h
  · rw [e1]
    intro h
    exact ne_types e3 hB hne (Option.some.inj h).symm
theorem owns_mono {W : World} {base base' size n : Nat} {e : TypeId} {v : Value} {xs : List Value} (h : W.ownsRow base e size v n xs) (hb : base' ≤ base) : W.ownsRow base' e size v n xs := by
  obtain ⟨h1, h2 | ⟨g, cap, cur, e1, e2, e3⟩⟩ := h
  · exact ⟨h1, .inl h2⟩
  · exact ⟨h1, .inr ⟨g, cap, cur, e1, by omega, e3⟩⟩
theorem below_owns {W W' : World} {w : World} {base size n : Nat} {e : TypeId} {v : Value} {xs : List Value} (h : W.ownsRow base e size v n xs) (hg : W.grownBy W' v.ownBlock) (hb : Below base w W) (hs : base ≤ W.heap.size) : Below base w W' := by
  refine hb.grown hg hs ?_
  obtain ⟨h1, h2 | ⟨g, cap, cur, e1, e2, e3, e4⟩⟩ := h
  · rw [h2.1]; intro k h; cases h
  · rw [e1]
    intro k h
    have := Option.some.inj h
    simp only at this
    omega

/-! ## Log: places, and two numbers for each of the edges -/
def pairsUp (es : List Int) (k : Nat) : List (Int × Int) := (List.range k).map fun j => (es.getD (2 * j) 0, es.getD (2 * j + 1) 0)
theorem pairsUp_snoc (es : List Int) (k : Nat) : pairsUp es (k + 1) = pairsUp es k ++ [(es.getD (2 * k) 0, es.getD (2 * k + 1) 0)] := by
  unfold pairsUp
  rw [List.range_succ, List.map_append]
  rfl
theorem pairsUp_len (es : List Int) (k : Nat) : (pairsUp es k).length = k := by simp [pairsUp]
theorem infoR : (Tryd.prog.info? 69).map (fun i => (i.zero, i.size, i.bytes)) = some (some (.agg #[.int .i64 0, .int .i64 0]), 2, 16) := by kernel_rfl
theorem undR : Tryd.prog.underlying 23 = some (.slice 69) := by kernel_rfl
set_option maxRecDepth 100000 in
set_option maxHeartbeats 2000000 in
theorem Log_any (va ve : Value) (ps es : List Int) (w : World) (hva : IntsAt w va ps) (hve : IntsAt w ve es) (hlen : es.length ≤ 100000) :
    Calls Tryd.prog 88 #[va, ve] w fun e w' => ∃ v, e = .returned v ∧ LogAt w' v ⟨ps, pairsUp es (es.length / 2)⟩ ∧ Below w.heap.size w w' := by
  have HVA := Lib.hid hva
  obtain ⟨a0, cap0, rfl⟩ := hva.slice
  obtain ⟨a, cap, rfl, hc⟩ := hve
  have hat := (IntsAt.at (w := w) (a := a) (n := es.length) (cap := cap) ⟨a, cap, rfl, hc⟩).2
  have HA := Lib.hid hat
  clear hat hc hva
  obtain ⟨i0, hi, hz0, hz1, hz2⟩ := info_parts infoR
  have HI := Lib.hid hi
  have HZ0 := Lib.hid hz0
  have HZ1 := Lib.hid hz1
  have HZ2 := Lib.hid hz2
  clear hi hz0 hz1 hz2
  go_enter Tryd.func88, Tryd.ntmps88
  go_wp2_with fail
  go_loopw [6] (fun i wr => ∃ (k j : Nat) (v' : Value), j = 2 * k ∧ j ≤ es.length ∧ i = .int .i64 j ∧ wr.ownsRow w.heap.size 69 2 v' k (pairCells (pairsUp es k)) ∧ Blk wr (w.heap.size + 1) (.cells #[.slice a0 ps.length cap0, v'] 25) ∧ Blk wr w.heap.size (.cells #[.slice none 0 0, .slice none 0 0] 25) ∧ Below w.heap.size w wr) (fun i _ => es.length - (intOf i).toNat)
  case atStart =>
    have b4 : Blk ((w.alloc (.cells #[.slice none 0 0, .slice none 0 0] 25)).alloc (.cells #[.slice a0 ps.length cap0, .slice none 0 0] 25)) w.heap.size (.cells #[.slice none 0 0, .slice none 0 0] 25) := (Blk.new w _).alloc _
    have b5 := Blk.new (w.alloc (.cells #[.slice none 0 0, .slice none 0 0] 25)) (.cells #[.slice a0 ps.length cap0, .slice none 0 0] 25)
    rw [World.size_alloc] at b5
    exact ⟨0, 0, .slice none 0 0, rfl, Nat.zero_le _, rfl, ⟨rfl, .inl ⟨rfl, rfl⟩⟩, b5, b4, below2 _ _ _⟩
  case round =>
    rename_i wr
    obtain ⟨k, j, v', hjk, hk, rfl, hown, hB5, hB4, hB⟩ := hrel
    have hkk : k ≤ 50000 := by omega
    have HJ := Lib.hid hjk
    clear hjk
    obtain ⟨av, nv, cv, rfl⟩ := (Row.of_owns hown).slice
    have hl5 := hB5.lt
    have hsz := hB.size
    by_cases hlt : j + 1 < es.length
    · obtain ⟨b, off, rfl, h1⟩ := HA.out j (by omega)
      obtain ⟨b', off', e, h2⟩ := HA.out (j + 1) hlt
      obtain ⟨rfl, rfl⟩ : b = b' ∧ off = off' := by simpa using e
      clear e
      have g1 := cellB h1 hB
      have g2 := cellB h2 hB
      have HX := Lib.hid (show es[j] = es.getD j 0 by simp [show j < es.length by omega])
      have HY := Lib.hid (show es[j + 1] = es.getD (j + 1) 0 by simp [hlt])
      rw [HX.out] at g1
      rw [HY.out] at g2
      obtain ⟨x, hx⟩ : ∃ x, es.getD j 0 = x := ⟨_, rfl⟩
      obtain ⟨y, hy⟩ : ∃ y, es.getD (j + 1) 0 = y := ⟨_, rfl⟩
      rw [hx] at g1
      rw [hy] at g2
      have HXX := Lib.hid hx
      have HYY := Lib.hid hy
      clear hx hy
      have q1 : wr.cell? ⟨w.heap.size + 1, 1, none⟩ = some (.slice av nv cv) := by rw [hB5.cell]; rfl
      have z0 : j < es.length := by omega
      have z1 : (0 : Int) ≤ (j : Int) + 1 := by omega
      have z2 : (j : Int) + 1 < (es.length : Int) := by omega
      have z3 : ((j : Int) + 1).toNat = j + 1 := by omega
      have wr1 : IntKind.i64.wrap ((j : Int) + 1) = (j : Int) + 1 := IntWalk.i64_in _ (by omega)
      have HOWN := Lib.hid hown
      have HB5 := Lib.hid hB5
      have HB4 := Lib.hid hB4
      have HB := Lib.hid hB
      clear hown hB5 hB4 hB h1 h2
      go_wp2_with fail
      refine wp_region_T 13 (fun W' => W'.cell? ⟨w.heap.size + 1, 1, none⟩ = some (.slice av nv cv) ∧ W'.cell? ⟨b, off + j, none⟩ = some (.int .i64 x) ∧ W'.cell? ⟨b, off + (j + 1), none⟩ = some (.int .i64 y)) (by kernel_rfl) (by kernel_rfl) ⟨q1, g1, g2⟩ ?_
      intro inv hS
      refine wpAnyT_take inv (by kernel_rfl) (by omega) (i := 0) (v := .pointer (some ⟨w.heap.size + 1, 1, none⟩)) rfl (by kernel_rfl) (by kernel_rfl) (fun _ _ _ h => h) (Or.inl ⟨by rfl, ?_⟩) (by assumption) ?_
      · rintro W' ⟨s0, s1, s2⟩
        go_simp
      intro inv
      simp only [Act.put, List.setIfInBounds_toArray]
      refine wpAnyT_take inv (by kernel_rfl) (by omega) (i := 1) (v := .slice av nv cv) rfl (by kernel_rfl) (by kernel_rfl) (fun _ _ _ h => h) (Or.inl ⟨by rfl, ?_⟩) (by assumption) ?_
      · rintro W' ⟨s0, s1, s2⟩
        go_simp
      intro inv
      simp only [Act.put]
      refine wpAnyT_take inv (by kernel_rfl) (by omega) (i := 2) (v := .slice (some ⟨b, off, none⟩) es.length cap) rfl (by kernel_rfl) (by kernel_rfl) (fun _ _ _ h => h) (Or.inl ⟨by rfl, ?_⟩) (by assumption) ?_
      · rintro W' ⟨s0, s1, s2⟩
        go_simp
      intro inv
      simp only [Act.put]
      refine wpAnyT_take inv (by kernel_rfl) (by omega) (i := 3) (v := .int .i64 j) rfl (by kernel_rfl) (by kernel_rfl) (fun _ _ _ h => h) (Or.inl ⟨by rfl, ?_⟩) (by assumption) ?_
      · rintro W' ⟨s0, s1, s2⟩
        go_simp
      intro inv
      simp only [Act.put]
      refine wpAnyT_take inv (by kernel_rfl) (by omega) (i := 4) (v := .pointer (some ⟨b, off + j, none⟩)) rfl (by kernel_rfl) (by kernel_rfl) (fun _ _ _ h => h) (Or.inl ⟨by rfl, ?_⟩) (by assumption) ?_
      · rintro W' ⟨s0, s1, s2⟩
        go_simp
      intro inv
      simp only [Act.put]
      refine wpAnyT_take inv (by kernel_rfl) (by omega) (i := 5) (v := .int .i64 x) rfl (by kernel_rfl) (by kernel_rfl) (fun _ _ _ h => h) (Or.inl ⟨by rfl, ?_⟩) (by assumption) ?_
      · rintro W' ⟨s0, s1, s2⟩
        go_simp
      intro inv
      simp only [Act.put]
      refine wpAnyT_take inv (by kernel_rfl) (by omega) (i := 6) (v := .slice (some ⟨b, off, none⟩) es.length cap) rfl (by kernel_rfl) (by kernel_rfl) (fun _ _ _ h => h) (Or.inl ⟨by rfl, ?_⟩) (by assumption) ?_
      · rintro W' ⟨s0, s1, s2⟩
        go_simp
      intro inv
      simp only [Act.put]
      refine wpAnyT_take inv (by kernel_rfl) (by omega) (i := 7) (v := .int .i64 j) rfl (by kernel_rfl) (by kernel_rfl) (fun _ _ _ h => h) (Or.inl ⟨by rfl, ?_⟩) (by assumption) ?_
      · rintro W' ⟨s0, s1, s2⟩
        go_simp
      intro inv
      simp only [Act.put]
      refine wpAnyT_take inv (by kernel_rfl) (by omega) (i := 8) (v := .int .i64 ((j : Int) + 1)) rfl (by kernel_rfl) (by kernel_rfl) (fun _ _ _ h => h) (Or.inl ⟨by rfl, ?_⟩) (by assumption) ?_
      · rintro W' ⟨s0, s1, s2⟩
        go_simp
      intro inv
      simp only [Act.put]
      refine wpAnyT_take inv (by kernel_rfl) (by omega) (i := 9) (v := .pointer (some ⟨b, off + (j + 1), none⟩)) rfl (by kernel_rfl) (by kernel_rfl) (fun _ _ _ h => h) (Or.inl ⟨by rfl, ?_⟩) (by assumption) ?_
      · rintro W' ⟨s0, s1, s2⟩
        go_simp
      intro inv
      simp only [Act.put]
      refine wpAnyT_take inv (by kernel_rfl) (by omega) (i := 10) (v := .int .i64 y) rfl (by kernel_rfl) (by kernel_rfl) (fun _ _ _ h => h) (Or.inl ⟨by rfl, ?_⟩) (by assumption) ?_
      · rintro W' ⟨s0, s1, s2⟩
        go_simp
      intro inv
      simp only [Act.put]

      refine wpAnyT_ready [11] (by kernel_rfl) (by simp) ?_
      refine AllReadyT.cons rfl (fun K hK => ?_) AllReadyT.nil
      go_simp
      refine (to_any x y _).mono ?_
      rintro e w2 ⟨rfl, hb2⟩
      have hb2' : Below wr.heap.size wr w2 := ((Below.refl wr.heap.size wr).drew).trans hb2
      have t0 := cellB q1 hb2'
      have t1 := cellB g1 hb2'
      have t2 := cellB g2 hb2'
      refine hK.out _ _ (fun _ => ⟨t0, t1, t2⟩) (fun _ => ?_)
      clear hK K
      refine wpAnyT_ready [12] (by kernel_rfl) (by simp) ?_
      refine AllReadyT.cons rfl (fun K hK => ?_) AllReadyT.nil
      go_simp
      refine hK.out _ _ (fun _ => ⟨cellB t0 (below1 _ _), cellB t1 (below1 _ _), cellB t2 (below1 _ _)⟩) (fun _ => ?_)
      clear hK K
      refine wpAnyT_chain (fuel := 3) rfl (by kernel_rfl) ?_
      simp only [List.drop_succ_cons, List.drop_zero]
      have hbA : Below wr.heap.size wr (w2.alloc (.cells #[.int .i64 x, .int .i64 y] 69)) := hb2'.alloc hb2'.size _
      have ownA := owns_below HOWN.out hbA
      have bA5 := HB5.out.below hbA
      have bA4 := HB4.out.below hbA
      have belA := HB.out.trans (hbA.mono HB.out.size)
      have new0 := (Blk.new w2 (.cells #[.int .i64 x, .int .i64 y] 69)).cell
      have lbA := bA5.lt
      clear t0 t1 t2 hb2 hS inv q1 g1 g2
      generalize hWA : w2.alloc (.cells #[.int .i64 x, .int .i64 y] 69) = WA at *
      have HN : ∀ m u, [Value.int IntKind.i64 x, Value.int IntKind.i64 y][m]? = some u → WA.cell? (Addr.add ⟨w2.heap.size, 0, none⟩ m) = some u := by
        intro m u hu
        have e1 : (Addr.add ⟨w2.heap.size, 0, none⟩ m) = ⟨w2.heap.size, m, none⟩ := by unfold Addr.add; split <;> simp_all
        rw [e1, new0 m]
        simpa using hu
      have HNH := Lib.hid HN
      clear HN new0 hWA
      refine wpList_append_own _ rfl _ _ 23 rfl w.heap.size 69 i0 (.agg #[.int .i64 0, .int .i64 0]) 2 16 undR HI.out HZ0.out HZ1.out HZ2.out rfl (by decide) _ _ _ rfl ownA ⟨w2.heap.size, 0, none⟩ 1 1 [.int .i64 x, .int .i64 y] rfl rfl HNH.out (by intro u hu; simp only [List.mem_cons, List.not_mem_nil, or_false] at hu; rcases hu with rfl | rfl <;> rfl) (by unfold maxLen; omega) (by omega) (by omega) ?_
      intro v2 w3 own3 gr3 _
      obtain ⟨a2, n2, c2, rfl⟩ := (Row.of_owns own3).slice
      have b5 := bA5.grown ownA (by decide) gr3
      have b4 := bA4.grown ownA (by decide) gr3
      have bel := below_owns ownA gr3 belA (by omega)
      have u1 := b5.cell 1
      have f1 := b5.frozen 1
      have ltb := b5.lt
      simp at u1
      have OWN3 := Lib.hid own3
      have GR3 := Lib.hid gr3
      have BEL := Lib.hid bel
      have b5' := Lib.hid (b5.set (j := 1) (.slice a2 n2 c2))
      have b4' := Lib.hid (b4.other (b := w.heap.size + 1) (j := 1) (by omega) (.slice a2 n2 c2))
      have O3 := Lib.hid (owns_set own3 b5 (by decide) 1 (.slice a2 n2 c2))
      clear b5 b4 ownA bA5 bA4 belA own3 gr3 bel HNH hbA hb2'
      go_wp2
      go_roundw
      case rel =>
        refine ⟨k + 1, j + 2, .slice a2 n2 c2, by have := HJ.out; omega, by omega, by go_num, ?_, ?_, b4'.out, BEL.out.setCell (by simp) _⟩
        · rw [pairsUp_snoc, pairCells_snoc, ← HJ.out, HXX.out, HYY.out]
          exact O3.out
        · exact b5'.out
      case measure => simp [intOf]; omega
    · have u0 := hB5.cell 0
      have u1 := hB5.cell 1
      have u2 := hB4.cell 0
      have u3 := hB4.cell 1
      have f0 := hB4.frozen 0
      have f1 := hB4.frozen 1
      have lt4 := hB4.lt
      simp at u0 u1 u2 u3
      have U := (hB4.set (j := 0) (.slice a0 ps.length cap0)).set (j := 1) (.slice av nv cv)
      have v0 := U.cell 0
      have v1 := U.cell 1
      simp at v0 v1
      have HOWN := Lib.hid (owns_set (owns_set hown hB4 (by decide) 0 (.slice a0 ps.length cap0)) (hB4.set (j := 0) (.slice a0 ps.length cap0)) (by decide) 1 (.slice av nv cv))
      have HBB := Lib.hid ((hB.setCell (p := ⟨w.heap.size, 0, none⟩) (Nat.le_refl _) (.slice a0 ps.length cap0)).setCell (p := ⟨w.heap.size, 1, none⟩) (Nat.le_refl _) (.slice av nv cv))
      have hk2 : es.length / 2 = k := by have := HJ.out; omega
      have HK2 := Lib.hid hk2
      clear hown hB5 hB4 hB U hk2
      have ht : decide ((j : Int) + 1 < (es.length : Int)) = false := by simp; omega
      go_wp2
      refine bodyPost_ret (v := .agg #[.slice a0 ps.length cap0, .slice av nv cv]) (by simp [results, Tryd.results88, go_sem, v0, v1]) rfl ?_
      refine ⟨_, rfl, ⟨_, _, rfl, HVA.out.below HBB.out, ?_⟩, HBB.out⟩
      rw [HK2.out]
      have := Row.pairs (l := pairsUp es k) (by rw [pairsUp_len]; exact Row.of_owns HOWN.out)
      exact this
end Go.Proofs.YtlhldkiggmlegaaDoor

namespace Go.Proofs.YtlhldkiggmlegaaDoor
open Go.RowKit Go.Shelf Go.Sort
attribute [local go_sem] Oper.semAt_some

/-! ## The logs of the examples -/
theorem IntsAt.blk {W : World} {k cap : Nat} {T : TypeId} {z : Nat × Nat} (l : List Int) (h : Blk W k (.cells (l.map (Value.int .i64)).toArray T z)) : IntsAt W (.slice (some ⟨k, 0, none⟩) l.length cap) l :=
  ⟨_, cap, rfl, fun _ => ⟨k, 0, rfl, fun i hi => by rw [h.cell]; simp [hi]⟩⟩
def threeD : LogD := ⟨[0, 2, 4], [(0, 6), (1, 8), (0, 6)]⟩
def twoD : LogD := ⟨[0, 1], [(0, 4), (2, 10)]⟩
def roughD : RoughD := ⟨[0, 2, 4], [(0, 1), (1, 1), (0, 0)], [(6, 6), (8, 9), (6, 6)]⟩
theorem IntsAt.over {W : World} {v s : Value} {l : List Int} {p : Addr} (h : IntsAt W v l) (hp : W.cell? p = some s) (hs : ∀ n, s ≠ .int .i64 n) (u : Value) : IntsAt (W.setCell p u) v l := by
  obtain ⟨a, cap, e, hc⟩ := h
  refine ⟨a, cap, e, fun hne => ?_⟩
  obtain ⟨b, off, ea, hc⟩ := hc hne
  refine ⟨b, off, ea, fun i hi => (World.cell?_setCell_other _ _ _ _ ?_).trans (hc i hi)⟩
  rintro rfl
  exact hs _ (Option.some.inj (hp.symm.trans (hc i hi)))
theorem PairsAt.over {W : World} {v s : Value} {l : List (Int × Int)} {p : Addr} (h : PairsAt W v l) (hp : W.cell? p = some s) (hs : ∀ n, s ≠ .int .i64 n) (u : Value) : PairsAt (W.setCell p u) v l := by
  obtain ⟨a, cap, e, hc⟩ := h
  refine ⟨a, cap, e, fun hne => ?_⟩
  obtain ⟨b, off, ea, hc⟩ := hc hne
  refine ⟨b, off, ea, fun i hi => ⟨(World.cell?_setCell_other _ _ _ _ ?_).trans (hc i hi).1, (World.cell?_setCell_other _ _ _ _ ?_).trans (hc i hi).2⟩⟩
  · rintro rfl
    exact hs _ (Option.some.inj (hp.symm.trans (hc i hi).1))
  · rintro rfl
    exact hs _ (Option.some.inj (hp.symm.trans (hc i hi).2))
theorem three_any (w : World) : Calls Tryd.prog 55 #[] w fun e w' => ∃ v, e = .returned v ∧ LogAt w' v threeD ∧ Below w.heap.size w w' := by
  have b1 := (Blk.new (w.alloc (.cells #[.slice none 0 0, .slice none 0 0] 25)) (.cells #[.int .i64 0, .int .i64 2, .int .i64 4] 2)).alloc (.cells #[.int .i64 0, .int .i64 6, .int .i64 1, .int .i64 8, .int .i64 0, .int .i64 6] 2)
  have b2 := Blk.new ((w.alloc (.cells #[.slice none 0 0, .slice none 0 0] 25)).alloc (.cells #[.int .i64 0, .int .i64 2, .int .i64 4] 2)) (.cells #[.int .i64 0, .int .i64 6, .int .i64 1, .int .i64 8, .int .i64 0, .int .i64 6] 2)
  have b0 := ((Blk.new w (.cells #[.slice none 0 0, .slice none 0 0] 25)).alloc (.cells #[.int .i64 0, .int .i64 2, .int .i64 4] 2)).alloc (.cells #[.int .i64 0, .int .i64 6, .int .i64 1, .int .i64 8, .int .i64 0, .int .i64 6] 2)
  have hB := below3 w (.cells #[.slice none 0 0, .slice none 0 0] 25) (.cells #[.int .i64 0, .int .i64 2, .int .i64 4] 2) (.cells #[.int .i64 0, .int .i64 6, .int .i64 1, .int .i64 8, .int .i64 0, .int .i64 6] 2)
  simp only [World.size_alloc] at b1 b2
  have HLC := Lib.hid (Log_any _ _ [0, 2, 4] [0, 6, 1, 8, 0, 6] _ (IntsAt.blk (cap := 3) [0, 2, 4] b1) (IntsAt.blk (cap := 6) [0, 6, 1, 8, 0, 6] b2) (by decide))
  have B0 := Lib.hid b0
  have HB := Lib.hid hB
  clear b0 b1 b2 hB
  go_enter Tryd.func55, Tryd.ntmps55
  go_wp2_with fail
  refine (longs_any _ _).mono ?_
  rintro e w1 ⟨rfl, rfl⟩
  go_wp2_with fail
  refine HLC.out.mono ?_
  rintro e w2 ⟨v, rfl, hL, hb⟩
  obtain ⟨va, ve, rfl, hA, hE⟩ := hL
  obtain ⟨a, cap, rfl⟩ := hA.slice
  obtain ⟨a', cap', rfl⟩ := hE.slice
  have R := B0.out.below hb
  have HB2 := Lib.hid (HB.out.trans (hb.mono HB.out.size))
  have f0 := R.frozen 0
  have f1 := R.frozen 1
  have u0 := R.cell 0
  have u1 := R.cell 1
  have ltr := R.lt
  simp at u0 u1
  have U := (R.set (j := 0) (.slice a 3 cap)).set (j := 1) (.slice a' (pairsUp [0, 6, 1, 8, 0, 6] 3).length cap')
  have v0 := U.cell 0
  have v1 := U.cell 1
  simp at v0 v1
  have HA := Lib.hid hA
  have HE := Lib.hid hE
  have HA2 := Lib.hid ((hA.over u0 (by intro n h; cases h) (.slice a 3 cap)).over (p := ⟨w.heap.size, 1, none⟩) (s := .slice none 0 0) (by rw [World.cell?_setCell_other _ _ _ _ (by simp)]; exact u1) (by intro n h; cases h) (.slice a' (pairsUp [0, 6, 1, 8, 0, 6] 3).length cap'))
  have HE2 := Lib.hid ((hE.over u0 (by intro n h; cases h) (.slice a 3 cap)).over (p := ⟨w.heap.size, 1, none⟩) (s := .slice none 0 0) (by rw [World.cell?_setCell_other _ _ _ _ (by simp)]; exact u1) (by intro n h; cases h) (.slice a' (pairsUp [0, 6, 1, 8, 0, 6] 3).length cap'))
  clear U R hb hA hE HA HE
  go_wp2
  refine bodyPost_ret (v := .agg #[.slice a 3 cap, .slice a' (pairsUp [0, 6, 1, 8, 0, 6] 3).length cap']) (by simp [results, Tryd.results55, go_sem, v0, v1]) rfl ?_
  exact ⟨_, rfl, ⟨_, _, rfl, HA2.out, HE2.out⟩, (HB2.out.setCell (by simp) _).setCell (by simp) _⟩
theorem two_any (w : World) : Calls Tryd.prog 56 #[] w fun e w' => ∃ v, e = .returned v ∧ LogAt w' v twoD ∧ Below w.heap.size w w' := by
  have b1 := (Blk.new (w.alloc (.cells #[.slice none 0 0, .slice none 0 0] 25)) (.cells #[.int .i64 0, .int .i64 1] 2)).alloc (.cells #[.int .i64 0, .int .i64 4, .int .i64 2, .int .i64 10] 2)
  have b2 := Blk.new ((w.alloc (.cells #[.slice none 0 0, .slice none 0 0] 25)).alloc (.cells #[.int .i64 0, .int .i64 1] 2)) (.cells #[.int .i64 0, .int .i64 4, .int .i64 2, .int .i64 10] 2)
  have b0 := ((Blk.new w (.cells #[.slice none 0 0, .slice none 0 0] 25)).alloc (.cells #[.int .i64 0, .int .i64 1] 2)).alloc (.cells #[.int .i64 0, .int .i64 4, .int .i64 2, .int .i64 10] 2)
  have hB := below3 w (.cells #[.slice none 0 0, .slice none 0 0] 25) (.cells #[.int .i64 0, .int .i64 1] 2) (.cells #[.int .i64 0, .int .i64 4, .int .i64 2, .int .i64 10] 2)
  simp only [World.size_alloc] at b1 b2
  have HLC := Lib.hid (Log_any _ _ [0, 1] [0, 4, 2, 10] _ (IntsAt.blk (cap := 2) [0, 1] b1) (IntsAt.blk (cap := 4) [0, 4, 2, 10] b2) (by decide))
  have B0 := Lib.hid b0
  have HB := Lib.hid hB
  clear b0 b1 b2 hB
  go_enter Tryd.func56, Tryd.ntmps56
  go_wp2_with fail
  refine (longs_any _ _).mono ?_
  rintro e w1 ⟨rfl, rfl⟩
  go_wp2_with fail
  refine HLC.out.mono ?_
  rintro e w2 ⟨v, rfl, hL, hb⟩
  obtain ⟨va, ve, rfl, hA, hE⟩ := hL
  obtain ⟨a, cap, rfl⟩ := hA.slice
  obtain ⟨a', cap', rfl⟩ := hE.slice
  have R := B0.out.below hb
  have HB2 := Lib.hid (HB.out.trans (hb.mono HB.out.size))
  have f0 := R.frozen 0
  have f1 := R.frozen 1
  have u0 := R.cell 0
  have u1 := R.cell 1
  have ltr := R.lt
  simp at u0 u1
  have U := (R.set (j := 0) (.slice a 2 cap)).set (j := 1) (.slice a' (pairsUp [0, 4, 2, 10] 2).length cap')
  have v0 := U.cell 0
  have v1 := U.cell 1
  simp at v0 v1
  have HA := Lib.hid hA
  have HE := Lib.hid hE
  have HA2 := Lib.hid ((hA.over u0 (by intro n h; cases h) (.slice a 2 cap)).over (p := ⟨w.heap.size, 1, none⟩) (s := .slice none 0 0) (by rw [World.cell?_setCell_other _ _ _ _ (by simp)]; exact u1) (by intro n h; cases h) (.slice a' (pairsUp [0, 4, 2, 10] 2).length cap'))
  have HE2 := Lib.hid ((hE.over u0 (by intro n h; cases h) (.slice a 2 cap)).over (p := ⟨w.heap.size, 1, none⟩) (s := .slice none 0 0) (by rw [World.cell?_setCell_other _ _ _ _ (by simp)]; exact u1) (by intro n h; cases h) (.slice a' (pairsUp [0, 4, 2, 10] 2).length cap'))
  clear U R hb hA hE HA HE
  go_wp2
  refine bodyPost_ret (v := .agg #[.slice a 2 cap, .slice a' (pairsUp [0, 4, 2, 10] 2).length cap']) (by simp [results, Tryd.results56, go_sem, v0, v1]) rfl ?_
  exact ⟨_, rfl, ⟨_, _, rfl, HA2.out, HE2.out⟩, (HB2.out.setCell (by simp) _).setCell (by simp) _⟩

theorem PairsAt.blk {W : World} {k cap : Nat} {T : TypeId} {z : Nat × Nat} (l : List (Int × Int)) (h : Blk W k (.cells (pairCells l).toArray T z)) : PairsAt W (.slice (some ⟨k, 0, none⟩) l.length cap) l := by
  refine ⟨_, cap, rfl, fun _ => ⟨k, 0, rfl, fun i hi => ?_⟩⟩
  obtain ⟨c1, c2⟩ := pairCells_get l i hi
  rw [h.cell, h.cell, Nat.zero_add]
  simp only [List.getElem?_toArray]
  exact ⟨c1, c2⟩
theorem rough_any (w : World) : Calls Tryd.prog 58 #[] w fun e w' => ∃ v, e = .returned v ∧ RoughAt w' v roughD ∧ Below w.heap.size w w' := by
  go_enter Tryd.func58, Tryd.ntmps58
  go_wp2_with fail
  refine (longs_any _ _).mono ?_
  rintro e w1 ⟨rfl, rfl⟩
  have b0 := (Blk.new w (.cells #[.slice none 0 0, .slice none 0 0, .slice none 0 0] 53)).alloc (.cells #[.int .i64 0, .int .i64 2, .int .i64 4] 2)
  have b1 := Blk.new (w.alloc (.cells #[.slice none 0 0, .slice none 0 0, .slice none 0 0] 53)) (.cells #[.int .i64 0, .int .i64 2, .int .i64 4] 2)
  have hB := below2 w (.cells #[.slice none 0 0, .slice none 0 0, .slice none 0 0] 53) (.cells #[.int .i64 0, .int .i64 2, .int .i64 4] 2)
  simp only [World.size_alloc] at b1
  generalize (w.alloc (.cells #[.slice none 0 0, .slice none 0 0, .slice none 0 0] 53)).alloc (.cells #[.int .i64 0, .int .i64 2, .int .i64 4] 2) = W1 at *
  have B0 := Lib.hid b0
  have B1 := Lib.hid b1
  have HB := Lib.hid hB
  clear b0 b1 hB
  go_wp2_with fail
  refine (to_any _ _ _).mono ?_
  rintro e w2 ⟨rfl, hb2⟩
  go_wp2_with fail
  refine (to_any _ _ _).mono ?_
  rintro e w3 ⟨rfl, hb3⟩
  go_wp2_with fail
  refine (to_any _ _ _).mono ?_
  rintro e w4 ⟨rfl, hb4⟩
  have hb : Below W1.heap.size W1 w4 := (hb2.trans (hb3.mono hb2.size)).trans (hb4.mono (Nat.le_trans hb2.size hb3.size))
  have HBA := Lib.hid hb
  clear hb hb2 hb3 hb4
  go_wp2_with fail
  refine (ranges_any _ _).mono ?_
  rintro e w5 ⟨rfl, rfl⟩
  have n1 := Blk.new w4 (.cells #[.int .i64 0, .int .i64 1, .int .i64 1, .int .i64 1, .int .i64 0, .int .i64 0] 69)
  have m1 := bA HBA.out (o := .cells #[.int .i64 0, .int .i64 1, .int .i64 1, .int .i64 1, .int .i64 0, .int .i64 0] 69)
  generalize hg : w4.heap.size = g at *
  generalize w4.alloc (.cells #[.int .i64 0, .int .i64 1, .int .i64 1, .int .i64 1, .int .i64 0, .int .i64 0] 69) = W5 at *
  have N1 := Lib.hid n1
  have M1 := Lib.hid m1
  clear n1 m1 hg
  go_wp2_with fail
  refine (to_any _ _ _).mono ?_
  rintro e w6 ⟨rfl, hb2⟩
  go_wp2_with fail
  refine (to_any _ _ _).mono ?_
  rintro e w7 ⟨rfl, hb3⟩
  go_wp2_with fail
  refine (to_any _ _ _).mono ?_
  rintro e w8 ⟨rfl, hb4⟩
  have hb : Below W5.heap.size W5 w8 := (hb2.trans (hb3.mono hb2.size)).trans (hb4.mono (Nat.le_trans hb2.size hb3.size))
  have HBB := Lib.hid hb
  clear hb hb2 hb3 hb4
  go_wp2_with fail
  refine (ranges_any _ _).mono ?_
  rintro e w9 ⟨rfl, rfl⟩
  have n2 := Blk.new w8 (.cells #[.int .i64 6, .int .i64 6, .int .i64 8, .int .i64 9, .int .i64 6, .int .i64 6] 69)
  have m2 := bA HBB.out (o := .cells #[.int .i64 6, .int .i64 6, .int .i64 8, .int .i64 9, .int .i64 6, .int .i64 6] 69)
  generalize hg : w8.heap.size = k at *
  generalize w8.alloc (.cells #[.int .i64 6, .int .i64 6, .int .i64 8, .int .i64 9, .int .i64 6, .int .i64 6] 69) = W9 at *
  clear hg
  have R := (B0.out.below M1.out).below m2
  have iA := (IntsAt.blk (cap := 3) [0, 2, 4] B1.out).below (M1.out.trans (m2.mono M1.out.size))
  have iL := (PairsAt.blk (cap := 3) [(0, 1), (1, 1), (0, 0)] N1.out).below m2
  have iH := PairsAt.blk (cap := 3) [(6, 6), (8, 9), (6, 6)] n2
  have HB9 := Lib.hid ((HB.out.trans (M1.out.mono HB.out.size)).trans (m2.mono (Nat.le_trans HB.out.size M1.out.size)))
  have f0 := R.frozen 0
  have f1 := R.frozen 1
  have f2 := R.frozen 2
  have u0 := R.cell 0
  have u1 := R.cell 1
  have u2 := R.cell 2
  have ltr := R.lt
  simp at u0 u1 u2
  have U0 := R.set (j := 0) (.slice (some ⟨w.heap.size + 1, 0, none⟩) 3 3)
  have U1 := U0.set (j := 1) (.slice (some ⟨g, 0, none⟩) 3 3)
  have U2 := U1.set (j := 2) (.slice (some ⟨k, 0, none⟩) 3 3)
  have v0 := U2.cell 0
  have v1 := U2.cell 1
  have v2 := U2.cell 2
  have q1 := U0.cell 1
  have q2 := U1.cell 2
  simp at v0 v1 v2 q1 q2
  have JA := Lib.hid (((iA.over u0 (by intro n h; cases h) (.slice (some ⟨w.heap.size + 1, 0, none⟩) 3 3)).over q1 (by intro n h; cases h) (.slice (some ⟨g, 0, none⟩) 3 3)).over q2 (by intro n h; cases h) (.slice (some ⟨k, 0, none⟩) 3 3))
  have JL := Lib.hid (((iL.over u0 (by intro n h; cases h) (.slice (some ⟨w.heap.size + 1, 0, none⟩) 3 3)).over q1 (by intro n h; cases h) (.slice (some ⟨g, 0, none⟩) 3 3)).over q2 (by intro n h; cases h) (.slice (some ⟨k, 0, none⟩) 3 3))
  have JH := Lib.hid (((iH.over u0 (by intro n h; cases h) (.slice (some ⟨w.heap.size + 1, 0, none⟩) 3 3)).over q1 (by intro n h; cases h) (.slice (some ⟨g, 0, none⟩) 3 3)).over q2 (by intro n h; cases h) (.slice (some ⟨k, 0, none⟩) 3 3))
  clear R U0 U1 U2 q1 q2 iA iL iH n2 m2
  go_wp2
  refine bodyPost_ret (v := .agg #[.slice (some ⟨w.heap.size + 1, 0, none⟩) 3 3, .slice (some ⟨g, 0, none⟩) 3 3, .slice (some ⟨k, 0, none⟩) 3 3]) (by simp [results, Tryd.results58, go_sem, v0, v1, v2]) rfl ?_
  exact ⟨_, rfl, ⟨_, _, _, rfl, JA.out, JL.out, JH.out⟩, ((HB9.out.setCell (by simp) _).setCell (by simp) _).setCell (by simp) _⟩
end Go.Proofs.YtlhldkiggmlegaaDoor
