import Derived.Test.YtnkeikhkafbokaaQu
import Derived.ChangeKeysEq
import Derived.Deep.MidRow
import Derived.Scope
namespace Go.Proofs.Ytnkeikhkafbokaa
open Go.RowKit Go.Dag Go.Sort Go.Shelf
attribute [local go_sem] Oper.semAt_some

/-! ## The program: lists that grow, lists of their own -/
set_option maxRecDepth 100000 in
set_option maxHeartbeats 2000000 in
theorem grownS_any (v : Value) (n : Nat) (xs : List Value) (x y : Int) (w : World) (hrow : Row w v n 2 xs) (hn : n ≤ 1000000) :
    Calls Try.prog 77 #[v, .agg #[.int .i64 x, .int .i64 y]] w (Grew w (n + 1) 2 (xs ++ [.int .i64 x, .int .i64 y])) := by
  obtain ⟨a, cap, rfl, hcap, hnone, hcells, hlen⟩ := hrow.cells
  obtain ⟨i0, hi, hz0', hz1, hz2⟩ := info_parts infoS
  clear hrow
  go_enter Try.func77, Try.ntmps77
  go_wp2
  obtain ⟨W0, hW0⟩ : ∃ W0, w.alloc (.cells #[.int .i64 x, .int .i64 y] 56) = W0 := ⟨_, rfl⟩
  have hB0 : Below w.heap.size w W0 := by rw [← hW0]; exact below1 _ _
  have hcc : Blk W0 w.heap.size (.cells #[.int .i64 x, .int .i64 y] 56) := by rw [← hW0]; exact Blk.new _ _
  have hz0 : W0.heap.size = w.heap.size + 1 := by rw [← hW0]; simp
  rw [hW0]
  clear hW0
  have c0 : W0.cell? ⟨w.heap.size, 0, none⟩ = some (.int .i64 x) := by rw [hcc.cell]; simp
  have c1 : W0.cell? ⟨w.heap.size, 1, none⟩ = some (.int .i64 y) := by rw [hcc.cell]; simp
  have hn0 : ¬ (n : Int) < 0 := by omega
  have s1 := Lib.hid (show a = none → n = 0 ∧ n = 0 from fun h => ⟨(hnone h).1, (hnone h).1⟩)
  have hW : Below w.heap.size w (W0.alloc (.cells #[.int .i64 x, .int .i64 y] 56)).drew := (hB0.alloc hB0.size _).drew
  have s2 := Lib.hid (fun b (hb : a = some b) j u (hu : xs[j]? = some u) => addB (hcells b hb j u hu) hW)
  have hN : Blk (W0.alloc (.cells #[.int .i64 x, .int .i64 y] 56)).drew (w.heap.size + 1) (.cells #[.int .i64 x, .int .i64 y] 56) := by have := (Blk.new W0 (.cells #[.int .i64 x, .int .i64 y] 56)).drew; rwa [hz0] at this
  have s3 := Lib.hid (show ∀ (j : Nat) (u : Value), [Value.int .i64 x, .int .i64 y][j]? = some u → (W0.alloc (.cells #[.int .i64 x, .int .i64 y] 56)).drew.cell? ((⟨w.heap.size + 1, 0, none⟩ : Addr).add j) = some u from fun j u hu => by
    have e : (⟨w.heap.size + 1, 0, none⟩ : Addr).add j = ⟨w.heap.size + 1, j, none⟩ := by unfold Addr.add; split <;> simp_all
    rw [e, hN.cell]; simpa using hu)
  have s4 : n + 1 ≤ maxLen := by unfold maxLen; omega
  have s4' := Lib.hid s4
  have hHB := Lib.hid hB0
  have HL := Lib.hid hlen
  clear hcells hlen hnone hB0 s4 hN hW
  go_region_law (refine step_append_grows rfl (.tmp 10) (.tmp 12) 26 rfl 56 i0 (.agg #[.int .i64 0, .int .i64 0]) 2 16 Try.underlying26 hi hz0' hz1 hz2 rfl (by decide) a n n xs (by simp [Act.eval]) s1.out HL.out s2.out ⟨w.heap.size + 1, 0, none⟩ 1 1 [.int .i64 x, .int .i64 y] (by simp [Act.eval]) rfl s3.out (by simp [Value.oneCell']) (by omega) s4'.out (by omega) ?_; intro v' w' hown hgrow)
  go_wp2
  go_ret
  exact ⟨v', rfl, Row.of_owns hown, hHB.out.trans ((((Below.refl _ _).alloc (Nat.le_refl _) _).drew.trans ((below_of_grown hgrow).mono (by simp))).mono (by omega))⟩
set_option maxRecDepth 100000 in
set_option maxHeartbeats 2000000 in
theorem grownI_any (v : Value) (n : Nat) (xs : List Value) (x : Int) (w : World) (hrow : Row w v n 1 xs) (hn : n ≤ 1000000) :
    Calls Try.prog 74 #[v, .int .i64 x] w (Grew w (n + 1) 1 (xs ++ [.int .i64 x])) := by
  obtain ⟨a, cap, rfl, hcap, hnone, hcells, hlen⟩ := hrow.cells
  obtain ⟨i0, hi, hz0', hz1, hz2⟩ := info_parts infoI
  clear hrow
  have hn0 : ¬ (n : Int) < 0 := by omega
  have s1 := Lib.hid (show a = none → n = 0 ∧ n = 0 from fun h => ⟨(hnone h).1, (hnone h).1⟩)
  have hW : Below w.heap.size w (w.alloc (.cells #[.int .i64 x] 3)) := below1 _ _
  have s2 := Lib.hid (fun b (hb : a = some b) j u (hu : xs[j]? = some u) => addB (hcells b hb j u hu) hW)
  have hN : Blk (w.alloc (.cells #[.int .i64 x] 3)) w.heap.size (.cells #[.int .i64 x] 3) := Blk.new _ _
  have s3 := Lib.hid (show ∀ (j : Nat) (u : Value), [Value.int .i64 x][j]? = some u → (w.alloc (.cells #[.int .i64 x] 3)).cell? ((⟨w.heap.size, 0, none⟩ : Addr).add j) = some u from fun j u hu => by
    have e : (⟨w.heap.size, 0, none⟩ : Addr).add j = ⟨w.heap.size, j, none⟩ := by unfold Addr.add; split <;> simp_all
    rw [e, hN.cell]; simpa using hu)
  have s4 : n + 1 ≤ maxLen := by unfold maxLen; omega
  have s4' := Lib.hid s4
  have hHB := Lib.hid hW
  have HL := Lib.hid hlen
  clear hcells hlen hnone s4 hN hW
  go_enter Try.func74, Try.ntmps74
  go_wp2_with (at_builtin; refine wpList_append_grows _ rfl (.tmp 10) (.tmp 12) 22 rfl 3 i0 (.int .i64 0) 1 8 Try.underlying22 hi hz0' hz1 hz2 rfl (by decide) a n n xs (by simp [Act.eval]) s1.out HL.out s2.out ⟨w.heap.size, 0, none⟩ 1 1 [.int .i64 x] (by simp [Act.eval]) rfl s3.out (by simp [Value.oneCell']) (by omega) s4'.out (by omega) ?_; intro v' w' hown hgrow)
  go_ret
  exact ⟨v', rfl, Row.of_owns hown, hHB.out.trans ((below_of_grown hgrow).mono (by simp))⟩
def TookP (w : World) (l : List (Int × Int)) (e : Ending) (w' : World) : Prop := ∃ g cap, e = .returned (.slice (some ⟨g, 0, none⟩) l.length cap) ∧ w.heap.size ≤ g ∧ Blk w' g (.cells (pairCells l).toArray 56) ∧ Below w.heap.size w w'
set_option maxRecDepth 100000 in
set_option maxHeartbeats 1000000 in
theorem takenS_any (v : Value) (l : List (Int × Int)) (w : World) (hv : PairsAt w v l) (h0 : l ≠ []) (hn : l.length ≤ 1000) :
    Calls Try.prog 66 #[v] w (TookP w l) := by
  obtain ⟨a, cap, rfl, hc⟩ := hv
  obtain ⟨b, off, rfl, hcs⟩ := hc h0
  clear hc
  obtain ⟨i0, hi, hz0', hz1, hz2⟩ := info_parts infoS
  have hmk := run_make (P := Try.prog) w 26 56 i0 (.agg #[.int .i64 0, .int .i64 0]) Try.underlying26 hi hz0' .i64 .i64 l.length l.length (by omega) (by omega) (by rw [hz2]; omega) (by omega)
  rw [hz1, Int.toNat_natCast] at hmk
  have hsz : (Try.prog.info? 56).map (·.size) = some 2 := by rw [hi]; simp [hz1]
  obtain ⟨mc, hmc⟩ : ∃ mc, madeCells (.agg #[.int .i64 0, .int .i64 0] : Value).cells (l.length * 2) = mc := ⟨_, rfl⟩
  have hms : mc.size = l.length * 2 := by rw [← hmc, size_madeCells]
  rw [hmc] at hmk
  have hB : Below w.heap.size w (w.alloc (.cells mc 56)) := below1 _ _
  have hcl : (pairCells l).length = l.length * 2 := by simp [pairCells_length]
  have hcp := run_copy_cells (P := Try.prog) (w.alloc (.cells mc 56)) 26 26 3 56 w.heap.size l.length l.length ⟨b, off, none⟩ l.length cap 2 mc 56 (pairCells l) Try.underlying26 hsz (Blk.new _ _)
    (by rw [hcl]; congr 1; simp) (fun j u hu => by
      obtain ⟨hx1, hx2⟩ := pairCells_src hcs hu
      exact (hB.cell (p := (⟨b, off, none⟩ : Addr).add j) (by have := lt_of_cell hx2; rw [hx1]; exact this)).trans (by rw [hx1]; exact hx2)) (by omega) (by
      intro u hu
      exact pairCells_one hu)
  have hfin : (pairCells l ++ mc.toList.drop (pairCells l).length).toArray = (pairCells l).toArray := by
    rw [List.drop_of_length_le (by simp; omega), List.append_nil]
  rw [hfin] at hcp
  have HC := Lib.hid hcl
  clear hms hmc hsz hz1 hz2 hz0' hi hfin hcl
  go_enter Try.func66, Try.ntmps66
  go_wp2
  go_ret
  exact ⟨_, _, rfl, Nat.le_refl _, setRow_heap _ _ _ _ _ _ (Blk.new _ _), below_setRow hB (Nat.le_refl _) _⟩


set_option maxRecDepth 100000 in
set_option maxHeartbeats 1000000 in
theorem takenS0_any (w : World) :
    Calls Try.prog 66 #[.slice none 0 0] w fun e w' => ∃ v, e = .returned v ∧ PairsAt w' v [] ∧ Below w.heap.size w w' := by
  obtain ⟨i0, hi, hz0', hz1, hz2⟩ := info_parts infoS
  have hmk := run_make (P := Try.prog) w 26 56 i0 (.agg #[.int .i64 0, .int .i64 0]) Try.underlying26 hi hz0' .i64 .i64 (0 : Nat) (0 : Nat) (by omega) (by omega) (by rw [hz2]; omega) (by omega)
  rw [hz1, Int.toNat_natCast] at hmk
  simp only [Int.ofNat_zero, Nat.zero_mul] at hmk
  clear hz1 hz2 hz0' hi
  have hcp : ∀ (b : Nat) (ts : TypeId) (w : World), (Builtin.copy_ #[26, 26] ts #[.slice (some ⟨b, 0, none⟩) 0 0, .slice none 0 0]).run Try.prog w = .ok (.int .i64 0) w := fun b ts w => by kernel_rfl
  go_enter Try.func66, Try.ntmps66
  go_wp2
  go_ret
  exact ⟨_, rfl, ⟨_, _, rfl, fun h => absurd rfl h⟩, below1 _ _⟩

/-! ## The program: the first best cuts -/
theorem eqItems_ints {P : Program} {e : TypeId} (he : P.plainKey e = true) (hu : P.underlying e = some (.int .i64)) (d : Nat) (xs ys : Array Value) (f g : Nat → Int) (w : World) : ∀ is : List Nat, (∀ i ∈ is, xs[i]? = some (.int .i64 (f i)) ∧ ys[i]? = some (.int .i64 (g i))) →
    (Op.eqItems (d + 1) e 1 xs ys is).run P w = .ok (is.all fun i => f i == g i) w
  | [], _ => by simp [Op.eqItems]
  | i :: is, h => by
    obtain ⟨h1, h2⟩ := h i List.mem_cons_self
    have p1 : (part e xs (i * 1)).run P w = .ok (.int .i64 (f i)) w := run_part_plain w he (by rw [Nat.mul_one]; exact h1)
    have p2 : (part e ys (i * 1)).run P w = .ok (.int .i64 (g i)) w := run_part_plain w he (by rw [Nat.mul_one]; exact h2)
    have p3 := run_equalIn_int (P := P) w d e .i64 .i64 (f i) (g i) hu
    have ih := eqItems_ints he hu d xs ys f g w is (fun j hj => h j (List.mem_cons_of_mem _ hj))
    simp only [Op.eqItems, Sem.run_bind, p1, p2, p3, Result.andThen_ok, List.all_cons]
    cases hb : (f i == g i) with
    | false => simp
    | true => simpa using ih
def csU (U : Nat → Int) : List Value := (List.range 25).map fun p => .int .i64 (U p)
theorem csU_get (U : Nat → Int) {j : Nat} (hj : j < 25) : (csU U)[j]? = some (.int .i64 (U j)) := by
  unfold csU
  rw [List.getElem?_map, List.getElem?_range hj]
  rfl
theorem eq25 (U : Nat → Int) (w : World) : (Op.equalIn 10000 81 (.agg (csU U).toArray) (.agg (csU fun _ => 0).toArray)).run Try.prog w = .ok ((List.range 25).all fun i => U i == 0) w := by
  have hi : (Try.prog.info? 2).isSome = true := by kernel_rfl
  obtain ⟨i, hi⟩ := Option.isSome_iff_exists.1 hi
  have hc : Try.prog.cellsOf 2 = 1 := by kernel_rfl
  rw [run_equalIn_array w 9999 (t := 81) (e := 2) (n := 25) (i := i) _ _ (by kernel_rfl) hi, hc]
  refine eqItems_ints (by kernel_rfl) (by kernel_rfl) 9998 _ _ U (fun _ => 0) w _ fun j hj => ?_
  have hj := List.mem_range.1 hj
  rw [List.getElem?_toArray, List.getElem?_toArray, csU_get U hj, csU_get _ hj]
  exact ⟨rfl, rfl⟩
set_option maxRecDepth 100000 in
theorem zs25 : (csU fun _ => 0).toArray = #[.int .i64 0, .int .i64 0, .int .i64 0, .int .i64 0, .int .i64 0, .int .i64 0, .int .i64 0, .int .i64 0, .int .i64 0, .int .i64 0, .int .i64 0, .int .i64 0, .int .i64 0, .int .i64 0, .int .i64 0, .int .i64 0, .int .i64 0, .int .i64 0, .int .i64 0, .int .i64 0, .int .i64 0, .int .i64 0, .int .i64 0, .int .i64 0, .int .i64 0] := rfl
theorem eqZ25 (U : Nat → Int) (zv : Array Value) (hz : (csU fun _ => 0).toArray = zv) (w : World) : (Op.equalIn 10000 81 (.agg (csU U).toArray) (.agg zv)).run Try.prog w = .ok ((List.range 25).all fun i => U i == 0) w := by
  subst hz
  exact eq25 U w
theorem range25 {w : World} {T : Nat} {U : Nat → Int} (h : UpAt w T U) : w.rangeAt T 4 (csU U) := fun j v hj => by
  have hj2 : j < 25 := by
    have := (List.getElem?_eq_some_iff.1 hj).1
    simpa [csU] using this
  rw [csU_get U hj2] at hj
  cases hj
  exact h j hj2
theorem und25 : Try.prog.underlying 81 = some (.array 25 2) := by kernel_rfl
theorem inf25 (U : Nat → Int) : (Try.prog.info? 81).map (·.size) = some (csU U).length := by
  have e : (csU U).length = 25 := by simp [csU]
  have h : (Try.prog.info? 81).map (·.size) = some 25 := by kernel_rfl
  exact h.trans (congrArg some e.symm)
/-- Where the search stands: what has been found, and what is still to be. -/
def FSt (t : Tab) (o : Value) (n : Nat) (wr : World) : Prop :=
  ∃ (f : Nat) (gl : List (Nat × Nat)), t.L - n ≤ f ∧ n ≤ t.L ∧ On t n ∧ firstF t t.L 0 = gl ++ firstF t f n ∧ gl.length ≤ n ∧ Row wr o gl.length 2 (pairCells (gl.map intP)) ∧ (gl = [] → o = .slice none 0 0)
theorem FSt.below {t : Tab} {o : Value} {n : Nat} {wr w' : World} (h : FSt t o n wr) (hb : Below wr.heap.size wr w') : FSt t o n w' := by
  obtain ⟨f, gl, h1, h2, h3, h4, h5, h6, h7⟩ := h
  exact ⟨f, gl, h1, h2, h3, h4, h5, h6.below hb, h7⟩
theorem first_empty {t : Tab} (h : ∀ a i, i < t.K → t.can a i = false) : ∀ (f n : Nat), firstF t f n = []
  | 0, _ => rfl
  | f + 1, n => by
    by_cases hn : n < t.L
    · rw [first_none (fun i _ hi => by unfold pB; rw [h n i hi]; rfl) hn]
      exact first_empty h f (n + 1)
    · exact first_end (by omega)
theorem pB_best {t : Tab} (h : t.Ok) {n i : Nat} (ho : On t n) (hi : i < t.K) : Bx t 0 ((n : Int), (i : Int)) ↔ pB t n i = true := by
  rw [Bx_best h]
  unfold pB
  rw [Bool.and_eq_true, decide_eq_true_eq]
  constructor
  · exact fun hb => ⟨hb.2.1, (best_iff h ho hi hb.2.1).1 hb⟩
  · exact fun hb => (best_iff h ho hi hb.1).2 hb.2
theorem FSt.waste {t : Tab} (h : t.Ok) {o : Value} {n : Nat} {wr : World} (hs : FSt t o n wr) (hn : n < t.L) (hp : ∀ i, i < t.K → pB t n i = false) : FSt t o (n + 1) wr := by
  obtain ⟨f, gl, h1, h2, h3, h4, h5, h6, h7⟩ := hs
  obtain ⟨f, rfl⟩ : ∃ f', f = f' + 1 := ⟨f - 1, by omega⟩
  have hd : dn t (n + 1) = dn t n := by
    rcases dn_reach h hn with e | ⟨i, hi, hc, e⟩
    · exact e.symm
    · have := hp i hi
      unfold pB at this
      rw [hc, decide_eq_true e] at this
      cases this
  exact ⟨f, gl, by omega, by omega, ((waste_iff h hn).2 ⟨h3, hd⟩).2, by rw [h4, first_none (fun i _ hi => hp i hi) hn], by omega, h6, h7⟩
theorem FSt.found {t : Tab} (h : t.Ok) {o' : Value} {n q m : Nat} {w' : World} {f : Nat} {gl : List (Nat × Nat)} (hs : t.L - n ≤ f ∧ n ≤ t.L ∧ On t n ∧ firstF t t.L 0 = gl ++ firstF t f n ∧ gl.length ≤ n) (hn : n < t.L) (hq : q < t.K) (hp : pB t n q = true) (h0 : ∀ i, i < q → pB t n i = false)
    (hm : m = n + t.W q) (hrow : Row w' o' (gl.length + 1) 2 (pairCells (gl.map intP) ++ [.int .i64 n, .int .i64 q])) : FSt t o' m w' := by
  obtain ⟨h1, h2, h3, h4, h5⟩ := hs
  obtain ⟨f, rfl⟩ : ∃ f', f = f' + 1 := ⟨f - 1, by omega⟩
  have hb := (Bx_best h n q).1 ((pB_best h h3 hq).2 hp)
  have hw := h.w q hq
  have hfit := h.fit n q hq hb.2.1
  subst hm
  refine ⟨f, gl ++ [(n, q)], by omega, hfit, hb.2.2.2, by rw [h4, first_some hq hp (fun i _ hi => h0 i hi) hn, List.append_assoc]; rfl, by rw [List.length_append, List.length_singleton]; omega, ?_, fun e => by simp at e⟩
  rw [List.length_append, List.length_singleton, List.map_append, List.map_singleton, show intP (n, q) = ((n : Int), (q : Int)) from rfl, pairs_snoc]
  exact hrow

set_option maxRecDepth 100000 in
set_option maxHeartbeats 8000000 in
theorem first_any (T M : Nat) (r : RibD) (ks : List KindD) (w : World) (hL : LaidAt w T M r ks) (hr : RibOk r) (hks : KindsOk ks) :
    Calls Try.prog 67 #[.pointer (some ⟨T, 0, none⟩)] w fun e w' => ∃ v, e = .returned v ∧ Row w' v (firstL (tabOf r ks)).length 2 (pairCells (firstL (tabOf r ks))) ∧ (firstL (tabOf r ks) = [] → v = .slice none 0 0) ∧ Below w.heap.size w w' := by
  have hl1 := hr.l1
  have hl2 := hr.l2
  obtain ⟨L, hLl⟩ : ∃ L : Nat, r.len = (L : Int) := ⟨r.len.toNat, by omega⟩
  have hL24 : L ≤ 24 := by omega
  have HTL := Lib.hid (show (tabOf r ks).L = L ∧ (tabOf r ks).K = ks.length from ⟨by simp only [tabOf]; omega, rfl⟩)
  have HLT := Lib.hid (show r.len.toNat = L by omega)
  have HOK := Lib.hid (tabOf_ok (r := r) (ks := ks) (by omega) hks)
  have HL := Lib.hid hL
  have HRK := Lib.hid (And.intro hr hks)
  have hk6 := hks.1.2
  have hup := hL.1.up
  obtain ⟨U, hU⟩ : ∃ U, Ux (tabOf r ks) (r.len.toNat + 1) = U := ⟨_, rfl⟩
  rw [hU] at hup
  have t0 := hL.1.len
  rw [hLl] at t0
  have HLL := Lib.hid hLl
  have hq := fun w => eqZ25 U _ zs25 w
  have hq4 := Lib.hid (range25 hup)
  obtain ⟨z, hz⟩ : ∃ z, ((List.range 25).all fun i => U i == 0) = z := ⟨_, rfl⟩
  rw [hz] at hq
  have HZ := Lib.hid (And.intro hU hz)
  have hTl := hL.1.lt.1
  clear hL hup hU hz hr hks hLl
  go_enter Try.func67, Try.ntmps67
  go_wp2_with fail
  refine wp_scope_straight ?_
  have hfirst : firstF (tabOf r ks) (tabOf r ks).L 0 = [] ++ firstF (tabOf r ks) (tabOf r ks).L 0 := rfl
  cases z with
  | true =>
    go_wp2_with (refine wpList_load_mid rfl 81 (.tmp 9) rfl T 4 (by simp [Act.eval]) (csU U) _ hq4.out und25 rfl (inf25 U) ?_)
    simp only [Exit.noGoto]
    go_ret
    have he : firstL (tabOf r ks) = [] := by
      unfold firstL
      rw [first_empty fun a i hi => up_none HOK.out (fun n hn => ?_) a i hi]
      · rfl
      · have h2 := HZ.out.2
        rw [List.all_eq_true] at h2
        have h3 := h2 n (List.mem_range.2 (by have := HTL.out.1; omega))
        rw [← HZ.out.1] at h3
        unfold Ux at h3
        rw [if_pos (by have := HTL.out.1; have := HLT.out; omega)] at h3
        simpa using h3
    rw [he]
    exact ⟨_, rfl, Row.nil _ _, fun _ => rfl, Below.refl _ _⟩
  | false =>
    go_wp2_with (refine wpList_load_mid rfl 81 (.tmp 9) rfl T 4 (by simp [Act.eval]) (csU U) _ hq4.out und25 rfl (inf25 U) ?_)
    clear hq hq4
    refine wp_label ?_
    have HF0 : Hid (FSt (tabOf r ks) (.slice none 0 0) 0 w) := Lib.hid ⟨L, [], by rw [HTL.out.1]; omega, Nat.zero_le _, on_zero _, by rw [HTL.out.1]; rfl, Nat.le_refl _, Row.nil _ _, fun _ => rfl⟩
    clear hfirst t0
    go_wp2_with fail
    go_loopw [3, 4] (fun sv sn wr => ∃ n : Nat, n ≤ L ∧ sn = .int .i64 n ∧ FSt (tabOf r ks) sv n wr ∧ Below w.heap.size w wr) (fun _ s _ => L - (intOf s).toNat)
    case atStart => exact ⟨0, Nat.zero_le _, rfl, HF0.out, Below.refl _ _⟩
    case round =>
      clear HF0
      obtain ⟨n, hn, rfl, hst, hB⟩ := hrel
      have HS := Lib.hid hst
      have HB := Lib.hid hB
      have HLr := Lib.hid (HL.out.below hB)
      clear hst hB
      have xl := HLr.out.1.len
      rw [HLL.out] at xl
      obtain ⟨kb, koff, kcap, q, mb, moff, mcap, htab⟩ := HLr.out.1.tab
      have x2 := htab.c2
      clear htab
      by_cases hlt : n < L
      · go_wp2_with fail
        clear xl x2
        go_loopw [3, 4, 26] (fun sv sn s wq => ∃ i : Nat, i ≤ ks.length ∧ s = .int .i64 i ∧ sn = .int .i64 n ∧ (∀ i', i' < i → pB (tabOf r ks) n i' = false) ∧ FSt (tabOf r ks) sv n wq ∧ Below w.heap.size w wq) (fun _ _ s _ => ks.length - (intOf s).toNat)
        case atStart => exact ⟨0, Nat.zero_le _, rfl, rfl, fun i' h => absurd h (Nat.not_lt_zero _), HS.out, HB.out⟩
        case round =>
          clear HS HB HLr
          obtain ⟨i, hi, rfl, rfl, hno, hst, hB⟩ := hrel
          have HNO := Lib.hid hno
          have HS := Lib.hid hst
          have HB := Lib.hid hB
          clear hno hst hB
          by_cases hli : i < ks.length
          · have hb1 := below1 wr (.cells #[.int .i64 n, .int .i64 i] 56)
            have b1 := Blk.new wr (.cells #[.int .i64 n, .int .i64 i] 56)
            have HB1 := Lib.hid (bC HB.out hb1)
            have HS1 := Lib.hid (HS.out.below hb1)
            have hzr := HB.out.size
            clear HS hb1
            have hb1' := hzr
            go_wp2_with fail
            generalize wr.alloc (.cells #[.int .i64 n, .int .i64 i] 56) = W1 at *
            have HL1 := Lib.hid (HL.out.below HB1.out)
            have xm := HL1.out.1.mp
            have y0 := b1.cell 0
            have y1 := b1.cell 1
            simp at y0 y1
            have g0 := fun d os => cell_regrown xm d os
            have g1 := fun d os => cell_regrown y0 d os
            have g2 := fun d os => cell_regrown y1 d os
            have HON := Lib.hid (show On (tabOf r ks) n from by obtain ⟨f, gl, _, _, h3, _⟩ := HS1.out; exact h3)
            cases hp : pB (tabOf r ks) n i with
            | true =>
              have hlk : ∀ (d : Nat) (os : Array Obj), _ := fun d os => (HL1.out.2.below (below_regrown W1 d os)).look_yes ((n : Int), (i : Int)) ((pB_best HOK.out HON.out (by rw [HTL.out.2]; exact hli)).2 hp)
              unfold pkV at hlk
              simp only at hlk
              have HP := Lib.hid hp
              clear hp xm y0 y1
              refine wp_region_quiet_below (by kernel_rfl) (by kernel_rfl) ?_
              repeat (quiet_step (fail))
              refine wpQuiet_nil ?_
              intro _ hw'
              obtain ⟨⟨dq, osq⟩, hw''⟩ := hw'
              subst hw''
              have hbq := below_regrown W1 dq osq
              have HB2 := Lib.hid (bC HB1.out hbq)
              have HL2 := Lib.hid (HL1.out.below hbq)
              have HS2 := Lib.hid (HS1.out.below hbq)
              replace b1 := b1.below hbq
              clear g0 g1 g2 hlk hbq HB1 HL1 HS1
              generalize grow (redrawn W1 dq) osq = W2 at *
              have y0 := b1.cell 0
              have y1 := b1.cell 1
              simp at y0 y1
              obtain ⟨f, gl, h1, h2, h3, h4, h5, h6, h7⟩ := HS2.out
              have HG := Lib.hid (And.intro h1 (And.intro h2 (And.intro h3 (And.intro h4 h5))))
              have HR := Lib.hid h6
              clear h1 h2 h3 h4 h6 h7 HS2
              go_wp2_with fail
              refine (grownS_any u3 gl.length _ (n : Int) (i : Int) _ HR.out (by omega)).mono ?_
              rintro e W3 ⟨v3, rfl, hrow3, hb3⟩
              have HB3 := Lib.hid (bC HB2.out hb3)
              have HL3 := Lib.hid (HL2.out.below hb3)
              have HR3 := Lib.hid hrow3
              replace b1 := b1.below hb3
              clear hrow3 hb3 HR HB2 HL2 y0 y1
              have y0 := b1.cell 0
              have y1 := b1.cell 1
              simp at y0 y1
              go_wp2_with fail
              refine (end_any T M r ks (n : Int) i _ HL3.out.1.tab HRK.out.1 HRK.out.2 hli (by omega) (by omega)).mono ?_
              rintro e W4 ⟨rfl, hb4⟩
              have HB4 := Lib.hid (bC HB3.out hb4)
              have hkw := kd_w HRK.out.2 i
              have HWi := Lib.hid (show (n : Int) + (kd ks i).w = ((n + (tabOf r ks).W i : Nat) : Int) by simp only [tabOf]; omega)
              have hfit := HOK.out.fit n i (by rw [HTL.out.2]; exact hli) (by have := HP.out; unfold pB at this; rw [Bool.and_eq_true] at this; exact this.1)
              have hw1 := HOK.out.w i (by rw [HTL.out.2]; exact hli)
              rw [HTL.out.1] at hfit
              have HF4 := Lib.hid (FSt.found HOK.out HG.out (by rw [HTL.out.1]; exact hlt) (by rw [HTL.out.2]; exact hli) HP.out HNO.out rfl (HR3.out.below hb4))
              rw [HWi.out]
              clear hb4 HB3 HL3 HR3 b1 y0 y1 hkw
              go_wp2
              rename_i wr8
              go_roundw
              case rel => exact ⟨n + (tabOf r ks).W i, hfit, rfl, HF4.out, HB4.out⟩
              case measure => simp [intOf]; omega
            | false =>
              have hlk : ∀ (d : Nat) (os : Array Obj), _ := fun d os => (HL1.out.2.below (below_regrown W1 d os)).look_no ((n : Int), (i : Int)) (fun hh => by have := (pB_best HOK.out HON.out (by rw [HTL.out.2]; exact hli)).1 hh; rw [hp] at this; cases this)
              unfold pkV at hlk
              simp only at hlk
              have HP := Lib.hid hp
              clear hp xm y0 y1
              refine wp_region_quiet_below (by kernel_rfl) (by kernel_rfl) ?_
              repeat (quiet_step (fail))
              refine wpQuiet_nil ?_
              intro _ hw'
              obtain ⟨⟨dq, osq⟩, hw''⟩ := hw'
              subst hw''
              have hbq := below_regrown W1 dq osq
              have HB2 := Lib.hid (bC HB1.out hbq)
              have HS2 := Lib.hid (HS1.out.below hbq)
              clear g0 g1 g2 hlk hbq HB1 HL1 HS1 b1
              generalize grow (redrawn W1 dq) osq = W2 at *
              go_wp2
              rename_i wr8
              go_roundw
              case rel => exact ⟨i + 1, by omega, by go_num, rfl, fun i' h => by
                by_cases e : i' = i
                · rw [e]; exact HP.out
                · exact HNO.out i' (by omega), HS2.out, HB2.out⟩
              case measure => simp [intOf]; omega
          · obtain rfl : i = ks.length := by omega
            have HF4 := Lib.hid (HS.out.waste HOK.out (by rw [HTL.out.1]; exact hlt) (by rw [HTL.out.2]; exact HNO.out))
            clear HS HNO
            go_wp2
            rename_i wr8
            go_roundw
            case rel => exact ⟨n + 1, by omega, by go_num, HF4.out, HB.out⟩
            case measure => simp [intOf]; omega
      · obtain rfl : L = n := by omega
        go_wp2_with fail
        simp only [Exit.noGoto]
        go_ret
        obtain ⟨f, gl, h1, h2, h3, h4, h5, h6, h7⟩ := HS.out
        rw [first_end (f := f) (n := L) (by rw [HTL.out.1]; exact Nat.le_refl _), List.append_nil] at h4
        have e : firstL (tabOf r ks) = gl.map intP := by unfold firstL; rw [h4]
        rw [e]
        exact ⟨_, rfl, by rw [List.length_map]; exact h6, fun he => h7 (List.map_eq_nil_iff.1 he), HB.out⟩
end Go.Proofs.Ytnkeikhkafbokaa
