import Derived.Test.YtnkeikhkafbokaaQo
import Derived.Test.YtnkeikhkafbokaaQd
import Derived.Test.YtnkeikhkafbokaaQc
namespace Go.Proofs.Ytnkeikhkafbokaa
open Go.RowKit Go.Dag Go.Sort Go.Shelf
attribute [local go_sem] Oper.semAt_some

/-! ## The program: the sheets that end at a place are yielded; the greatest of a number of them -/
abbrev shF (b1 b2 : Nat) : Value := .func (.func 79) #[] #[.pointer (some ⟨b1, 0, none⟩), .pointer (some ⟨b2, 0, none⟩)]
set_option maxHeartbeats 400000 in
theorem sheets_any (T p : Nat) (w : World) :
    Calls Try.prog 71 #[.pointer (some ⟨T, 0, none⟩), .int .i64 p] w fun e w' => e = .returned (shF w.heap.size (w.heap.size + 1)) ∧ (w.alloc (.cells #[.pointer (some ⟨T, 0, none⟩)] 76)).alloc (.cells #[.int .i64 p] 3) = w' := by
  have hmf : ∀ (fn : Fn) (first cap : Array Value) (w : World), (Instr.makeFunc fn first cap).run Try.prog w = .ok (.func fn first cap) w := fun _ _ _ _ => rfl
  go_enter Try.func71, Try.ntmps71
  go_wp2
  go_ret
  exact ⟨rfl, rfl⟩
theorem KT.put {T M n₀ : Nat} {W : World} {l : Nat} {o' : Obj} (hl : n₀ ≤ l) (hT : T < n₀) : KT T M n₀ W (W.putObj l o') :=
  ⟨by simp, fun k hk _ _ => World.putObj_heap_other (by omega), fun j _ => World.cell?_of_block (World.putObj_heap_other (show T ≠ l by omega))⟩
theorem KT.set {T M n₀ : Nat} {W : World} {b j : Nat} {v : Value} (hb : n₀ ≤ b) (hT : T < n₀) : KT T M n₀ W (W.setCell ⟨b, j, none⟩ v) :=
  ⟨by simp [World.setCell], fun k hk _ _ => Below.heap_setCell _ _ _ _ (by simp; omega), fun j _ => World.cell?_of_block (Below.heap_setCell _ _ _ _ (by simp; omega))⟩
/-- The closure that yields the sheets that end at p: its two variables. -/
def ShAt (w : World) (T M n₀ : Nat) (r : RibD) (ks : List KindD) (p b1 b2 : Nat) : Prop :=
  ∃ kb koff kcap q mb moff mcap, TabIn w T M r ks kb koff kcap q mb moff mcap ∧ kb < n₀ ∧ q < n₀ ∧ mb < n₀ ∧ T < n₀ ∧ n₀ ≤ w.heap.size ∧ (b1 < n₀ ∧ b1 ≠ T ∧ b1 ≠ M) ∧ (b2 < n₀ ∧ b2 ≠ T ∧ b2 ≠ M) ∧
    w.cell? ⟨b1, 0, none⟩ = some (.pointer (some ⟨T, 0, none⟩)) ∧ w.cell? ⟨b2, 0, none⟩ = some (.int .i64 p)
theorem ShAt.below {w w' : World} {T M n₀ : Nat} {r : RibD} {ks : List KindD} {p b1 b2 : Nat} (h : ShAt w T M n₀ r ks p b1 b2) (hb : Below w.heap.size w w') : ShAt w' T M n₀ r ks p b1 b2 := by
  obtain ⟨kb, koff, kcap, q, mb, moff, mcap, h1, h2, h3, h4, h5, h6, h7, h8, h9, h10⟩ := h
  exact ⟨kb, koff, kcap, q, mb, moff, mcap, h1.below hb, h2, h3, h4, h5, Nat.le_trans h6 hb.size, h7, h8, cellB h9 hb, cellB h10 hb⟩
/-- A closure that has just been made. -/
theorem ShAt.new {w : World} {T M : Nat} {r : RibD} {ks : List KindD} {p : Nat} (h : TabAt w T M r ks) (hks : KindsOk ks) (hr : RibOk r) (hM : M < w.heap.size) :
    ShAt ((w.alloc (.cells #[.pointer (some ⟨T, 0, none⟩)] 76)).alloc (.cells #[.int .i64 p] 3)) T M (w.heap.size + 2) r ks p w.heap.size (w.heap.size + 1) := by
  obtain ⟨kb, koff, kcap, q, mb, moff, mcap, h1⟩ := h
  have hT := lt_of_cell h1.c0
  have hk := lt_of_cell (h1.kin 0 (by have := hks.1; omega)).1
  have hq := lt_of_cell h1.qc
  have hm := lt_of_cell (h1.mc 0 (by rw [marks_len]; have := hr.l1; omega))
  have c1 := ((Blk.new w (.cells #[.pointer (some ⟨T, 0, none⟩)] 76)).alloc (.cells #[.int .i64 p] 3)).cell 0
  have c2 := (Blk.new (w.alloc (.cells #[.pointer (some ⟨T, 0, none⟩)] 76)) (.cells #[.int .i64 p] 3)).cell 0
  rw [World.size_alloc] at c2
  exact ⟨kb, koff, kcap, q, mb, moff, mcap, h1.below (below2 _ _ _), by omega, by omega, by omega, by omega, by simp, ⟨by omega, by omega, by omega⟩, ⟨by omega, by omega, by omega⟩, by simp [c1], by simp [c2]⟩
/-- A sheet that ends at p. -/
abbrev SH (t : Tab) (p : Nat) := { x : Nat × Nat // x ∈ shL t p }
def shE {t : Tab} {p : Nat} (x : SH t p) : Array Value := #[shV (x.1.1 : Nat) (x.1.2 : Nat)]
theorem sheets_stops (n : Nat) (hn : 1 ≤ n) (T M n₀ b1 b2 p : Nat) (r : RibD) (ks : List KindD) (w : World) (h : ShAt w T M n₀ r ks p b1 b2) (hr : RibOk r) (hks : KindsOk ks) (hp : p ≤ 24) :
    SeqStopsK Fence.wide n Try.prog 79 #[.pointer (some ⟨b1, 0, none⟩), .pointer (some ⟨b2, 0, none⟩)] (fun x : SH (tabOf r ks) p => shE x) (KT T M n₀) (fun ys => ys.map Subtype.val = shL (tabOf r ks) p) (fun pre => pre.map Subtype.val <+: shL (tabOf r ks) p) (shL (tabOf r ks) p).length w := by
  intro l J Jx W hW hJ _ hY h0
  obtain ⟨kb, koff, kcap, q, mb, moff, mcap, h1, h2, h3, h4, h5, h6, h7, h8, h9, h10⟩ := h.below hW
  refine (sheets1_in n hn l T M n₀ b1 b2 p r ks kb koff kcap q mb moff mcap W h1 hr hks hp h6 h2 h3 h4 h7 h8 h9 h10 (fun pre W => ∃ ys : List (SH (tabOf r ks) p), ys.map Subtype.val = pre ∧ J ys W) (fun pre W => ∃ ys : List (SH (tabOf r ks) p), ys.map Subtype.val = pre ∧ Jx ys W) ?_ ?_ ⟨[], rfl, h0⟩).mono ?_
  · rintro pre x W hx ⟨ys, rfl, hJ1⟩ hlen
    rw [List.length_map] at hlen
    obtain ⟨fn, tmps, assign, body, hy, hR⟩ := hY ys ⟨x, hx⟩ W hJ1 hlen
    refine ⟨fn, tmps, assign, body, hy, hR.mono ?_⟩
    rintro e W' (⟨h1, h2, h3⟩ | ⟨h1, h2⟩)
    · exact .inl ⟨h1, ⟨_, by rw [List.map_append]; rfl, h2⟩, h3⟩
    · exact .inr ⟨h1, _, by rw [List.map_append]; rfl, h2⟩
  · rintro pre W W' ⟨ys, rfl, h⟩ hb
    exact ⟨ys, rfl, hJ ys W W' none h (grown_of_below hb) (fun r e => by cases e)⟩
  · rintro e W' ⟨h1, ⟨ys, rfl, zs, h2, h3⟩ | ⟨pre, h2, zs, rfl, h3⟩⟩
    · exact ⟨h1, .inl ⟨zs, h2, h3⟩⟩
    · exact ⟨h1, .inr ⟨zs, h2, h3⟩⟩

theorem run_max_w {P : Program} (w : World) (ts : Array TypeId) (t : TypeId) (k k' : IntKind) (x y : Int) : (Builtin.max_ ts t #[.int k x, .int k' y]).run P w = .ok (.int k (max x y)) w := by
  have e : (if y > x then y else x) = max x y := by
    rw [Int.max_def]
    split <;> split <;> omega
  simp [Builtin.max_, Builtin.max2, e]
def mxL (f : Nat × Nat → Int) (xs : List (Nat × Nat)) (lo : Int) : Int := xs.foldl (fun m x => max m (f x)) lo
theorem mxL_snoc (f : Nat × Nat → Int) (xs : List (Nat × Nat)) (lo : Int) (x : Nat × Nat) : mxL f (xs ++ [x]) lo = max (mxL f xs lo) (f x) := by simp [mxL]
theorem mxL_bd {f : Nat × Nat → Int} {xs : List (Nat × Nat)} {lo B : Int} (h : ∀ x ∈ xs, f x ≤ B) (hlo : lo ≤ B) (h0 : 0 ≤ lo) : 0 ≤ mxL f xs lo ∧ mxL f xs lo ≤ B := by
  unfold mxL
  induction xs generalizing lo with
  | nil => exact ⟨h0, hlo⟩
  | cons x xs ih =>
    have := h x List.mem_cons_self
    refine ih (fun y hy => h y (List.mem_cons_of_mem _ hy)) ?_ ?_
    · show max lo (f x) ≤ B
      omega
    · show 0 ≤ max lo (f x)
      omega

set_option maxRecDepth 100000 in
set_option maxHeartbeats 4000000 in
theorem most_any (n : Nat) (hn : 4 ≤ n) (T M n₀ b1 b2 p : Nat) (r : RibD) (ks : List KindD) (U : Nat → Int) (lo : Int) (w : World) (hT : ShAt w T M n₀ r ks p b1 b2) (hU : UpAt w T U) (hr : RibOk r) (hks : KindsOk ks) (hp : p ≤ 24)
    (hUb : ∀ q, q ≤ 24 → 0 ≤ U q ∧ U q ≤ 24000) :
    CallsIn Fence.wide n Try.prog 82 #[.int .i64 lo, shF b1 b2, .func (.func 83) #[.pointer (some ⟨T, 0, none⟩)] #[]] w fun e w' =>
      e = .returned (.int .i64 (mxL (fun x => U x.1 + (kd ks x.2).p) (shL (tabOf r ks) p) lo)) ∧ Below w.heap.size w w' := by
  have h1 : 1 ≤ n := by omega
  have HT := Lib.hid hT
  have HU := Lib.hid hU
  have HRK := Lib.hid (And.intro hr hks)
  have HUB := Lib.hid hUb
  have eg : ∀ args w, (callFunc 79 args).run Try.prog w = .ok (.enter 79 args) w := fun _ _ => rfl
  have hn₀ : T < n₀ ∧ n₀ ≤ w.heap.size := by
    obtain ⟨kb, koff, kcap, q, mb, moff, mcap, _, _, _, _, h5, h6, _⟩ := hT
    exact ⟨h5, h6⟩
  have hxs : ∀ x ∈ shL (tabOf r ks) p, x.2 < ks.length ∧ x.1 ≤ 24 := fun x hx => by
    obtain ⟨h1, h2, h3⟩ := shL_mem.1 hx
    exact ⟨h1, by omega⟩
  have HXS := Lib.hid hxs
  clear hT hU hr hks hUb hxs
  refine callsIn_of_wp_marks Try.func82 rfl trivial ?_ rfl
  simp only [Try.ntmps82, List.size_toArray, List.length_cons, List.length_nil, Nat.reduceAdd, Nat.reduceSub, Array.replicate_succ, Array.replicate_zero, List.push_toArray, List.append_toArray, List.nil_append, List.cons_append]
  gi_wp2
  obtain ⟨W0, hW0⟩ : ∃ W0, (w.alloc (.cells #[.int .i64 lo] 2)).alloc (.cells #[.func (.func 83) #[.pointer (some ⟨T, 0, none⟩)] #[]] 87) = W0 := ⟨_, rfl⟩
  have hF : Blk W0 w.heap.size (.cells #[.int .i64 lo] 2) ∧ Blk W0 (w.heap.size + 1) (.cells #[.func (.func 83) #[.pointer (some ⟨T, 0, none⟩)] #[]] 87) ∧ Below w.heap.size w W0 ∧ W0.heap.size = w.heap.size + 2 := by
    subst hW0
    refine ⟨(Blk.new _ _).alloc _, ?_, below2 _ _ _, by simp⟩
    have := Blk.new (w.alloc (.cells #[.int .i64 lo] 2)) (.cells #[.func (.func 83) #[.pointer (some ⟨T, 0, none⟩)] #[]] 87)
    rwa [World.size_alloc] at this
  rw [hW0]
  clear hW0
  obtain ⟨b0, b0', hB0, hz0⟩ := hF
  refine wpIn_rangeFunc_ownH (F := Fence.wide) rfl h1 (gf := 79) (lb := #[.pointer (some ⟨b1, 0, none⟩), .pointer (some ⟨b2, 0, none⟩)]) rfl trivial eg
    (SeqStopsK.from hB0 (sheets_stops (n - 1) (by omega) T M n₀ b1 b2 p r ks w HT.out HRK.out.1 HRK.out.2 hp)) (fun h k => KT.trans h k) (fun W l o o' hl _ _ _ => KT.put (by omega) hn₀.1) (Below.refl _ _) (fun _ => rfl)
    (fun (pre : List (SH (tabOf r ks) p)) W => Blk W w.heap.size (.cells #[.int .i64 (mxL (fun x => U x.1 + (kd ks x.2).p) (pre.map Subtype.val) lo)] 2) ∧ Blk W (w.heap.size + 1) (.cells #[.func (.func 83) #[.pointer (some ⟨T, 0, none⟩)] #[]] 87) ∧ Below w.heap.size w W ∧ w.heap.size + 2 ≤ W.heap.size)
    (fun _ _ _ => False)
    (ownFrom_of fun pre W W' ⟨c0, c1, hB, hs⟩ hk => ⟨c0.keepsC hk, c1.keepsC hk, below_keeps hB hk (by omega) hB.size, Nat.le_trans hs hk.size⟩)
    (fun _ _ _ _ _ hs _ _ => hs)
    ⟨b0, b0', hB0, by omega⟩
    (fun x a' W => ∃ Bx, W0.heap.size ≤ Bx ∧ Blk W Bx (.cells #[.int .i64 (x.1.1 : Nat), .int .i64 (x.1.2 : Nat)] 56) ∧ a' = { tmps := #[.int .i64 lo, shF b1 b2, .func (.func 83) #[.pointer (some ⟨T, 0, none⟩)] #[], .pointer (some ⟨w.heap.size, 0, none⟩), undef, .pointer (some ⟨w.heap.size + 1, 0, none⟩), .int .i64 0, .pointer (some ⟨Bx, 0, none⟩), shF b1 b2, shV (x.1.1 : Nat) (x.1.2 : Nat), undef, undef, undef, undef, undef, undef], defers := [] })
    (fun x a' => ownFrom_of fun _ W W' h hk => by obtain ⟨Bx, h1, h2, h3⟩ := h; exact ⟨Bx, h1, h2.keepsC hk, h3⟩)
    ?assign ?body ?done ?stop
  case assign =>
    rintro l pre x W K ⟨c0, c1, hB1, hs1⟩ hK
    unfold shE shV shF
    gi_wp2
    exact hK _ _ ((KeepsOthers.alloc _ _).from _) (KT.of_below (below1 _ _) (by omega) (by omega)) ⟨c0.alloc _, c1.alloc _, hB1.alloc hB1.size _, by simp; omega⟩ ⟨W.heap.size, by omega, Blk.new W _, rfl⟩
  case body =>
    rintro l pre x a' W hl ⟨rr, hrr⟩ ⟨c0, c1, hB1, hs1⟩ ⟨Bx, hBx, bX, rfl⟩ hlt
    have hlt0 := bX.lt
    have HB1 := Lib.hid hB1
    obtain ⟨hx2, hx1⟩ := HXS.out x.1 x.2
    have hU0 := HUB.out x.1.1 hx1
    have hko := kd_ok HRK.out.2 hx2
    have hp1 := hko.p1
    have hp2 := hko.p2
    have hT3 := HT.out.below hB1
    have HTW : Hid (TabAt W T M r ks) := Lib.hid (by
      obtain ⟨kb, koff, kcap, q, mb, moff, mcap, h1, _⟩ := hT3
      exact ⟨kb, koff, kcap, q, mb, moff, mcap, h1⟩)
    have HUW := Lib.hid (HU.out.below hB1)
    obtain ⟨mv, hmv⟩ : ∃ mv, mxL (fun x => U x.1 + (kd ks x.2).p) (pre.map Subtype.val) lo = mv := ⟨_, rfl⟩
    obtain ⟨fv, hfv⟩ : ∃ fv, U x.1.1 + (kd ks x.1.2).p = fv := ⟨_, rfl⟩
    obtain ⟨gv, hgv⟩ : ∃ gv, max mv fv = gv := ⟨_, rfl⟩
    have HS := Lib.hid (show mxL (fun x => U x.1 + (kd ks x.2).p) ((pre ++ [x]).map Subtype.val) lo = gv by rw [List.map_append, List.map_singleton, mxL_snoc, hmv]; exact (congrArg (max mv) hfv).trans hgv)
    rw [hmv] at c0
    have hW1 : ∀ (d : Nat) (os : Array Obj), _ := fun d os => Calls.regrown_of (worthWith_any T M r ks x.1.1 x.1.2 U (grow (redrawn W d) os) (HTW.out.below (below_regrown W d os)) HRK.out.1 HRK.out.2 hx2 hx1 (HUW.out.below (below_regrown W d os)) hU0.1 hU0.2)
    rw [hfv] at hW1
    have hmx : ∀ w ts t, (Builtin.max_ ts t #[.int .i64 mv, .int .i64 fv]).run Try.prog w = .ok (.int .i64 gv) w := fun w ts t => by rw [run_max_w, hgv]
    have e0 := c0.cell 0
    have e1 := c1.cell 0
    have eX := bX.cell 0
    have eX' := bX.cell 1
    simp at e0 e1 eX eX'
    have g0 := fun d os => cell_regrown e0 d os
    have g1 := fun d os => cell_regrown e1 d os
    have g2 := fun d os => cell_regrown eX d os
    have g3 := fun d os => cell_regrown eX' d os
    clear hmv hfv hgv hko e0 e1 eX eX' hT3 hB1 hU0 hp1 hp2
    gi_wp2_with fail
    refine wpIn_region_tail 5 (by kernel_rfl) (by kernel_rfl) ?_
    repeat (quiet_step ((go_at_call 83; exact hW1 _ _)))
    refine wpQuiet_nil ?_
    intro _ hw'
    obtain ⟨⟨dq, osq⟩, hw''⟩ := hw'
    subst hw''
    simp only [List.drop_succ_cons, List.drop_zero]
    have hb3 := below_regrown W dq osq
    have q0 := c0.below hb3
    have q1 := c1.below hb3
    have hlt3 := q0.lt
    have HB3 := Lib.hid (HB1.out.trans (hb3.mono (by have := HB1.out.size; omega)))
    have hz3 := hb3.size
    have HKO := Lib.hid (KeepsOthers.of_below hb3)
    have HKT := Lib.hid (show KT T M n₀ W (grow (redrawn W dq) osq) from KT.of_below hb3 (by omega) (by omega))
    clear g0 g1 g2 g3 hW1 hmx hb3
    generalize grow (redrawn W dq) osq = w5 at *
    have e0 := q0.cell 0
    have f0 := q0.frozen 0
    simp at e0
    gi_wp2
    have d0 := q0.set (j := 0) (.int .i64 gv)
    refine ⟨?_, HKT.out.trans (KT.set (by omega) hn₀.1), ?_, q1.other (by omega) _, HB3.out.setCell (by simp) _, by simp [World.setCell]; omega⟩
    · exact (HKO.out.trans (KeepsOthers.setCell _ _ _)).from _
    · rw [HS.out]; simpa using d0
  case done =>
    rintro D zs W hD hzs ⟨c0, c1, hB1, hs1⟩ hK
    have e0 := c0.cell 0
    simp at e0
    rw [hzs] at e0
    have hDlt := (Array.getElem?_eq_some_iff.1 hK).1
    gi_wp2
    refine ⟨by simp, .inl ⟨_, _, rfl, run_takeDeferred hK, ?_⟩⟩
    refine ⟨_, ?_, ⟨rfl, ?_⟩⟩
    · simp [results, Try.results82, go_sem]
    · exact hB1.trans (belowK_b (w := w) (Nat.le_refl _) _ D _ _ (by omega) hK rfl rfl)
  case stop =>
    rintro D c pre W _ _ h _
    exact h.elim
end Go.Proofs.Ytnkeikhkafbokaa

namespace Go.Proofs.Ytnkeikhkafbokaa
open Go.RowKit Go.Dag

/-! ## The table's block, cell by cell -/
structure TCs (cs : Array Value) (len : Int) (sv kv fv : Value) (U Y : Nat → Int) (M : Nat) : Prop where
  size : cs.size = 55
  e0 : cs[0]? = some (.int .i64 len)
  e1 : cs[1]? = some sv
  e2 : cs[2]? = some kv
  e3 : cs[3]? = some fv
  up : ∀ p, p < 25 → cs[4 + p]? = some (.int .i64 (U p))
  wy : ∀ p, p < 25 → cs[29 + p]? = some (.int .i64 (Y p))
  mp : cs[54]? = some (.map (some M))
theorem get_set_ne {cs : Array Value} {i j : Nat} {v : Value} (h : i ≠ j) : (cs.setIfInBounds i v)[j]? = cs[j]? := by
  rw [Array.getElem?_setIfInBounds, if_neg h]
theorem TCs.setUp {cs : Array Value} {len : Int} {sv kv fv : Value} {U Y : Nat → Int} {M p : Nat} (h : TCs cs len sv kv fv U Y M) (hp : p < 25) (v : Int) : TCs (cs.setIfInBounds (4 + p) (.int .i64 v)) len sv kv fv (updF U p v) Y M := by
  refine ⟨by simpa using h.size, ?_, ?_, ?_, ?_, ?_, ?_, ?_⟩
  · rw [get_set_ne (by omega)]; exact h.e0
  · rw [get_set_ne (by omega)]; exact h.e1
  · rw [get_set_ne (by omega)]; exact h.e2
  · rw [get_set_ne (by omega)]; exact h.e3
  · intro q hq
    by_cases e : q = p
    · subst e
      rw [Array.getElem?_setIfInBounds, if_pos rfl, if_pos (by have := h.size; omega), updF_same]
    · rw [get_set_ne (by omega), updF_other _ e]; exact h.up q hq
  · intro q hq
    rw [get_set_ne (by omega)]; exact h.wy q hq
  · rw [get_set_ne (by omega)]; exact h.mp
theorem TCs.setWy {cs : Array Value} {len : Int} {sv kv fv : Value} {U Y : Nat → Int} {M p : Nat} (h : TCs cs len sv kv fv U Y M) (hp : p < 25) (v : Int) : TCs (cs.setIfInBounds (29 + p) (.int .i64 v)) len sv kv fv U (updF Y p v) M := by
  refine ⟨by simpa using h.size, ?_, ?_, ?_, ?_, ?_, ?_, ?_⟩
  · rw [get_set_ne (by omega)]; exact h.e0
  · rw [get_set_ne (by omega)]; exact h.e1
  · rw [get_set_ne (by omega)]; exact h.e2
  · rw [get_set_ne (by omega)]; exact h.e3
  · intro q hq
    rw [get_set_ne (by omega)]; exact h.up q hq
  · intro q hq
    by_cases e : q = p
    · subst e
      rw [Array.getElem?_setIfInBounds, if_pos rfl, if_pos (by have := h.size; omega), updF_same]
    · rw [get_set_ne (by omega), updF_other _ e]; exact h.wy q hq
  · rw [get_set_ne (by omega)]; exact h.mp
structure TbIn (w : World) (n₀ T M : Nat) (r : RibD) (ks : List KindD) (U Y : Nat → Int) (cs : Array Value) (sv : Value) (kb koff kcap q mb moff mcap : Nat) : Prop where
  blk : Blk w T (.cells cs 84)
  tcs : TCs cs r.len sv (.slice (some ⟨kb, koff, none⟩) ks.length kcap) (sumsV q) U Y M
  kin : ∀ i (h : i < ks.length), w.cell? ⟨kb, koff + i * 3, none⟩ = some (.int .i64 ks[i].w) ∧ w.cell? ⟨kb, koff + i * 3 + 1, none⟩ = some (.int .i64 ks[i].p) ∧ w.cell? ⟨kb, koff + i * 3 + 2, none⟩ = some (.int .i64 ks[i].m)
  qc : w.cell? ⟨q, 0, none⟩ = some (.slice (some ⟨mb, moff, none⟩) (marks r).length mcap)
  mc : ∀ i (h : i < (marks r).length), w.cell? ⟨mb, moff + i, none⟩ = some (.int .i64 (marks r)[i])
  cap : (marks r).length ≤ mcap
  cap2 : mcap ≤ 1000000
  nk : kb ≠ T ∧ kb ≠ M ∧ kb < n₀
  nq : q ≠ T ∧ q ≠ M ∧ q < n₀
  nm : mb ≠ T ∧ mb ≠ M ∧ mb < n₀
  nT : T < n₀ ∧ M < n₀ ∧ T ≠ M
/-- A table at T (its map is M, all of its blocks below n₀), with its numbers: what cuts up to a place are worth, in how many ways they go on. -/
def TbAt (w : World) (n₀ T M : Nat) (r : RibD) (ks : List KindD) (U Y : Nat → Int) : Prop := ∃ cs sv kb koff kcap q mb moff mcap, TbIn w n₀ T M r ks U Y cs sv kb koff kcap q mb moff mcap
section
variable {w w' : World} {n₀ T M : Nat} {r : RibD} {ks : List KindD} {U Y : Nat → Int}
theorem TbAt.tab (h : TbAt w n₀ T M r ks U Y) : TabAt w T M r ks := by
  obtain ⟨cs, sv, kb, koff, kcap, q, mb, moff, mcap, h⟩ := h
  exact ⟨kb, koff, kcap, q, mb, moff, mcap, (h.blk.cell 0).trans h.tcs.e0, (h.blk.cell 2).trans h.tcs.e2, (h.blk.cell 3).trans h.tcs.e3, h.kin, h.qc, h.mc, h.cap, h.cap2, ⟨h.nk.1, h.nk.2.1⟩, ⟨h.nq.1, h.nq.2.1⟩, ⟨h.nm.1, h.nm.2.1⟩⟩
theorem TbAt.up (h : TbAt w n₀ T M r ks U Y) : UpAt w T U := by
  obtain ⟨cs, sv, kb, koff, kcap, q, mb, moff, mcap, h⟩ := h
  exact fun p hp => (h.blk.cell _).trans (h.tcs.up p hp)
theorem TbAt.wy (h : TbAt w n₀ T M r ks U Y) {p : Nat} (hp : p < 25) : w.cell? ⟨T, 29 + p, none⟩ = some (.int .i64 (Y p)) := by
  obtain ⟨cs, sv, kb, koff, kcap, q, mb, moff, mcap, h⟩ := h
  exact (h.blk.cell _).trans (h.tcs.wy p hp)
theorem TbAt.len (h : TbAt w n₀ T M r ks U Y) : w.cell? ⟨T, 0, none⟩ = some (.int .i64 r.len) := by
  obtain ⟨cs, sv, kb, koff, kcap, q, mb, moff, mcap, h⟩ := h
  exact (h.blk.cell _).trans h.tcs.e0
theorem TbAt.mp (h : TbAt w n₀ T M r ks U Y) : w.cell? ⟨T, 54, none⟩ = some (.map (some M)) := by
  obtain ⟨cs, sv, kb, koff, kcap, q, mb, moff, mcap, h⟩ := h
  exact (h.blk.cell _).trans h.tcs.mp
theorem TbAt.frozen (h : TbAt w n₀ T M r ks U Y) (j : Nat) : w.frozen? ⟨T, j, none⟩ = false := by
  obtain ⟨cs, sv, kb, koff, kcap, q, mb, moff, mcap, h⟩ := h
  exact h.blk.frozen j
theorem TbAt.lt (h : TbAt w n₀ T M r ks U Y) : T < w.heap.size ∧ T < n₀ ∧ M < n₀ ∧ T ≠ M := by
  obtain ⟨cs, sv, kb, koff, kcap, q, mb, moff, mcap, h⟩ := h
  exact ⟨h.blk.lt, h.nT⟩
theorem TbAt.move (h : TbAt w n₀ T M r ks U Y) (hb : ∀ k, k < n₀ → k ≠ M → w'.heap[k]? = w.heap[k]?) : TbAt w' n₀ T M r ks U Y := by
  obtain ⟨cs, sv, kb, koff, kcap, q, mb, moff, mcap, h⟩ := h
  have c : ∀ {b o : Nat} {v : Value}, b < n₀ → b ≠ M → w.cell? ⟨b, o, none⟩ = some v → w'.cell? ⟨b, o, none⟩ = some v := fun h1 h2 h3 => by
    rw [← h3]; exact World.cell?_of_block (hb _ h1 h2)
  exact ⟨cs, sv, kb, koff, kcap, q, mb, moff, mcap, (hb T h.nT.1 h.nT.2.2).trans h.blk, h.tcs, fun i hi => ⟨c h.nk.2.2 h.nk.2.1 (h.kin i hi).1, c h.nk.2.2 h.nk.2.1 (h.kin i hi).2.1, c h.nk.2.2 h.nk.2.1 (h.kin i hi).2.2⟩,
    c h.nq.2.2 h.nq.2.1 h.qc, fun i hi => c h.nm.2.2 h.nm.2.1 (h.mc i hi), h.cap, h.cap2, h.nk, h.nq, h.nm, h.nT⟩
theorem TbAt.below (h : TbAt w n₀ T M r ks U Y) (hn : n₀ ≤ w.heap.size) (hb : Below w.heap.size w w') : TbAt w' n₀ T M r ks U Y := h.move fun k hk _ => hb.block k (by omega)
theorem TbAt.below' {B : Nat} (h : TbAt w n₀ T M r ks U Y) (hn : n₀ ≤ B) (hb : Below B w w') : TbAt w' n₀ T M r ks U Y := h.move fun k hk _ => hb.block k (by omega)
theorem TbAt.new (h : TbAt w n₀ T M r ks U Y) {b j : Nat} (hb : n₀ ≤ b) (v : Value) : TbAt (w.setCell ⟨b, j, none⟩ v) n₀ T M r ks U Y := h.move fun k hk _ => Below.heap_setCell _ _ _ _ (by simp; omega)
theorem TbAt.putM (h : TbAt w n₀ T M r ks U Y) (o : Obj) : TbAt (w.putObj M o) n₀ T M r ks U Y := h.move fun _ _ hM => World.putObj_heap_other (fun e => hM e)
theorem TbAt.keeps {B : Nat} (h : TbAt w n₀ T M r ks U Y) (hn : n₀ ≤ B) (hs : n₀ ≤ w.heap.size) (hb : KeepsB B w w') : TbAt w' n₀ T M r ks U Y := h.move fun k hk _ => by
  have hlt : k < w.heap.size := by omega
  rw [hb.same k w.heap[k] (Array.getElem?_eq_getElem hlt) (.inl (by omega)), Array.getElem?_eq_getElem hlt]
theorem TbAt.setUp (h : TbAt w n₀ T M r ks U Y) {p : Nat} (hp : p < 25) (v : Int) : TbAt (w.setCell ⟨T, 4 + p, none⟩ (.int .i64 v)) n₀ T M r ks (updF U p v) Y := by
  obtain ⟨cs, sv, kb, koff, kcap, q, mb, moff, mcap, h⟩ := h
  exact ⟨_, sv, kb, koff, kcap, q, mb, moff, mcap, h.blk.set _, h.tcs.setUp hp v, fun i hi => ⟨cell_other (h.kin i hi).1 h.nk.1, cell_other (h.kin i hi).2.1 h.nk.1, cell_other (h.kin i hi).2.2 h.nk.1⟩, cell_other h.qc h.nq.1, fun i hi => cell_other (h.mc i hi) h.nm.1, h.cap, h.cap2, h.nk, h.nq, h.nm, h.nT⟩
theorem TbAt.setWy (h : TbAt w n₀ T M r ks U Y) {p : Nat} (hp : p < 25) (v : Int) : TbAt (w.setCell ⟨T, 29 + p, none⟩ (.int .i64 v)) n₀ T M r ks U (updF Y p v) := by
  obtain ⟨cs, sv, kb, koff, kcap, q, mb, moff, mcap, h⟩ := h
  exact ⟨_, sv, kb, koff, kcap, q, mb, moff, mcap, h.blk.set _, h.tcs.setWy hp v, fun i hi => ⟨cell_other (h.kin i hi).1 h.nk.1, cell_other (h.kin i hi).2.1 h.nk.1, cell_other (h.kin i hi).2.2 h.nk.1⟩, cell_other h.qc h.nq.1, fun i hi => cell_other (h.mc i hi) h.nm.1, h.cap, h.cap2, h.nk, h.nq, h.nm, h.nT⟩
end

/-! ## What else stays: all but T and M -/
section
variable {w W W' : World} {T M : Nat}
theorem FrLM.refl (w : World) (T M : Nat) : FrLM w T M w := ⟨Nat.le_refl _, fun _ _ _ _ => rfl, rfl, rfl, rfl⟩
theorem FrLM.below (h : FrLM w T M W) (hb : Below W.heap.size W W') : FrLM w T M W' :=
  ⟨Nat.le_trans h.size hb.size, fun k hk h1 h2 => (hb.block k (Nat.lt_of_lt_of_le hk h.size)).trans (h.same k hk h1 h2), hb.os.trans h.os, hb.tape.trans h.tape, hb.output.trans h.output⟩
theorem FrLM.setT (h : FrLM w T M W) (j : Nat) (v : Value) : FrLM w T M (W.setCell ⟨T, j, none⟩ v) :=
  ⟨by simpa [World.setCell] using h.size, fun k hk h1 h2 => (Below.heap_setCell _ _ _ _ (by simp; omega)).trans (h.same k hk h1 h2), h.os, h.tape, h.output⟩
theorem FrLM.new (h : FrLM w T M W) {b : Nat} (hb : w.heap.size ≤ b) (j : Nat) (v : Value) : FrLM w T M (W.setCell ⟨b, j, none⟩ v) :=
  ⟨by simpa [World.setCell] using h.size, fun k hk h1 h2 => (Below.heap_setCell _ _ _ _ (by simp; omega)).trans (h.same k hk h1 h2), h.os, h.tape, h.output⟩
theorem FrLM.putM (h : FrLM w T M W) (o : Obj) : FrLM w T M (W.putObj M o) :=
  ⟨by simpa using h.size, fun k hk h1 h2 => (World.putObj_heap_other h2).trans (h.same k hk h1 h2), h.os, h.tape, h.output⟩
theorem FrLM.keeps {B : Nat} (h : FrLM w T M W) (hB : w.heap.size ≤ B) (hk : KeepsB B W W') : FrLM w T M W' :=
  ⟨Nat.le_trans h.size hk.size, fun k hk' h1 h2 => by
    have hlt : k < W.heap.size := Nat.lt_of_lt_of_le hk' h.size
    have e : W'.heap[k]? = W.heap[k]? := by rw [hk.same k W.heap[k] (Array.getElem?_eq_getElem hlt) (.inl (by omega)), Array.getElem?_eq_getElem hlt]
    exact e.trans (h.same k hk' h1 h2), hk.os.trans h.os, hk.tape.trans h.tape, hk.output.trans h.output⟩
theorem MapIs.keeps {B : Nat} {S : SK → Prop} (h : MapIs W M S) (hM : M < B) (hk : KeepsB B W W') : MapIs W' M S := by
  refine h.of_block ?_
  have hlt := h.lt
  rw [hk.same M W.heap[M] (Array.getElem?_eq_getElem hlt) (.inl hM), Array.getElem?_eq_getElem hlt]
end
end Go.Proofs.Ytnkeikhkafbokaa
