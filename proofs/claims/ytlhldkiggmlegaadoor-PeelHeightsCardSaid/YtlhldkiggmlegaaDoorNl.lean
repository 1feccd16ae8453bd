import Derived.Test.YtlhldkiggmlegaaDoorNk
import Derived.Test.YtlhldkiggmlegaaDoorNj
import Derived.Scope
namespace Go.Proofs.YtlhldkiggmlegaaDoor
open Go.RowKit Go.Shelf Go.Sort
attribute [local go_sem] Oper.semAt_some

theorem cell_old {w W : World} (hk : ∀ (k : Nat) (o : Obj), w.heap[k]? = some o → W.heap[k]? = some o) {b o : Nat} {v : Value} (h : w.cell? ⟨b, o, none⟩ = some v) : W.cell? ⟨b, o, none⟩ = some v := by
  have hlt := lt_of_cell h
  rw [← h]
  exact World.cell?_of_block ((hk b _ (Array.getElem?_eq_getElem hlt)).trans (Array.getElem?_eq_getElem hlt).symm)
/-- A log stands where all its blocks stand. -/
theorem LatheAt.old {w W : World} {L M : Nat} {l : LogD} (h : LatheAt w L M l) (hk : ∀ (k : Nat) (o : Obj), w.heap[k]? = some o → W.heap[k]? = some o) : LatheAt W L M l := by
  obtain ⟨va, ve, h1, ⟨a, cap, e, hc⟩, ⟨a', cap', e', hc'⟩⟩ := h
  refine ⟨va, ve, hk _ _ h1, ⟨a, cap, e, fun hn => ?_⟩, ⟨a', cap', e', fun hn => ?_⟩⟩
  · obtain ⟨b, off, ea, hc⟩ := hc hn
    exact ⟨b, off, ea, fun i hi => cell_old hk (hc i hi)⟩
  · obtain ⟨b, off, ea, hc⟩ := hc' hn
    exact ⟨b, off, ea, fun i hi => ⟨cell_old hk (hc i hi).1, cell_old hk (hc i hi).2⟩⟩

set_option maxHeartbeats 400000 in
theorem corners_any (L : Nat) (core : Rat) (w : World) :
    Calls Tryd.prog 96 #[.pointer (some ⟨L, 0, none⟩), .agg #[.int .i64 core.num, .int .i64 core.den]] w fun e w' =>
      e = .returned (.func (.func 109) #[] #[.pointer (some ⟨w.heap.size, 0, none⟩), .pointer (some ⟨w.heap.size + 1, 0, none⟩)]) ∧
      (w.alloc (.cells #[.pointer (some ⟨L, 0, none⟩)] 85)).alloc (.cells #[.int .i64 core.num, .int .i64 core.den] 31) = w' := by
  have hmf : ∀ (fn : Fn) (first cap : Array Value) (w : World), (Instr.makeFunc fn first cap).run Tryd.prog w = .ok (.func fn first cap) w := fun _ _ _ _ => rfl
  go_enter Tryd.func96, Tryd.ntmps96
  go_wp2
  go_ret
  exact ⟨rfl, rfl⟩

/-- What a round keeps of the worlds behind w0. -/
abbrev PrC (N Bl Bc : Nat) (k : Nat) : Prop := k < N ∨ k = Bl ∨ k = Bc
theorem corners_gives (n : Nat) (hn : 1 ≤ n) (Bl Bc L M : Nat) (l : LogD) (core : Rat) (w0 w : World) (hf : Fit l.at_ [l.edges]) (hc : CoreOk core) (hL : LatheAt w0 L M l) (h0 : Below w0.heap.size w0 w)
    (bl : Blk w Bl (.cells #[.pointer (some ⟨L, 0, none⟩)] 85)) (bc : Blk w Bc (.cells #[.int .i64 core.num, .int .i64 core.den] 31)) :
    Gives n Tryd.prog 109 #[.pointer (some ⟨Bl, 0, none⟩), .pointer (some ⟨Bc, 0, none⟩)] (fun c : Cn => #[c.val]) (KpP (PrC w0.heap.size Bl Bc) w.heap.size) (fun pre c W => c.Is W ∧ IsCorner l core (c.a, c.b) ∧ pre.length ≤ 2000) (fun ys => ptsOf ys = cornersL l core) w := by
  intro lp J W hW hJ hY hJ0
  have bl' := bl.below hW
  have bc' := bc.below hW
  have e1 := bl'.cell 0
  have e2 := bc'.cell 0
  have e3 := bc'.cell 1
  simp at e1 e2 e3
  refine corners1_in n hn lp Bl Bc L M w.heap.size l core (PrC w0.heap.size Bl Bc) W hf hc (.inr (.inl rfl)) (.inr (.inr rfl)) hW.size ?_ J ?_ ?_ e1 e2 e3 hJ0
  · intro W' hk
    refine hL.old fun k o ho => ?_
    have hlt := (Array.getElem?_eq_some_iff.1 ho).1
    exact hk.same k o ((hW.block k (Nat.lt_of_lt_of_le hlt h0.size)).trans ((h0.block k hlt).trans ho)) (.inl (.inl hlt))
  · intro pre x W1 hx hcx hlx hJ1
    exact hY pre x W1 ⟨hx, hcx, hlx⟩ hJ1
  · intro pre W1 W2 hJ1 hb
    exact hJ pre W1 W2 none hJ1 ⟨hb.os, hb.tape, hb.output, hb.size, fun k hk _ => hb.block k hk⟩ (fun r e => by cases e)

/-! ## Which corners keep the core -/
def keepsAt (l : LogD) (core : Rat) (x : Pt × Pt) (k : Nat) : Bool := !decide (lineAt x.1 x.2 (atD l k) < (lowP l core k).2) && !decide ((uppP l core k).2 < lineAt x.1 x.2 (atD l k))
def keepsUpto (l : LogD) (core : Rat) (x : Pt × Pt) (n : Nat) : Bool := (List.range n).all (keepsAt l core x)
def keepsB (l : LogD) (core : Rat) (x : Pt × Pt) : Bool := keepsUpto l core x l.at_.length
def keepL (l : LogD) (core : Rat) : List (Pt × Pt) := (cornersL l core).filter (keepsB l core)
theorem keepsUpto_succ (l : LogD) (core : Rat) (x : Pt × Pt) (n : Nat) : keepsUpto l core x (n + 1) = (keepsUpto l core x n && keepsAt l core x n) := by
  unfold keepsUpto
  rw [List.range_succ, List.all_append]
  simp
theorem keepsB_false {l : LogD} {core : Rat} {x : Pt × Pt} {k : Nat} (hk : k < l.at_.length) (h : keepsAt l core x k = false) : keepsB l core x = false := by
  unfold keepsB keepsUpto
  rw [List.all_eq_false]
  exact ⟨k, List.mem_range.2 hk, by rw [h]; simp⟩
theorem ptK_fr {l : LogD} (hf : Fit l.at_ [l.edges]) {core : Rat} (h : CoreOk core) {k : Nat} (hk : k < l.at_.length) (c : Nat) : Fr core.den 3000 (ptK (lowP l core k) (uppP l core k) c).2 ∧ (ptK (lowP l core k) (uppP l core k) c).1 = atD l k := by
  obtain ⟨h1, h2⟩ := low_fr hf h hk
  unfold ptK
  split
  · exact ⟨h1, rfl⟩
  · exact ⟨h2, rfl⟩
theorem at_bd {l : LogD} (hf : Fit l.at_ [l.edges]) {k : Nat} (hk : k < l.at_.length) : 0 ≤ atD l k ∧ atD l k ≤ 100 := by
  rw [← atD_eq hk]
  exact okInts_get hf.ats k hk
/-- All fractions of a corner's height. -/
theorem corner_fine {l : LogD} (hf : Fit l.at_ [l.edges]) {core : Rat} (h : CoreOk core) {x : Pt × Pt} (hx : IsCorner l core x) {k : Nat} (hk : k < l.at_.length) :
    Fine x.1.2 ∧ Fine (x.2.2 - x.1.2) ∧ Fine ((x.2.2 - x.1.2) * ((atD l k - x.1.1 : Int) : Rat) / ((x.2.1 - x.1.1 : Int) : Rat)) ∧ Fine (lineAt x.1 x.2 (atD l k)) ∧ 0 ≤ x.1.1 ∧ x.1.1 < x.2.1 ∧ x.2.1 ≤ 100 ∧ 0 ≤ atD l k ∧ atD l k ≤ 100 := by
  obtain ⟨i, j, c, d, hij, hj, hc, hd, rfl⟩ := hx
  obtain ⟨a1, a2⟩ := ptK_fr hf h (show i < l.at_.length by omega) c
  obtain ⟨b1, b2⟩ := ptK_fr hf h hj d
  have o1 := at_bd hf (show i < l.at_.length by omega)
  have o2 := at_bd hf hj
  have o3 := at_bd hf hk
  have o4 := strict_at hf hij hj
  have hd1 := core.den_pos
  have hd2 := h.den
  generalize ptK (lowP l core i) (uppP l core i) c = pa at *
  generalize ptK (lowP l core j) (uppP l core j) d = pb at *
  have e1 : Fr core.den 6000 (pb.2 - pa.2) := (b1.sub a1).mono (by omega)
  have e2 := e1.part (n := atD l k - pa.1) (d := pb.1 - pa.1) (by omega) (by omega) (by omega) (by omega)
  have e3 := (a1.wide (pb.1 - pa.1).toNat (by omega)).add e2
  have hD : core.den * (pb.1 - pa.1).toNat ≤ 200 * 100 := Nat.mul_le_mul hd2 (by omega)
  have hD0 : 0 < core.den * (pb.1 - pa.1).toNat := Nat.mul_pos hd1 (by omega)
  have hM : ∀ M : Int, 0 ≤ M → M ≤ 700000 → M * ((core.den * (pb.1 - pa.1).toNat : Nat) : Int) ≤ 17592186044416 := by
    intro M hM hM'
    have := mul_bd M ((core.den * (pb.1 - pa.1).toNat : Nat) : Int) 700000 20000 (by omega) hM' (by omega) (by omega) (by omega)
    omega
  refine ⟨pt_fine hd1 hd2 a1, ?_, e2.fine hD0 (by omega) (hM _ (by omega) (by omega)), e3.fine hD0 (by omega) (hM _ (by omega) (by omega)), show 0 ≤ pa.1 by omega, show pa.1 < pb.1 by omega, show pb.1 ≤ 100 by omega, o3.1, o3.2⟩
  refine e1.fine hd1 (by omega) ?_
  have : (6000 : Int) * (core.den : Int) ≤ 6000 * 200 := Int.mul_le_mul_of_nonneg_left (by omega) (by omega)
  omega

theorem Blk.ne_of {W : World} {k k' : Nat} {o o' : Obj} (h : Blk W k o) (h' : Blk W k' o') (hne : o ≠ o') : k ≠ k' := by
  rintro rfl
  unfold Blk at h h'
  rw [h] at h'
  exact hne (Option.some.inj h')
/-- Another box of one cell is written. -/
theorem Cn.Is.set {W : World} {c : Cn} {B : Nat} {v u : Value} {T : TypeId} (h : c.Is W) (hB : Blk W B (.cells #[v] T)) : c.Is (W.setCell ⟨B, 0, none⟩ u) := by
  obtain ⟨h1, h2, h3⟩ := h
  exact ⟨h1.other (h1.ne_of hB (by simp)) u, h2.other (h2.ne_of hB (by simp)) u, h3.other (h3.ne_of hB (by simp)) u⟩
theorem Row.set {W : World} {B n : Nat} {v v' u x : Value} {T : TypeId} {xs : List Value} (h : Row W v' (n + 1) 1 (xs ++ [x])) (hB : Blk W B (.cells #[v] T)) (hne : v ≠ x) : Row (W.setCell ⟨B, 0, none⟩ u) v' (n + 1) 1 (xs ++ [x]) := by
  obtain ⟨h1, ⟨_, h2⟩ | ⟨g, cap, cur, e, e1, e3, e4, e5, e6, e7⟩⟩ := h
  · omega
  refine ⟨h1, .inr ⟨g, cap, cur, e, e1, e3.other (e3.ne_of hB ?_) u, e4, e5, e6, e7⟩⟩
  intro he
  injection he with he _ _
  subst he
  simp only [List.length_append, List.length_cons, List.length_nil] at h1
  have e6' : 1 = cap * 1 := e6
  have hn : n = 0 := by omega
  subst hn
  have hx : xs = [] := List.length_eq_zero_iff.1 (by omega)
  subst hx
  simp at e7
  exact hne e7

/-- What stands before each round of keeping. -/
structure KI (w w1 : World) (l : LogD) (core : Rat) (L : Nat) (pre : List Cn) (W : World) : Prop where
  old : Below w.heap.size w W
  p1 : Blk W w.heap.size (.cells #[.pointer (some ⟨L, 0, none⟩)] 85)
  p2 : Blk W (w.heap.size + 1) (.cells #[.int .i64 core.num, .int .i64 core.den] 31)
  size : w1.heap.size ≤ W.heap.size
  kept : ∃ v ks, Blk W (w.heap.size + 1 + 1) (.cells #[v] 99) ∧ Row W v ks.length 1 (ks.map Cn.val) ∧ (∀ c ∈ ks, Cn.Is c W) ∧ ks.length ≤ pre.length ∧ ptsOf ks = (ptsOf pre).filter (keepsB l core)
theorem KI.keeps {w w1 W W' : World} {l : LogD} {core : Rat} {L : Nat} {pre : List Cn} (h : KI w w1 l core L pre W) (hk : KeepsB w1.heap.size W W') (hw : w.heap.size + 5 ≤ w1.heap.size) : KI w w1 l core L pre W' := by
  obtain ⟨v, ks, h1, h2, h3, h4, h5⟩ := h.kept
  exact ⟨below_keeps h.old hk (by omega) (by have := h.size; omega), h.p1.keepsC hk, h.p2.keepsC hk, Nat.le_trans h.size hk.size, v, ks, h1.keepsC hk, h2.keeps hk, fun c hc => HAt.keeps (h3 c hc) hk, h4, h5⟩
theorem KI.below {w w1 W W' : World} {l : LogD} {core : Rat} {L : Nat} {pre : List Cn} (h : KI w w1 l core L pre W) (hb : Below W.heap.size W W') : KI w w1 l core L pre W' := by
  obtain ⟨v, ks, h1, h2, h3, h4, h5⟩ := h.kept
  exact ⟨h.old.trans (hb.mono h.old.size), h.p1.below hb, h.p2.below hb, Nat.le_trans h.size hb.size, v, ks, h1.below hb, h2.below hb, fun c hc => HAt.below (h3 c hc) hb, h4, h5⟩

theorem keepsB_put {W : World} {D : Nat} {o o' : Obj} (h : W.heap[D]? = some o) (hc : o.isCells = false) : KeepsB D W (W.putObj D o') := by
  refine ⟨by simp, fun k x hx hk => (World.putObj_heap_other ?_).trans hx, rfl, rfl, rfl⟩
  rintro rfl
  rw [h] at hx
  cases hx
  rcases hk with hk | hk
  · omega
  · rw [hc] at hk; cases hk
theorem keepsFrom_below {B : Nat} {W W' : World} (h : Below W.heap.size W W') : KeepsFrom B W W' := ⟨h.size, fun k _ _ ho _ => (h.block k (Array.getElem?_eq_some_iff.1 ho).1).trans ho⟩
theorem KI.skip {w w1 W W₂ : World} {l : LogD} {core : Rat} {L : Nat} {pre : List Cn} {c : Cn} (h : KI w w1 l core L pre W) (hb : Below W.heap.size W W₂) (hc : keepsB l core (c.a, c.b) = false) : KI w w1 l core L (pre ++ [c]) W₂ := by
  obtain ⟨h1, h2, h3, h4, v, ks, k1, k2, k3, k4, k5⟩ := h.below hb
  refine ⟨h1, h2, h3, h4, v, ks, k1, k2, k3, by simp; omega, ?_⟩
  rw [ptsOf_snoc, List.filter_append, k5, List.filter_cons_of_neg (by simp [hc])]
  simp
/-- A corner that keeps the core is kept. -/
theorem KI.take {w w1 W : World} {l : LogD} {core : Rat} {L : Nat} {pre : List Cn} {c : Cn} {v v' : Value} {ks : List Cn} (h1 : Below w.heap.size w W) (h2 : Blk W w.heap.size (.cells #[.pointer (some ⟨L, 0, none⟩)] 85))
    (h3 : Blk W (w.heap.size + 1) (.cells #[.int .i64 core.num, .int .i64 core.den] 31)) (h4 : w1.heap.size ≤ W.heap.size)
    (k1 : Blk W (w.heap.size + 1 + 1) (.cells #[v] 99)) (hv : v ≠ c.val) (k2 : Row W v' (ks.length + 1) 1 (ks.map Cn.val ++ [c.val])) (k3 : ∀ c ∈ ks, Cn.Is c W) (hI : c.Is W) (k4 : ks.length ≤ pre.length)
    (k5 : ptsOf ks = (ptsOf pre).filter (keepsB l core)) (hc : keepsB l core (c.a, c.b) = true) : KI w w1 l core L (pre ++ [c]) (W.setCell ⟨w.heap.size + 1 + 1, 0, none⟩ v') := by
  refine ⟨h1.setCell (by simp; omega) _, h2.other (by omega) _, h3.other (by omega) _, by simpa using h4, v', ks ++ [c], ?_, ?_, ?_, by simp; omega, ?_⟩
  · have := k1.set (j := 0) v'
    simpa using this
  · have := Row.set (u := v') k2 k1 hv
    simpa using this
  · intro x hx
    rcases List.mem_append.1 hx with hx | hx
    · exact Cn.Is.set (k3 x hx) k1
    · rw [List.mem_singleton.1 hx]
      exact Cn.Is.set hI k1
  · rw [ptsOf_snoc, ptsOf_snoc, List.filter_append, k5, List.filter_cons_of_pos (by simp [hc])]
    rfl

set_option maxRecDepth 100000 in
set_option maxHeartbeats 40000000 in
theorem keeping_any (L M : Nat) (l : LogD) (core : Rat) (w : World) (hl : LatheAt w L M l) (hf : Fit l.at_ [l.edges]) (hc : CoreOk core) :
    Calls Tryd.prog 68 #[.pointer (some ⟨L, 0, none⟩), .agg #[.int .i64 core.num, .int .i64 core.den]] w fun e w' => ∃ v ks, e = .returned v ∧ Row w' v ks.length 1 (ks.map Cn.val) ∧ (∀ c ∈ ks, Cn.Is c w') ∧ ptsOf ks = keepL l core ∧ Below w.heap.size w w' := by
  have HL := Lib.hid hl
  have HF := Lib.hid hf
  have HC := Lib.hid hc
  clear hl hf hc
  refine (callsIn_wide (n := 8)).1 ?_
  refine callsIn_of_wp_marks Tryd.func68 rfl trivial ?_ rfl
  simp only [Tryd.ntmps68, List.size_toArray, List.length_cons, List.length_nil, Nat.reduceAdd, Nat.reduceSub, Array.replicate_succ, Array.replicate_zero, List.push_toArray, List.append_toArray, List.nil_append, List.cons_append]
  gi_wp2
  refine wpIn_wide.2 (wp_scope_straight ((wpIn_wide (n := 8)).1 ?_))
  gi_wp2
  refine wpIn_label ?_
  gi_wp2
  refine ⟨trivial, (callsIn_wide.2 (corners_any L core _)).mono ?_⟩
  rintro e w1 ⟨rfl, rfl⟩
  simp only [World.size_alloc]
  have b1 := ((((Blk.new w (.cells #[.pointer (some ⟨L, 0, none⟩)] 85)).alloc (.cells #[.int .i64 core.num, .int .i64 core.den] 31)).alloc (.cells #[.slice none 0 0] 99)).alloc (.cells #[.pointer (some ⟨L, 0, none⟩)] 85)).alloc (.cells #[.int .i64 core.num, .int .i64 core.den] 31)
  have b2 := (((Blk.new (w.alloc (.cells #[.pointer (some ⟨L, 0, none⟩)] 85)) (.cells #[.int .i64 core.num, .int .i64 core.den] 31)).alloc (.cells #[.slice none 0 0] 99)).alloc (.cells #[.pointer (some ⟨L, 0, none⟩)] 85)).alloc (.cells #[.int .i64 core.num, .int .i64 core.den] 31)
  have b3 := ((Blk.new ((w.alloc (.cells #[.pointer (some ⟨L, 0, none⟩)] 85)).alloc (.cells #[.int .i64 core.num, .int .i64 core.den] 31)) (.cells #[.slice none 0 0] 99)).alloc (.cells #[.pointer (some ⟨L, 0, none⟩)] 85)).alloc (.cells #[.int .i64 core.num, .int .i64 core.den] 31)
  have b4 := (Blk.new (((w.alloc (.cells #[.pointer (some ⟨L, 0, none⟩)] 85)).alloc (.cells #[.int .i64 core.num, .int .i64 core.den] 31)).alloc (.cells #[.slice none 0 0] 99)) (.cells #[.pointer (some ⟨L, 0, none⟩)] 85)).alloc (.cells #[.int .i64 core.num, .int .i64 core.den] 31)
  have b5 := Blk.new ((((w.alloc (.cells #[.pointer (some ⟨L, 0, none⟩)] 85)).alloc (.cells #[.int .i64 core.num, .int .i64 core.den] 31)).alloc (.cells #[.slice none 0 0] 99)).alloc (.cells #[.pointer (some ⟨L, 0, none⟩)] 85)) (.cells #[.int .i64 core.num, .int .i64 core.den] 31)
  have hB1 : Below w.heap.size w (((((w.alloc (.cells #[.pointer (some ⟨L, 0, none⟩)] 85)).alloc (.cells #[.int .i64 core.num, .int .i64 core.den] 31)).alloc (.cells #[.slice none 0 0] 99)).alloc (.cells #[.pointer (some ⟨L, 0, none⟩)] 85)).alloc (.cells #[.int .i64 core.num, .int .i64 core.den] 31)) := (below4 w _ _ _ _).alloc (by simp; omega) _
  have hz1 : (((((w.alloc (.cells #[.pointer (some ⟨L, 0, none⟩)] 85)).alloc (.cells #[.int .i64 core.num, .int .i64 core.den] 31)).alloc (.cells #[.slice none 0 0] 99)).alloc (.cells #[.pointer (some ⟨L, 0, none⟩)] 85)).alloc (.cells #[.int .i64 core.num, .int .i64 core.den] 31)).heap.size = w.heap.size + 5 := by simp
  simp only [World.size_alloc] at b1 b2 b3 b4 b5
  generalize ((((w.alloc (.cells #[.pointer (some ⟨L, 0, none⟩)] 85)).alloc (.cells #[.int .i64 core.num, .int .i64 core.den] 31)).alloc (.cells #[.slice none 0 0] 99)).alloc (.cells #[.pointer (some ⟨L, 0, none⟩)] 85)).alloc (.cells #[.int .i64 core.num, .int .i64 core.den] 31) = w1 at *
  have HZ := Lib.hid hz1
  have hseq := Lib.hid (corners_gives (8 - 1) (by omega) (w.heap.size + 1 + 1 + 1) (w.heap.size + 1 + 1 + 1 + 1) L M l core w w1 HF.out HC.out HL.out hB1 b4 b5)
  have hK0 : KI w w1 l core L [] w1 := ⟨hB1, b1, b2, Nat.le_refl _, _, [], b3, Row.nil _ _, (fun c hc => by cases hc), Nat.le_refl _, rfl⟩
  clear hz1 b1 b2 b3 b4 b5 hB1
  have HK0 := Lib.hid hK0
  clear hK0
  gi_wp2
  refine wpIn_range_gives (n := 8) (gf := 109) (lb := #[.pointer (some ⟨w.heap.size + 1 + 1 + 1, 0, none⟩), .pointer (some ⟨w.heap.size + 1 + 1 + 1 + 1, 0, none⟩)]) rfl (enters_of Tryd.func109 (by kernel_rfl) rfl)
    hseq.out kpP_t (kpP_b (by have := HZ.out; rintro k (h | rfl | rfl) <;> omega)) (fun _ => rfl) (fun pre W => KI w w1 l core L pre W)
    (ownFrom_of fun pre W W' hI hk => hI.keeps hk (by have := HZ.out; omega))
    (fun pre c => ownFrom_of fun _ W W' h hk => ⟨HAt.keeps h.1 hk, h.2⟩) HK0.out
    (fun c => { tmps := #[.pointer (some ⟨L, 0, none⟩), .agg #[.int .i64 core.num, .int .i64 core.den], .pointer (some ⟨w.heap.size, 0, none⟩), .pointer (some ⟨w.heap.size + 1, 0, none⟩), .slice none 0 0, .pointer (some ⟨w.heap.size + 1 + 1, 0, none⟩), c.val, undef, undef, undef,
      .pointer (some ⟨L, 0, none⟩), .agg #[.int .i64 core.num, .int .i64 core.den], .func (.func 109) #[] #[.pointer (some ⟨w.heap.size + 1 + 1 + 1, 0, none⟩), .pointer (some ⟨w.heap.size + 1 + 1 + 1 + 1, 0, none⟩)], c.val,
      undef, undef, undef, undef, undef, undef, undef, undef, undef, undef, undef, undef, undef, undef, undef, undef, undef, undef, undef, undef, undef, undef, undef, undef, undef, undef, undef, undef, undef, undef, undef, undef, undef, undef, undef], defers := [] }) ?assign ?body ?done
  case assign =>
    intro lp c W K hK
    gi_wp2
    exact hK
  case body =>
    rintro lp pre c W ⟨hIs, hcor, hlen⟩ hI
    obtain ⟨v, ks, k1, k2, k3, k4, k5⟩ := hI.kept
    have q1 := hI.p1.cell 0
    have q2 := hI.p2.cell 0
    have q3 := hI.p2.cell 1
    simp at q1 q2 q3
    have hlW := LatheAt.below HL.out hI.old
    have HLW := Lib.hid hlW
    obtain ⟨va, ve, bL', hA, hE⟩ := hlW
    obtain ⟨a, cap, rfl, hcell0⟩ := hA
    obtain ⟨ba, oa, rfl, hcell⟩ := hcell0 (by have := HF.out.two; intro h; rw [h] at this; simp at this)
    have eL := bL'.cell 0
    simp at eL
    unfold Cn.val hv
    have HIs := Lib.hid hIs
    have HCF := Lib.hid (fun k (hk : k < l.at_.length) => corner_fine HF.out HC.out hcor hk)
    have HI := Lib.hid hI
    have HLen := Lib.hid hlen
    have HX := Lib.hid hcell
    have H8 := HF.out.eight
    clear hIs hcor hI hlen bL' hE k1 k2 k3 k4 k5 hcell hcell0
    gi_wp2
    gi_loopw [20] (fun i wr => ∃ k : Nat, k ≤ l.at_.length ∧ i = .int .i64 k ∧ keepsUpto l core (c.a, c.b) k = true ∧ Below W.heap.size W wr)
      (fun i _ => l.at_.length - (intOf i).toNat)
    case atStart => exact ⟨0, Nat.zero_le _, rfl, rfl, Below.refl _ _⟩
    case round =>
      obtain ⟨k, hk, rfl, hup, hB⟩ := hrel
      by_cases hlt : k < l.at_.length
      · obtain ⟨W2, rfl⟩ : ∃ W2 : World, W2 = wr := ⟨_, rfl⟩
        have q1' := cellB q1 hB
        have q2' := cellB q2 hB
        have q3' := cellB q3 hB
        have ex : W2.cell? ⟨ba, oa + k, none⟩ = some (.int .i64 (atD l k)) := by rw [← atD_eq hlt]; exact cellB (HX.out k hlt) hB
        obtain ⟨f1, f2, f3, f4, f5, f6, f7, f8, f9⟩ := HCF.out k hlt
        have hH := Lib.hid (height_any c.a c.b c.b1 c.b2 c.b3 (atD l k) W2 (HAt.below HIs.out hB) f1 f2 f3 f8 f9 f5 f6 f7)
        clear f1 f2 f3 f5 f6 f7 f8 f9
        gi_wp2_with fail
        refine ⟨trivial, (CallsIn.inRound lp (callsIn_wide.2 hH.out)).mono ?_⟩
        rintro e w3 ⟨rfl, hb3⟩
        have hB3 := hB.trans (hb3.mono hB.size)
        clear q1' q2' q3' ex hb3 hH
        unfold qv
        obtain ⟨r, hr⟩ : ∃ r, r = lineAt c.a c.b (atD l k) := ⟨_, rfl⟩
        rw [← hr] at f4 ⊢
        have HR := Lib.hid hr
        clear hr
        gi_wp2
        have b9 := Blk.new w3 (.cells #[.int .i64 r.num, .int .i64 r.den] 31)
        have hB4 := hB3.alloc hB3.size (.cells #[.int .i64 r.num, .int .i64 r.den] 31)
        obtain ⟨b, hbe⟩ : ∃ b, b = w3.heap.size := ⟨_, rfl⟩
        rw [← hbe] at b9 ⊢
        clear hbe
        generalize w3.alloc (.cells #[.int .i64 r.num, .int .i64 r.den] 31) = W4 at *
        have n0 := b9.cell 0
        have n1 := b9.cell 1
        simp at n0 n1
        have g1 := fun d os => cell_regrown (cellB q1 hB4) d os
        have g2 := fun d os => cell_regrown (cellB q2 hB4) d os
        have g3 := fun d os => cell_regrown (cellB q3 hB4) d os
        have g4 := fun d os => cell_regrown n0 d os
        have g5 := fun d os => cell_regrown n1 d os
        have hcL := fun (d : Nat) (os : Array Obj) => Calls.regrown_of (low_call L M k l core (grow (redrawn W4 d) os) (LatheAt.below (LatheAt.below HLW.out hB4) (below_regrown W4 d os)) HF.out HC.out hlt)
        have hcU := fun (d : Nat) (os : Array Obj) => Calls.regrown_of (upp_call L M k l core (grow (redrawn W4 d) os) (LatheAt.below (LatheAt.below HLW.out hB4) (below_regrown W4 d os)) HF.out HC.out hlt)
        obtain ⟨p1, p2⟩ := low_fr HF.out HC.out hlt
        have hc1 := fun (d : Nat) (os : Array Obj) => Calls.regrown_of (less_any r (lowP l core k).2 (grow (redrawn W4 d) os) f4 (pt_fine core.den_pos HC.out.den p1))
        have hc2 := fun (d : Nat) (os : Array Obj) => Calls.regrown_of (less_any (uppP l core k).2 r (grow (redrawn W4 d) os) (pt_fine core.den_pos HC.out.den p2) f4)
        clear n0 n1 p1 p2
        unfold qv at hc1 hc2
        have hfd : ∀ (x y z : Value) (w : World), (Instr.field 142 (.agg #[x, y, z]) 1).run Tryd.prog w = .ok (.agg #[y, z]) w := fun _ _ _ _ => rfl
        have HKA := Lib.hid (show keepsAt l core (c.a, c.b) k = (!decide (r < (lowP l core k).2) && !decide ((uppP l core k).2 < r)) by unfold keepsAt; rw [HR.out])
        generalize (lowP l core k).2 = lo at *
        generalize (uppP l core k).2 = hi at *
        by_cases t1 : r < lo
        · simp only [t1, decide_true] at hc1
          refine wpIn_region_quietR (by kernel_rfl) (by kernel_rfl) ?_
          repeat (quiet_step (first | (go_at_call 97; exact hcL _ _) | (go_at_call 98; exact hcU _ _) | (go_at_call 80; with_reducible exact hc1 _ _) | (go_at_call 80; with_reducible exact hc2 _ _)))
          refine wpQuiet_nil ?_
          intro _ hw'
          obtain ⟨⟨dq, osq⟩, hw''⟩ := hw'
          subst hw''
          have hB5 := hB4.trans ((below_regrown W4 dq osq).mono hB4.size)
          clear g1 g2 g3 g4 g5 hcL hcU hc1 hc2
          generalize grow (redrawn W4 dq) osq = W5 at *
          gi_wp2
          exact ⟨keepsFrom_below hB5, KpP.of_below hB5, HI.out.skip hB5 (keepsB_false hlt (by rw [HKA.out]; simp [t1]))⟩
        · simp only [t1, decide_false] at hc1
          by_cases t2 : hi < r
          · simp only [t2, decide_true] at hc2
            refine wpIn_region_quietR (by kernel_rfl) (by kernel_rfl) ?_
            repeat (quiet_step (first | (go_at_call 97; exact hcL _ _) | (go_at_call 98; exact hcU _ _) | (go_at_call 80; with_reducible exact hc1 _ _) | (go_at_call 80; with_reducible exact hc2 _ _)))
            refine wpQuiet_nil ?_
            intro _ hw'
            obtain ⟨⟨dq, osq⟩, hw''⟩ := hw'
            subst hw''
            have hB5 := hB4.trans ((below_regrown W4 dq osq).mono hB4.size)
            clear g1 g2 g3 g4 g5 hcL hcU hc1 hc2
            generalize grow (redrawn W4 dq) osq = W5 at *
            gi_wp2
            exact ⟨keepsFrom_below hB5, KpP.of_below hB5, HI.out.skip hB5 (keepsB_false hlt (by rw [HKA.out]; simp [t1, t2]))⟩
          · simp only [t2, decide_false] at hc2
            refine wpIn_region_quietR (by kernel_rfl) (by kernel_rfl) ?_
            repeat (quiet_step (first | (go_at_call 97; exact hcL _ _) | (go_at_call 98; exact hcU _ _) | (go_at_call 80; with_reducible exact hc1 _ _) | (go_at_call 80; with_reducible exact hc2 _ _)))
            refine wpQuiet_nil ?_
            intro _ hw'
            obtain ⟨⟨dq, osq⟩, hw''⟩ := hw'
            subst hw''
            have hB5 := hB4.trans ((below_regrown W4 dq osq).mono hB4.size)
            clear g1 g2 g3 g4 g5 hcL hcU hc1 hc2
            generalize grow (redrawn W4 dq) osq = W5 at *
            gi_wp2
            go_roundw
            case rel => exact ⟨k + 1, by omega, by simp, by rw [keepsUpto_succ, hup, HKA.out]; simp [t1, t2], hB5⟩
            case measure => simp [intOf]; omega
      · obtain rfl : k = l.at_.length := by omega
        obtain ⟨v, ks, k1, k2, k3, k4, k5⟩ := (HI.out.below hB).kept
        have q5 := k1.cell 0
        simp at q5
        have hG := Lib.hid (grownH_any v ks.length (ks.map Cn.val) c.b1 c.b2 c.b3 wr k2 (by have := HLen.out; omega))
        have hUp := Lib.hid hup
        obtain ⟨W2, rfl⟩ : ∃ W2 : World, W2 = wr := ⟨_, rfl⟩
        have K1 := Lib.hid k1
        have K2 := Lib.hid k2
        have K3 := Lib.hid k3
        have K5 := Lib.hid k5
        have HB := Lib.hid hB
        clear k1 k2 k3 k5 hup hB
        gi_wp2_with fail
        refine ⟨trivial, (CallsIn.inRound lp (callsIn_wide.2 hG.out)).mono ?_⟩
        rintro e w3 ⟨v', rfl, hrow, hb3⟩
        obtain ⟨a', cap', rfl, _, _, _, _⟩ := hrow.cells
        have hB5 := HB.out.trans (hb3.mono HB.out.size)
        have k1' := K1.out.below hb3
        have q6 := k1'.cell 0
        have fz := k1'.frozen 0
        simp at q6
        have lt5 := k1'.lt
        have HR := Lib.hid hrow
        have HB3 := Lib.hid hb3
        have HB5 := Lib.hid hB5
        have HK1 := Lib.hid k1'
        clear hrow hb3 hB5 k1' hG
        gi_wp2
        have hz := HZ.out
        have hB5 := HB5.out
        refine ⟨⟨by simpa using hB5.size, fun k o hk ho _ => ?_⟩, ⟨by simpa using hB5.size, fun k o ho hk => ?_⟩, ?_⟩
        · exact Blk.other (Blk.below (W := W) ho hB5) (by omega) _
        · exact Blk.other (Blk.below (W := W) ho hB5) (by rcases hk with (hk | rfl | rfl) | ⟨hk, _⟩ <;> omega) _
        · exact KI.take (HI.out.old.trans (hB5.mono HI.out.old.size)) (HI.out.p1.below hB5) (HI.out.p2.below hB5) (Nat.le_trans HI.out.size hB5.size) HK1.out
            (by obtain ⟨a0, c0, e0, _⟩ := K2.out.cells; rw [e0]; simp [Cn.val]) HR.out (fun x hx => HAt.below (K3.out x hx) HB3.out) (HAt.below HIs.out hB5) k4 K5.out hUp.out
  case done =>
    rintro D xs W hD hS hI hK
    obtain ⟨v, ks, k1, k2, k3, k4, k5⟩ := hI.kept
    have q5 := k1.cell 0
    simp at q5
    have hDlt := (Array.getElem?_eq_some_iff.1 hK).1
    gi_wp2
    simp only [Exit.noGoto]
    refine ⟨by simp, .inl ⟨_, _, rfl, run_takeDeferred hK, ?_⟩⟩
    have hz := HZ.out
    have hkb := keepsB_put (o' := .deferred none) hK rfl
    refine ⟨v, by simp [results, Tryd.results68, go_sem], ⟨v, ks, rfl, k2.keeps hkb, fun x hx => HAt.keeps (k3 x hx) hkb, ?_, below_keeps hI.old hkb (by omega) hI.old.size⟩⟩
    rw [k5, show ptsOf xs = cornersL l core from hS]
    rfl
end Go.Proofs.YtlhldkiggmlegaaDoor
