import Derived.Test.YtlhldkiggmlegaaDoorNt
import Derived.Test.YtlhldkiggmlegaaDoorNq
import Derived.Test.YtlhldkiggmlegaaDoorNs
namespace Go.Proofs.YtlhldkiggmlegaaDoor
open Go.RowKit Go.Shelf Go.Sort
attribute [local go_sem] Oper.semAt_some

/-! ## The reference: all proofs -/
def rq2 (i k j : Nat) : List PK := [⟨i, k, j, 1⟩, ⟨i, k, j, 2⟩]
def rp3 (i k j : Nat) : List PK := (List.range (j - (k + 1))).flatMap fun d => rq2 i k (k + 1 + d)
def rp2 (n i k : Nat) : List PK := (List.range (k - (i + 1))).flatMap fun d => rp3 i (i + 1 + d) n
def rp1 (n i : Nat) : List PK := (List.range i).flatMap fun i' => single i' :: rp2 n i' n
theorem rp3_snoc {i k j : Nat} (h : k + 1 ≤ j) : rp3 i k (j + 1) = rp3 i k j ++ rq2 i k j := by
  unfold rp3
  rw [show j + 1 - (k + 1) = (j - (k + 1)) + 1 by omega, List.range_succ, List.flatMap_append]
  simp [show k + 1 + (j - (k + 1)) = j by omega]
theorem rp2_snoc {n i k : Nat} (h : i + 1 ≤ k) : rp2 n i (k + 1) = rp2 n i k ++ rp3 i k n := by
  unfold rp2
  rw [show k + 1 - (i + 1) = (k - (i + 1)) + 1 by omega, List.range_succ, List.flatMap_append]
  simp [show i + 1 + (k - (i + 1)) = k by omega]
theorem rp1_snoc (n i : Nat) : rp1 n (i + 1) = rp1 n i ++ (single i :: rp2 n i n) := by
  unfold rp1
  rw [List.range_succ, List.flatMap_append]
  simp
theorem rp3_start (i k : Nat) : rp3 i k (k + 1) = [] := by simp [rp3]
theorem rp2_start (n i : Nat) : rp2 n i (i + 1) = [] := by simp [rp2]
theorem mem_rp1 {n : Nat} {p : PK} : p ∈ rp1 n n ↔ p ∈ proofsL n := by
  constructor
  · intro h
    obtain ⟨i, hi, h⟩ := List.mem_flatMap.1 h
    rw [List.mem_range] at hi
    rcases List.mem_cons.1 h with rfl | h
    · exact List.mem_append_left _ (List.mem_map_of_mem (List.mem_range.2 hi))
    · obtain ⟨d, hd, h⟩ := List.mem_flatMap.1 h
      obtain ⟨e, he, h⟩ := List.mem_flatMap.1 h
      rw [List.mem_range] at hd he
      refine List.mem_append_right _ (List.mem_flatMap.2 ⟨i + 1 + d + 1 + e, List.mem_range.2 (by omega), List.mem_flatMap.2 ⟨i + 1 + d, List.mem_range.2 (by omega), List.mem_flatMap.2 ⟨i, List.mem_range.2 (by omega), ?_⟩⟩⟩)
      simpa [rq2, tri3] using h
  · intro h
    rcases List.mem_append.1 h with h | h
    · obtain ⟨i, hi, rfl⟩ := List.mem_map.1 h
      rw [List.mem_range] at hi
      exact List.mem_flatMap.2 ⟨i, List.mem_range.2 hi, List.mem_cons_self⟩
    · obtain ⟨j, hj, h⟩ := List.mem_flatMap.1 h
      obtain ⟨m, hm, h⟩ := List.mem_flatMap.1 h
      obtain ⟨i, hi, h⟩ := List.mem_flatMap.1 h
      rw [List.mem_range] at hj hm hi
      refine List.mem_flatMap.2 ⟨i, List.mem_range.2 (by omega), List.mem_cons_of_mem _ (List.mem_flatMap.2 ⟨m - (i + 1), List.mem_range.2 (by omega), List.mem_flatMap.2 ⟨j - (m + 1), List.mem_range.2 (by omega), ?_⟩⟩)⟩
      have e1 : i + 1 + (m - (i + 1)) = m := by omega
      rw [e1]
      have e2 : m + 1 + (j - (m + 1)) = j := by omega
      rw [e2]
      simpa [rq2, tri3] using h
theorem rp3_len (i k j : Nat) : (rp3 i k j).length ≤ 2 * j := by
  unfold rp3
  rw [List.length_flatMap]
  have : ∀ l : List Nat, (l.map fun d => (rq2 i k (k + 1 + d)).length).sum = 2 * l.length := by
    intro l
    induction l with
    | nil => rfl
    | cons x l ih => simp only [List.map_cons, List.sum_cons, ih, List.length_cons]; simp [rq2]; omega
  rw [this]; simp; omega
theorem rp2_len (n i k : Nat) : (rp2 n i k).length ≤ 2 * n * k := by
  unfold rp2
  rw [List.length_flatMap]
  have : ∀ l : List Nat, (l.map fun d => (rp3 i (i + 1 + d) n).length).sum ≤ 2 * n * l.length := by
    intro l
    induction l with
    | nil => simp
    | cons x l ih =>
      simp only [List.map_cons, List.sum_cons, List.length_cons, Nat.mul_succ]
      have := rp3_len i (i + 1 + x) n
      omega
  have h := this (List.range (k - (i + 1)))
  simp only [List.length_range] at h
  exact Nat.le_trans h (Nat.mul_le_mul_left _ (by omega))
theorem rp1_len (n i : Nat) : (rp1 n i).length ≤ (1 + 2 * n * n) * i := by
  induction i with
  | zero => simp [rp1]
  | succ i ih =>
    rw [rp1_snoc, List.length_append, List.length_cons, Nat.mul_succ]
    have := rp2_len n i n
    omega
theorem infoP : (Tryd.prog.info? 45).map (fun i => (i.zero, i.size, i.bytes)) = some (some (.agg #[.int .i64 0, .int .i64 0, .int .i64 0, .int .i64 0]), 4, 32) := by kernel_rfl
theorem undP : Tryd.prog.underlying 106 = some (.slice 45) := by kernel_rfl
theorem pkCells_append (a b : List PK) : pkCells (a ++ b) = pkCells a ++ pkCells b := by simp [pkCells]
theorem pkCells_len (a : List PK) : (pkCells a).length = a.length * 4 := by
  induction a with
  | nil => rfl
  | cons x a ih => simp only [pkCells, List.flatMap_cons, List.length_append, List.length_cons, List.length_nil]; unfold pkCells at ih; omega
theorem rp_small {n i k j : Nat} (hn : n ≤ 8) (hi : i ≤ 8) (hk : k ≤ 8) (hj : j ≤ 8) : (rp1 n i).length ≤ 1100 ∧ (rp2 n i k).length ≤ 130 ∧ (rp3 i k j).length ≤ 20 := by
  have h1 := rp1_len n i
  have h2 := rp2_len n i k
  have h3 := rp3_len i k j
  have m1 : n * n ≤ 8 * 8 := Nat.mul_le_mul hn hn
  have m2 : (1 + 2 * n * n) * i ≤ 129 * 8 := Nat.mul_le_mul (by rw [Nat.mul_assoc]; omega) hi
  have m3 : 2 * n * k ≤ 16 * 8 := Nat.mul_le_mul (by omega) hk
  omega
theorem new_cells (W : World) (l : List Value) (T : TypeId) : ∀ (j : Nat) (u : Value), l[j]? = some u → (W.alloc (.cells l.toArray T)).cell? (Addr.add ⟨W.heap.size, 0, none⟩ j) = some u := by
  intro j u hu
  have e1 : (Addr.add ⟨W.heap.size, 0, none⟩ j) = ⟨W.heap.size, j, none⟩ := by unfold Addr.add; split <;> simp_all
  rw [e1, (Blk.new W (.cells l.toArray T)).cell]
  simpa using hu
theorem one4 (x y z u : Int) : ∀ q ∈ [Value.int .i64 x, Value.int .i64 y, Value.int .i64 z, Value.int .i64 u], q.oneCell' = true := by
  intro q hq
  simp only [List.mem_cons, List.not_mem_nil, or_false] at hq
  rcases hq with rfl | rfl | rfl | rfl <;> rfl
theorem one8 (x y z u a b c d : Int) : ∀ q ∈ [Value.int .i64 x, Value.int .i64 y, Value.int .i64 z, Value.int .i64 u, Value.int .i64 a, Value.int .i64 b, Value.int .i64 c, Value.int .i64 d], q.oneCell' = true := by
  intro q hq
  simp only [List.mem_cons, List.not_mem_nil, or_false] at hq
  rcases hq with rfl | rfl | rfl | rfl | rfl | rfl | rfl | rfl <;> rfl
def rpL1 (n i k : Nat) : List PK := rp1 n i ++ (single i :: rp2 n i k)
def rpL2 (n i k j : Nat) : List PK := rpL1 n i k ++ rp3 i k j
theorem own_slice {W : World} {base n size : Nat} {e : TypeId} {v : Value} {xs : List Value} (h : W.ownsRow base e size v n xs) : ∃ a n' c, v = .slice a n' c := (Row.of_owns h).slice
set_option maxRecDepth 100000 in
set_option maxHeartbeats 4000000 in
theorem rProofs_any (v : Value) (l : LogD) (w : World) (hv : LogAt w v l) (hn : l.at_.length ≤ 8) :
    Calls Tryd.prog 94 #[v] w fun e w' => ∃ v', e = .returned v' ∧ Row w' v' (rp1 l.at_.length l.at_.length).length 4 (pkCells (rp1 l.at_.length l.at_.length)) ∧ Below w.heap.size w w' := by
  obtain ⟨va, ve, rfl, hA, hE⟩ := hv
  obtain ⟨a, cap, rfl⟩ := hA.slice
  obtain ⟨a', cap', rfl⟩ := hE.slice
  clear hA hE
  obtain ⟨i0, hi, hz0, hz1, hz2⟩ := info_parts infoP
  have HI := Lib.hid hi
  have HZ0 := Lib.hid hz0
  have HZ1 := Lib.hid hz1
  have HZ2 := Lib.hid hz2
  clear hi hz0 hz1 hz2
  obtain ⟨n, hnn⟩ : ∃ n, l.at_.length = n := ⟨_, rfl⟩
  rw [hnn] at hn ⊢
  have HNN := Lib.hid hnn
  go_enter Tryd.func94, Tryd.ntmps94
  go_wp2_with fail
  clear hnn
  go_loopw [3, 5] (fun o i wr => ∃ k : Nat, k ≤ n ∧ i = .int .i64 k ∧ wr.ownsRow w.heap.size 45 4 o (rp1 n k).length (pkCells (rp1 n k)) ∧ Below w.heap.size w wr) (fun _ i _ => n - (intOf i).toNat)
  case atStart => exact ⟨0, Nat.zero_le _, rfl, ⟨rfl, .inl ⟨rfl, rfl⟩⟩, below1 _ _⟩
  case round =>
    rename_i wr
    obtain ⟨i, hin, rfl, hown, hB⟩ := hrel
    have hsz := hB.size
    have HOWN := Lib.hid hown
    have HB := Lib.hid hB
    clear hown hB
    by_cases hlt : i < n
    · have hl1 := (rp_small hn (by omega : i ≤ 8) (by omega : i ≤ 8) (by omega : i ≤ 8)).1
      go_wp2_with (at_builtin; refine wpList_append_own _ rfl (.tmp 16) (.tmp 21) 106 rfl w.heap.size 45 i0 (.agg #[.int .i64 0, .int .i64 0, .int .i64 0, .int .i64 0]) 4 32 undP HI.out HZ0.out HZ1.out HZ2.out rfl (by decide) _ _ _ rfl (owns_below HOWN.out (below1 _ _)) ⟨wr.heap.size, 0, none⟩ 1 1 [.int .i64 i, .int .i64 i, .int .i64 i, .int .i64 0] rfl rfl (new_cells _ _ _) (one4 _ _ _ _) (by unfold maxLen; omega) (by omega) (by simp; omega) ?_; intro v2 w2 own2 gr2 _)
      have hA := below1 wr (.cells #[.int .i64 i, .int .i64 i, .int .i64 i, .int .i64 0] 45)
      have bel2 := below_owns (owns_below HOWN.out hA) gr2 (HB.out.alloc hsz _) (by simp; omega)
      have own2' : w2.ownsRow w.heap.size 45 4 v2 (rpL1 n i (i + 1)).length (pkCells (rpL1 n i (i + 1))) := by
        have e : rpL1 n i (i + 1) = rp1 n i ++ [single i] := by rw [rpL1, rp2_start]
        rw [e, List.length_append, pkCells_snoc]
        exact own2
      clear own2 gr2 hA HOWN HB hsz
      go_loopw [3, 6] (fun o i' wr => ∃ k : Nat, i + 1 ≤ k ∧ k ≤ n ∧ i' = .int .i64 k ∧ wr.ownsRow w.heap.size 45 4 o (rpL1 n i k).length (pkCells (rpL1 n i k)) ∧ Below w.heap.size w wr) (fun _ i' _ => n - (intOf i').toNat)
      case atStart => exact ⟨i + 1, Nat.le_refl _, by omega, by go_num, own2', bel2⟩
      case round =>
        obtain ⟨k, hk1, hk, rfl, hown, hB⟩ := hrel
        have hsz := hB.size
        have HOWN := Lib.hid hown
        have HB := Lib.hid hB
        clear hown hB own2' bel2
        by_cases hlk : k < n
        · go_wp2_with fail
          go_loopw [3, 7] (fun o i' wr => ∃ j : Nat, k + 1 ≤ j ∧ j ≤ n ∧ i' = .int .i64 j ∧ wr.ownsRow w.heap.size 45 4 o (rpL2 n i k j).length (pkCells (rpL2 n i k j)) ∧ Below w.heap.size w wr) (fun _ i' _ => n - (intOf i').toNat)
          case atStart => exact ⟨k + 1, Nat.le_refl _, by omega, by go_num, by rw [rpL2, rp3_start, List.append_nil]; exact HOWN.out, HB.out⟩
          case round =>
            obtain ⟨j, hj1, hj, rfl, hown, hB⟩ := hrel
            have hsz := hB.size
            have HOWN := Lib.hid hown
            have HB := Lib.hid hB
            clear hown hB
            by_cases hlj : j < n
            · obtain ⟨hl1, hl2, hl3⟩ := rp_small hn (by omega : i ≤ 8) (by omega : k ≤ 8) (by omega : j ≤ 8)
              have hl4 : (rpL2 n i k j).length ≤ 1300 := by simp only [rpL2, rpL1, List.length_append, List.length_cons]; omega
              clear hl1 hl2 hl3
              go_wp2_with (at_builtin; refine wpList_append_own _ rfl (.tmp 37) (.tmp 46) 106 rfl w.heap.size 45 i0 (.agg #[.int .i64 0, .int .i64 0, .int .i64 0, .int .i64 0]) 4 32 undP HI.out HZ0.out HZ1.out HZ2.out rfl (by decide) _ _ _ rfl (owns_below HOWN.out (below1 _ _)) ⟨wr.heap.size, 0, none⟩ 2 2 [.int .i64 i, .int .i64 k, .int .i64 j, .int .i64 1, .int .i64 i, .int .i64 k, .int .i64 j, .int .i64 2] rfl rfl (new_cells _ _ _) (one8 _ _ _ _ _ _ _ _) (by unfold maxLen; omega) (by omega) (by simp; omega) ?_; intro v4 w4 own4 gr4 _)
              have hA := below1 wr (.cells #[.int .i64 i, .int .i64 k, .int .i64 j, .int .i64 1, .int .i64 i, .int .i64 k, .int .i64 j, .int .i64 2] 45)
              have bel4 := below_owns (owns_below HOWN.out hA) gr4 (HB.out.alloc hsz _) (by simp; omega)
              have own4' : w4.ownsRow w.heap.size 45 4 v4 (rpL2 n i k (j + 1)).length (pkCells (rpL2 n i k (j + 1))) := by
                have e : rpL2 n i k (j + 1) = rpL2 n i k j ++ rq2 i k j := by rw [rpL2, rp3_snoc hj1, ← List.append_assoc]; rfl
                rw [e, List.length_append, pkCells_append]
                exact own4
              clear own4 gr4 hA
              go_roundw
              case rel => exact ⟨j + 1, by omega, by omega, by go_num, own4', bel4⟩
              case measure => simp [intOf]; omega
            · obtain rfl : j = n := by omega
              have e : rpL2 j i k j = rpL1 j i (k + 1) := by rw [rpL1, rp2_snoc hk1, ← List.cons_append, ← List.append_assoc]; rfl
              have h0 := HOWN.out
              rw [e] at h0
              have HOWN2 := Lib.hid h0
              clear h0 e
              go_wp2
              go_roundw
              case rel => exact ⟨k + 1, by omega, by omega, by go_num, HOWN2.out, HB.out⟩
              case measure => simp [intOf]; omega
        · obtain rfl : k = n := by omega
          have e : rpL1 k i k = rp1 k (i + 1) := by rw [rp1_snoc]; rfl
          have h0 := HOWN.out
          rw [e] at h0
          have HOWN2 := Lib.hid h0
          clear h0 e
          go_wp2
          go_roundw
          case rel => exact ⟨i + 1, by omega, by go_num, HOWN2.out, HB.out⟩
          case measure => simp [intOf]; omega
    · obtain rfl : i = n := by omega
      go_wp2
      go_ret
      exact ⟨_, rfl, Row.of_owns HOWN.out, HB.out⟩
end Go.Proofs.YtlhldkiggmlegaaDoor

namespace Go.Proofs.YtlhldkiggmlegaaDoor
open Go.RowKit Go.Shelf Go.Sort
attribute [local go_sem] Oper.semAt_some

/-! ## The reference: the best core -/
theorem pkCells_get (xs : List PK) (j : Nat) (hj : j < xs.length) : (pkCells xs)[j * 4]? = some (.int .i64 xs[j].f) ∧ (pkCells xs)[j * 4 + 1]? = some (.int .i64 xs[j].m) ∧ (pkCells xs)[j * 4 + 2]? = some (.int .i64 xs[j].t) ∧ (pkCells xs)[j * 4 + 3]? = some (.int .i64 xs[j].s) := by
  induction xs generalizing j with
  | nil => simp at hj
  | cons x xs ih =>
    have e : pkCells (x :: xs) = .int .i64 x.f :: .int .i64 x.m :: .int .i64 x.t :: .int .i64 x.s :: pkCells xs := rfl
    rw [e]
    match j, hj with
    | 0, _ => simp
    | j + 1, hj =>
      have h := ih j (by simpa using hj)
      rw [show (j + 1) * 4 = j * 4 + 4 by omega, show j * 4 + 4 + 1 = j * 4 + 1 + 4 by omega, show j * 4 + 4 + 2 = j * 4 + 2 + 4 by omega, show j * 4 + 4 + 3 = j * 4 + 3 + 4 by omega]
      simpa using h
theorem Row.pks {w : World} {v : Value} {xs : List PK} (h : Row w v xs.length 4 (pkCells xs)) (h0 : 0 < xs.length) :
    ∃ g cap, v = .slice (some ⟨g, 0, none⟩) xs.length cap ∧ g < w.heap.size ∧ ∀ j (h : j < xs.length), w.cell? ⟨g, j * 4, none⟩ = some (.int .i64 xs[j].f) ∧ w.cell? ⟨g, j * 4 + 1, none⟩ = some (.int .i64 xs[j].m) ∧ w.cell? ⟨g, j * 4 + 2, none⟩ = some (.int .i64 xs[j].t) ∧ w.cell? ⟨g, j * 4 + 3, none⟩ = some (.int .i64 xs[j].s) := by
  obtain ⟨h1, ⟨e1, e2⟩ | ⟨g, cap, cur, e, e1, e3, e4, e5, e6, e7⟩⟩ := h
  · omega
  · refine ⟨g, cap, e1, e3.lt, fun j hj => ?_⟩
    obtain ⟨r1, r2, r3, r4⟩ := pkCells_get xs j hj
    rw [← e7, List.getElem?_take] at r1 r2 r3 r4
    rw [e3.cell, e3.cell, e3.cell, e3.cell]
    simp only [Array.getElem?_toList] at r1 r2 r3 r4
    rw [if_pos (by omega)] at r1 r2 r3 r4
    exact ⟨r1, r2, r3, r4⟩
theorem pk_shape {n : Nat} {p : PK} (h : p ∈ proofsL n) : ∃ f m t : Nat, ∃ s : Int, p = ⟨f, m, t, s⟩ ∧ f < n ∧ m < n ∧ t < n ∧ ((s = 0 ∧ f = t ∧ m = t) ∨ ((s = 1 ∨ s = 2) ∧ f < m ∧ m < t)) := by
  rcases List.mem_append.1 h with h | h
  · obtain ⟨i, hi, rfl⟩ := List.mem_map.1 h
    rw [List.mem_range] at hi
    exact ⟨i, i, i, 0, rfl, hi, hi, hi, .inl ⟨rfl, rfl, rfl⟩⟩
  · obtain ⟨j, hj, h⟩ := List.mem_flatMap.1 h
    obtain ⟨m, hm, h⟩ := List.mem_flatMap.1 h
    obtain ⟨i, hi, h⟩ := List.mem_flatMap.1 h
    rw [List.mem_range] at hj hm hi
    simp only [tri3, List.mem_cons, List.not_mem_nil, or_false] at h
    rcases h with rfl | rfl
    · exact ⟨i, m, j, 1, rfl, by omega, by omega, hj, .inr ⟨.inl rfl, hi, hm⟩⟩
    · exact ⟨i, m, j, 2, rfl, by omega, by omega, hj, .inr ⟨.inr rfl, hi, hm⟩⟩
theorem rProves_pk {v : Value} {l : LogD} {p : PK} (w : World) (hv : LogAt w v l) (hf : Fit l.at_ [l.edges]) (hp : p ∈ proofsL l.at_.length) :
    Calls Tryd.prog 74 #[v, .agg #[.int .i64 p.f, .int .i64 p.m, .int .i64 p.t, .int .i64 p.s]] w fun e w' => e = .returned (.agg #[.int .i64 (valR l p).num, .int .i64 ((valR l p).den : Int)]) ∧ Below w.heap.size w w' := by
  obtain ⟨f, m, t, s, rfl, h1, h2, h3, h4⟩ := pk_shape hp
  exact rProves_any v l f m t s w hv hf h1 h2 h3 h4
/-- A fraction's variable. -/
structure Rt (W : World) (c : Nat) (r : Rat) : Prop where
  c0 : W.cell? ⟨c, 0, none⟩ = some (.int .i64 r.num)
  c1 : W.cell? ⟨c, 1, none⟩ = some (.int .i64 (r.den : Int))
  f0 : W.frozen? ⟨c, 0, none⟩ = false
  f1 : W.frozen? ⟨c, 1, none⟩ = false
theorem Rt.below {W W' : World} {c : Nat} {r : Rat} (h : Rt W c r) (hb : Below W.heap.size W W') : Rt W' c r :=
  ⟨cellB h.c0 hb, cellB h.c1 hb, (hb.frozen (p := ⟨c, 0, none⟩) (lt_of_cell h.c0)).trans h.f0, (hb.frozen (p := ⟨c, 1, none⟩) (lt_of_cell h.c1)).trans h.f1⟩
theorem Rt.set {W : World} {c : Nat} {r : Rat} (h : Rt W c r) (q : Rat) : Rt ((W.setCell ⟨c, 0, none⟩ (.int .i64 q.num)).setCell ⟨c, 1, none⟩ (.int .i64 (q.den : Int))) c q := by
  have h1 : ((W.setCell ⟨c, 0, none⟩ (.int .i64 q.num)).setCell ⟨c, 1, none⟩ (.int .i64 (q.den : Int))).cell? ⟨c, 0, none⟩ = some (.int .i64 q.num) := by
    rw [World.cell?_setCell_other _ _ _ _ (by simp), World.cell?_setCell_same _ _ _ h.c0]
  have h2 : ((W.setCell ⟨c, 0, none⟩ (.int .i64 q.num)).setCell ⟨c, 1, none⟩ (.int .i64 (q.den : Int))).cell? ⟨c, 1, none⟩ = some (.int .i64 (q.den : Int)) :=
    World.cell?_setCell_same _ _ _ (by rw [World.cell?_setCell_other _ _ _ _ (by simp)]; exact h.c1)
  have e0 := h.f0
  have e1 := h.f1
  exact ⟨h1, h2, by simpa using e0, by simpa using e1⟩
end Go.Proofs.YtlhldkiggmlegaaDoor

namespace Go.Proofs.YtlhldkiggmlegaaDoor
open Go.RowKit Go.Shelf Go.Sort
attribute [local go_sem] Oper.semAt_some

/-! ## The reference: BestOf -/
theorem val_fine {l : LogD} (hf : Fit l.at_ [l.edges]) {p : PK} (hp : p ∈ proofsL l.at_.length) : Fine (valR l p) := valR_fine hf hp
theorem rt_new (W : World) (r : Rat) : Rt (W.alloc (.cells #[.int .i64 r.num, .int .i64 (r.den : Int)] 31)) W.heap.size r := by
  have h := Blk.new W (.cells #[.int .i64 r.num, .int .i64 (r.den : Int)] 31)
  exact ⟨by rw [h.cell]; rfl, by rw [h.cell]; rfl, h.frozen 0, h.frozen 1⟩
theorem rt_blk {W : World} {c : Nat} {x y : Value} {T : TypeId} (h : Blk W c (.cells #[x, y] T)) (q : Rat) : Rt ((W.setCell ⟨c, 0, none⟩ (.int .i64 q.num)).setCell ⟨c, 1, none⟩ (.int .i64 (q.den : Int))) c q := by
  have U := (h.set (j := 0) (.int .i64 q.num)).set (j := 1) (.int .i64 (q.den : Int))
  exact ⟨by rw [U.cell]; rfl, by rw [U.cell]; rfl, U.frozen 0, U.frozen 1⟩
theorem hb_set {W : World} {c b : Nat} {r : Rat} (h : Rt W c r) (hne : c ≠ b) (q : Rat) : Rt ((W.setCell ⟨b, 0, none⟩ (.int .i64 q.num)).setCell ⟨b, 1, none⟩ (.int .i64 (q.den : Int))) c r := by
  have e0 := h.f0
  have e1 := h.f1
  refine ⟨?_, ?_, by simpa using e0, by simpa using e1⟩
  · rw [World.cell?_setCell_other _ _ _ _ (by simp), World.cell?_setCell_other _ _ _ _ (by simp)]; exact h.c0
  · rw [World.cell?_setCell_other _ _ _ _ (by simp), World.cell?_setCell_other _ _ _ _ (by simp)]; exact h.c1
set_option maxRecDepth 100000 in
set_option maxHeartbeats 8000000 in
theorem rBestOf_any (v : Value) (l : LogD) (w : World) (hv : LogAt w v l) (hf : Fit l.at_ [l.edges]) :
    Calls Tryd.prog 66 #[v] w fun e w' => e = .returned (qv (bestV l)) ∧ Below w.heap.size w w' := by
  obtain ⟨va, ve, rfl, h1, h2⟩ := hv
  obtain ⟨a, cap, rfl⟩ := h1.slice
  obtain ⟨a', cap', rfl⟩ := h2.slice
  have HV : Hid (LogAt w (.agg #[.slice a l.at_.length cap, .slice a' l.edges.length cap']) l) := Lib.hid ⟨_, _, rfl, h1, h2⟩
  clear h1 h2
  have h8 := hf.eight
  have h2 := hf.two
  have bl := (Blk.new w (.cells #[.slice a l.at_.length cap, .slice a' l.edges.length cap'] 25)).alloc (.cells #[.int .i64 0, .int .i64 0] 31)
  have br := Blk.new (w.alloc (.cells #[.slice a l.at_.length cap, .slice a' l.edges.length cap'] 25)) (.cells #[.int .i64 0, .int .i64 0] 31)
  have hB0 := below2 w (.cells #[.slice a l.at_.length cap, .slice a' l.edges.length cap'] 25) (.cells #[.int .i64 0, .int .i64 0] 31)
  simp only [World.size_alloc] at br
  have HBL := Lib.hid bl
  have HBR := Lib.hid br
  have HB0 := Lib.hid hB0
  have HF := Lib.hid hf
  clear bl br hB0 hf
  go_enter Tryd.func66, Tryd.ntmps66
  go_wp2_with fail
  refine (rProofs_any _ l _ (HV.out.below HB0.out) h8).mono ?_
  rintro e w1 ⟨v', rfl, hrow, hb1⟩
  obtain ⟨ps, hps⟩ : ∃ ps, rp1 l.at_.length l.at_.length = ps := ⟨_, rfl⟩
  rw [hps] at hrow
  have hlen0 : 0 < ps.length := by
    have : single 0 ∈ ps := by rw [← hps]; exact mem_rp1.2 (mem_single (by omega))
    exact List.length_pos_of_mem this
  have hlen1 : ps.length ≤ 1100 := by rw [← hps]; exact (rp_small h8 h8 h8 h8).1
  have HMEM : Hid (∀ p, p ∈ ps ↔ p ∈ proofsL l.at_.length) := Lib.hid (fun p => by rw [← hps]; exact mem_rp1)
  clear hps
  obtain ⟨g, capp, rfl, hg, hcs⟩ := hrow.pks hlen0
  have HCS := Lib.hid hcs
  have HB1 := Lib.hid (bC HB0.out hb1)
  have L1 := Lib.hid (HBL.out.below hb1)
  have R1 := Lib.hid (HBR.out.below hb1)
  clear hb1 hcs hrow
  obtain ⟨P0, hP0⟩ : ∃ P0, ps[0] = P0 := ⟨_, rfl⟩
  have HP0 := Lib.hid hP0
  have HP0m := Lib.hid ((HMEM.out P0).1 (by rw [← hP0]; exact List.getElem_mem _))
  obtain ⟨c0, c1, c2, c3⟩ := HCS.out 0 hlen0
  rw [hP0] at c0 c1 c2 c3
  clear hP0
  have l0 := L1.out.cell 0
  have l1 := L1.out.cell 1
  simp at l0 l1 c0 c1 c2 c3
  have hl1 := L1.out.lt
  have hl2 := R1.out.lt
  have hb0 : Below w1.heap.size w1 w1.drew := (Below.refl _ _).drew
  have HSX : Hid (∀ W, Below w1.heap.size w1 W → ((W.cell? ⟨w.heap.size, 0, none⟩ = some (.slice a l.at_.length cap) ∧ W.cell? ⟨w.heap.size, 1, none⟩ = some (.slice a' l.edges.length cap') ∧ W.cell? ⟨g, 0, none⟩ = some (.int .i64 P0.f) ∧ W.cell? ⟨g, 0 + 1, none⟩ = some (.int .i64 P0.m) ∧ W.cell? ⟨g, 0 + 2, none⟩ = some (.int .i64 P0.t) ∧ W.cell? ⟨g, 0 + 3, none⟩ = some (.int .i64 P0.s)) ∧ Below w1.heap.size w1 W)) := Lib.hid (fun W h => ⟨⟨cellB l0 h, cellB l1 h, cellB c0 h, by simpa using cellB c1 h, by simpa using cellB c2 h, by simpa using cellB c3 h⟩, h⟩)
  have hAC : ∀ (W : World) (o : Obj) (b j : Nat), b < W.heap.size → (W.alloc o).cell? ⟨b, j, none⟩ = W.cell? ⟨b, j, none⟩ := fun W o b j h => (below1 W o).cell (p := ⟨b, j, none⟩) h
  have hAF : ∀ (W : World) (o : Obj) (b j : Nat), b < W.heap.size → (W.alloc o).frozen? ⟨b, j, none⟩ = W.frozen? ⟨b, j, none⟩ := fun W o b j h => (below1 W o).frozen (p := ⟨b, j, none⟩) h
  have HPR := Lib.hid (fun W (h : Below w1.heap.size w1 W) => rProves_pk W (HV.out.below (bC HB1.out h)) HF.out HP0m.out)
  go_upto_region 2 with (fail)
  go_cut [4] (fun s4 wx => ∃ c : Nat, s4 = .pointer (some ⟨c, 0, none⟩) ∧ (wx.cell? ⟨c, 0, none⟩ = some (.int .i64 (valR l P0).num) ∧ wx.cell? ⟨c, 1, none⟩ = some (.int .i64 ((valR l P0).den : Int)) ∧ wx.frozen? ⟨c, 0, none⟩ = false ∧ wx.frozen? ⟨c, 1, none⟩ = false) ∧ w1.heap.size ≤ c ∧ Below w1.heap.size w1 wx)
  case first =>
    go_region_held3 (fun W => (W.cell? ⟨w.heap.size, 0, none⟩ = some (.slice a l.at_.length cap) ∧ W.cell? ⟨w.heap.size, 1, none⟩ = some (.slice a' l.edges.length cap') ∧ W.cell? ⟨g, 0, none⟩ = some (.int .i64 P0.f) ∧ W.cell? ⟨g, 0 + 1, none⟩ = some (.int .i64 P0.m) ∧ W.cell? ⟨g, 0 + 2, none⟩ = some (.int .i64 P0.t) ∧ W.cell? ⟨g, 0 + 3, none⟩ = some (.int .i64 P0.s)) ∧ Below w1.heap.size w1 W)
      (((with_reducible refine HSX.out _ ?_); (repeat' (first | (with_reducible assumption) | (with_reducible refine Below.refl _ _) | (with_reducible refine Below.drew ?_) | (with_reducible refine bA ?_) | (with_reducible refine bS2o ?_ ?_) | omega))))
      ((go_at_call 74; (with_reducible refine (HPR.out _ ?_).mono ?_); (repeat' (first | (with_reducible assumption) | (with_reducible refine Below.refl _ _) | (with_reducible refine Below.drew ?_) | (with_reducible refine bA ?_) | (with_reducible refine bS2o ?_ ?_) | omega)); rintro e v2 ⟨rfl, hc2⟩; obtain ⟨hB2x, hz2x⟩ : Below w1.heap.size w1 v2 ∧ w1.heap.size ≤ v2.heap.size := bC2 (by (repeat' (first | (with_reducible assumption) | (with_reducible refine Below.refl _ _) | (with_reducible refine Below.drew ?_) | (with_reducible refine bA ?_) | (with_reducible refine bS2o ?_ ?_) | omega))) hc2; (try (have ka2 := n1 hc2; (try simp only [World.size_alloc] at ka2); obtain ⟨ka21, ka22, ⟨ka23, ka24⟩, ka25, ka26, ka27⟩ := q2 ka2)); (try (have kb2 := n1d hc2; (try simp only [World.size_alloc] at kb2); obtain ⟨kb21, kb22, ⟨kb23, kb24⟩, kb25, kb26, kb27⟩ := q2 kb2)); clear hc2))
    all_goals (go_wp2_with fail; go_meet; refine ⟨_, rfl, ?_, ?_, ?_⟩)
    all_goals (go_split_ands; first | (with_reducible assumption) | (go_simp; done) | (simp [*]; done) | omega | (simp; omega) | ((repeat' (first | (with_reducible assumption) | (with_reducible refine Below.refl _ _) | (with_reducible refine Below.drew ?_) | (with_reducible refine bA ?_) | (with_reducible refine bS2o ?_ ?_) | omega)); done))
  case rest =>
    obtain ⟨c4, rfl, ⟨q0, q1, q2', q3⟩, hc4, hW⟩ := hcut
    have hRt : Rt wc c4 (valR l P0) := ⟨q0, q1, q2', q3⟩
    clear q0 q1 q2' q3 HSX hAC hAF hb0 l0 l1 c0 c1 c2 c3 hl1 hl2
    have HINIT := Lib.hid (show (∃ p ∈ ps, valR l p = valR l P0) from ⟨P0, by rw [← HP0.out]; exact List.getElem_mem _, rfl⟩)
    go_wp2_with fail
    go_loopw [5] (fun i wr => ∃ (k : Nat) (r : Rat), k ≤ ps.length ∧ i = .int .i64 k ∧ Rt wr c4 r ∧ (∃ p ∈ ps, valR l p = r) ∧ (∀ j (h : j < ps.length), j < k → r ≤ valR l ps[j]) ∧ Below w1.heap.size w1 wr) (fun i _ => ps.length - (intOf i).toNat)
    case atStart => exact ⟨0, valR l P0, Nat.zero_le _, rfl, hRt, HINIT.out, fun j _ h => absurd h (Nat.not_lt_zero _), hW⟩
    case round =>
      clear hRt hW
      obtain ⟨k, r, hk, rfl, hRt4, hex, hall, hB⟩ := hrel
      have HEX := Lib.hid hex
      have HALL := Lib.hid hall
      have HRF : Hid (Fine r) := Lib.hid (by obtain ⟨p, hp, rfl⟩ := hex; exact val_fine HF.out ((HMEM.out p).1 hp))
      clear hex hall
      have hsz := hB.size
      by_cases hlt : k < ps.length
      · obtain ⟨P, hP⟩ : ∃ P, ps[k] = P := ⟨_, rfl⟩
        have HPk := Lib.hid hP
        have HPm := Lib.hid ((HMEM.out P).1 (by rw [← hP]; exact List.getElem_mem _))
        obtain ⟨c0, c1, c2, c3⟩ := HCS.out k hlt
        rw [hP] at c0 c1 c2 c3
        clear hP
        have L2 := L1.out.below hB
        have l0 := L2.cell 0
        have l1 := L2.cell 1
        simp at l0 l1
        replace c0 := cellB c0 hB
        replace c1 := cellB c1 hB
        replace c2 := cellB c2 hB
        replace c3 := cellB c3 hB
        have hgl := lt_of_cell c0
        have HPR := Lib.hid (fun W (h : Below w1.heap.size w1 W) => rProves_pk W (HV.out.below (bC HB1.out h)) HF.out HPm.out)
        have HLE := Lib.hid (fun W => rless_any (valR l P) r W (val_fine HF.out HPm.out) HRF.out)
        unfold qv at HLE
        have RT4 := Lib.hid hRt4
        have HB := Lib.hid hB
        have hlc := lt_of_cell hRt4.c0
        clear hRt4 hB L2
        go_wp2_with fail
        refine wp_region_T 7 (fun W => (W.cell? ⟨w.heap.size, 0, none⟩ = some (.slice a l.at_.length cap) ∧ W.cell? ⟨w.heap.size, 1, none⟩ = some (.slice a' l.edges.length cap') ∧ W.cell? ⟨g, k * 4, none⟩ = some (.int .i64 P.f) ∧ W.cell? ⟨g, k * 4 + 1, none⟩ = some (.int .i64 P.m) ∧ W.cell? ⟨g, k * 4 + 2, none⟩ = some (.int .i64 P.t) ∧ W.cell? ⟨g, k * 4 + 3, none⟩ = some (.int .i64 P.s))) (by kernel_rfl) (by kernel_rfl) ⟨l0, l1, c0, c1, c2, c3⟩ ?_
        intro inv hS
        refine wpAnyT_take inv (by kernel_rfl) (by omega) (i := 0) (v := .agg #[.slice a l.at_.length cap, .slice a' l.edges.length cap']) rfl (by kernel_rfl) (by kernel_rfl) (fun _ _ _ h => h) (Or.inl ⟨by rfl, ?_⟩) (by assumption) ?_
        · rintro W' ⟨s0, s1, s2, s3, s4, s5⟩
          go_simp
        intro inv
        simp only [Act.put, List.setIfInBounds_toArray]
        refine wpAnyT_take inv (by kernel_rfl) (by omega) (i := 1) (v := .slice (some ⟨g, 0, none⟩) ps.length capp) rfl (by kernel_rfl) (by kernel_rfl) (fun _ _ _ h => h) (Or.inl ⟨by rfl, ?_⟩) (by assumption) ?_
        · rintro W' ⟨s0, s1, s2, s3, s4, s5⟩
          go_simp
        intro inv
        simp only [Act.put]
        refine wpAnyT_take inv (by kernel_rfl) (by omega) (i := 2) (v := .int .i64 k) rfl (by kernel_rfl) (by kernel_rfl) (fun _ _ _ h => h) (Or.inl ⟨by rfl, ?_⟩) (by assumption) ?_
        · rintro W' ⟨s0, s1, s2, s3, s4, s5⟩
          go_simp
        intro inv
        simp only [Act.put]
        refine wpAnyT_take inv (by kernel_rfl) (by omega) (i := 3) (v := .pointer (some ⟨g, k * 4, none⟩)) rfl (by kernel_rfl) (by kernel_rfl) (fun _ _ _ h => h) (Or.inl ⟨by rfl, ?_⟩) (by assumption) ?_
        · rintro W' ⟨s0, s1, s2, s3, s4, s5⟩
          go_simp
        intro inv
        simp only [Act.put]
        refine wpAnyT_take inv (by kernel_rfl) (by omega) (i := 4) (v := .agg #[.int .i64 P.f, .int .i64 P.m, .int .i64 P.t, .int .i64 P.s]) rfl (by kernel_rfl) (by kernel_rfl) (fun _ _ _ h => h) (Or.inl ⟨by rfl, ?_⟩) (by assumption) ?_
        · rintro W' ⟨s0, s1, s2, s3, s4, s5⟩
          go_simp
        intro inv
        simp only [Act.put]

        refine wpAnyT_ready [5, 6] (by kernel_rfl) (by simp) ?_
        refine AllReadyT.cons rfl (fun K hK => ?_) (AllReadyT.cons rfl (fun K hK => ?_) AllReadyT.nil)
        · go_simp
          refine (HPR.out _ HB.out.drew).mono ?_
          rintro e v2 ⟨rfl, hc2⟩
          have hb2 : Below wr.heap.size wr v2 := ((Below.refl wr.heap.size wr).drew).trans hc2
          refine hK.out _ _ (fun _ => ⟨cellB l0 hb2, cellB l1 hb2, cellB c0 hb2, cellB c1 hb2, cellB c2 hb2, cellB c3 hb2⟩) (fun _ => ?_)
          clear hK K
          refine wpAnyT_ready [6] (by kernel_rfl) (by simp) ?_
          refine AllReadyT.cons rfl (fun K hK => ?_) AllReadyT.nil
          go_simp
          have hb3 := hb2.alloc hb2.size (.cells #[.int .i64 0, .int .i64 0] 31)
          refine hK.out _ _ (fun _ => ⟨cellB l0 hb3, cellB l1 hb3, cellB c0 hb3, cellB c1 hb3, cellB c2 hb3, cellB c3 hb3⟩) (fun _ => ?_)
          clear hK K
          refine wpAnyT_chain (fuel := 1) rfl (by kernel_rfl) ?_
          simp only [List.drop_succ_cons, List.drop_zero]
          have R4 := RT4.out.below hb2
          have s40 := R4.c0
          have s41 := R4.c1
          have hl4 := lt_of_cell s40
          have H2 := Lib.hid hb2
          have HR4 := Lib.hid R4
          clear hb2 hb3 hc2 R4 hS inv l0 l1 c0 c1 c2 c3
          go_wp2_with fail
          clear s40 s41
          have t6 := Lib.hid (rt_new v2 (valR l P))
          have t4 := Lib.hid (HR4.out.below (below1 _ (.cells #[.int .i64 (valR l P).num, .int .i64 ((valR l P).den : Int)] 31)))
          have hB7 := Lib.hid (bC (bC HB.out H2.out) (below1 _ (.cells #[.int .i64 (valR l P).num, .int .i64 ((valR l P).den : Int)] 31)))
          refine (HLE.out _).mono ?_
          rintro e w8 ⟨rfl, hb8⟩
          have t6' := t6.out.below hb8
          have t4' := t4.out.below hb8
          have hB8 := bC hB7.out hb8
          clear hb8
          by_cases hlt2 : valR l P < r
          · rw [decide_eq_true hlt2]
            have s60 := t6'.c0
            have s61 := t6'.c1
            have s40 := t4'.c0
            have s41 := t4'.c1
            have sf0 := t4'.f0
            have sf1 := t4'.f1
            have TT := Lib.hid (t4'.set (valR l P))
            have BB := Lib.hid (((hB8.setCell (p := ⟨c4, 0, none⟩) hc4 (.int .i64 (valR l P).num))).setCell (p := ⟨c4, 1, none⟩) hc4 (.int .i64 ((valR l P).den : Int)))
            have HLT := Lib.hid (Rat.le_of_lt hlt2)
            clear t6' t4' hB8 hlt2
            go_wp2
            go_roundw
            case rel =>
              refine ⟨k + 1, valR l P, by omega, by go_num, TT.out, ⟨P, by rw [← HPk.out]; exact List.getElem_mem _, rfl⟩, fun j hj hjk => ?_, BB.out⟩
              by_cases hjj : j = k
              · subst hjj; rw [HPk.out]; exact Rat.le_refl
              · exact Rat.le_trans HLT.out (HALL.out j hj (by omega))
            case measure => simp [intOf]; omega
          · rw [decide_eq_false hlt2]
            have TT := Lib.hid t4'
            have BB := Lib.hid hB8
            have HLT := Lib.hid (Rat.not_lt.1 hlt2)
            clear t6' t4' hB8 hlt2
            go_wp2
            go_roundw
            case rel =>
              refine ⟨k + 1, r, by omega, by go_num, TT.out, HEX.out, fun j hj hjk => ?_, BB.out⟩
              by_cases hjj : j = k
              · subst hjj; rw [HPk.out]; exact HLT.out
              · exact HALL.out j hj (by omega)
            case measure => simp [intOf]; omega

        · go_simp
          have hb1' : Below wr.heap.size wr (wr.alloc (.cells #[.int .i64 0, .int .i64 0] 31)).drew := (below1 _ _).drew
          refine hK.out _ _ (fun _ => ⟨cellB l0 hb1', cellB l1 hb1', cellB c0 hb1', cellB c1 hb1', cellB c2 hb1', cellB c3 hb1'⟩) (fun _ => ?_)
          clear hK K
          refine wpAnyT_ready [5] (by kernel_rfl) (by simp) ?_
          refine AllReadyT.cons rfl (fun K hK => ?_) AllReadyT.nil
          go_simp
          refine (HPR.out _ (bC HB.out hb1')).mono ?_
          rintro e v2 ⟨rfl, hc2⟩
          have hb2 : Below wr.heap.size wr v2 := bC hb1' hc2
          refine hK.out _ _ (fun _ => ⟨cellB l0 hb2, cellB l1 hb2, cellB c0 hb2, cellB c1 hb2, cellB c2 hb2, cellB c3 hb2⟩) (fun _ => ?_)
          clear hK K
          refine wpAnyT_chain (fuel := 1) rfl (by kernel_rfl) ?_
          simp only [List.drop_succ_cons, List.drop_zero]
          have R4 := RT4.out.below hb2
          have R6 : Blk v2 wr.heap.size (.cells #[.int .i64 0, .int .i64 0] 31) := (Blk.new wr (.cells #[.int .i64 0, .int .i64 0] 31)).drew.below hc2
          have s40 := R4.c0
          have s41 := R4.c1
          have s60 := R6.cell 0
          have s61 := R6.cell 1
          have sf0 := R6.frozen 0
          have sf1 := R6.frozen 1
          simp at s60 s61
          have hne1 : (c4 = wr.heap.size) = False := by simp; omega
          have hne2 : (wr.heap.size = c4) = False := by simp; omega
          have H2 := Lib.hid hb2
          have HR4 := Lib.hid (((hb_set R4 (show c4 ≠ wr.heap.size by omega) (valR l P))))
          have HR6 := Lib.hid (rt_blk R6 (valR l P))
          clear hb1' hb2 hc2 R4 R6 hS inv l0 l1 c0 c1 c2 c3
          go_wp2_with fail
          clear s40 s41 s60 s61 sf0 sf1 hne1 hne2
          have t6 := Lib.hid (HR6.out)
          have t4 := Lib.hid (HR4.out)
          have hB7 := Lib.hid (((bC HB.out H2.out).setCell (p := ⟨wr.heap.size, 0, none⟩) hsz (.int .i64 (valR l P).num)).setCell (p := ⟨wr.heap.size, 1, none⟩) hsz (.int .i64 ((valR l P).den : Int)))
          refine (HLE.out _).mono ?_
          rintro e w8 ⟨rfl, hb8⟩
          have t6' := t6.out.below hb8
          have t4' := t4.out.below hb8
          have hB8 := bC hB7.out hb8
          clear hb8
          by_cases hlt2 : valR l P < r
          · rw [decide_eq_true hlt2]
            have s60 := t6'.c0
            have s61 := t6'.c1
            have s40 := t4'.c0
            have s41 := t4'.c1
            have sf0 := t4'.f0
            have sf1 := t4'.f1
            have TT := Lib.hid (t4'.set (valR l P))
            have BB := Lib.hid (((hB8.setCell (p := ⟨c4, 0, none⟩) hc4 (.int .i64 (valR l P).num))).setCell (p := ⟨c4, 1, none⟩) hc4 (.int .i64 ((valR l P).den : Int)))
            have HLT := Lib.hid (Rat.le_of_lt hlt2)
            clear t6' t4' hB8 hlt2
            go_wp2
            go_roundw
            case rel =>
              refine ⟨k + 1, valR l P, by omega, by go_num, TT.out, ⟨P, by rw [← HPk.out]; exact List.getElem_mem _, rfl⟩, fun j hj hjk => ?_, BB.out⟩
              by_cases hjj : j = k
              · subst hjj; rw [HPk.out]; exact Rat.le_refl
              · exact Rat.le_trans HLT.out (HALL.out j hj (by omega))
            case measure => simp [intOf]; omega
          · rw [decide_eq_false hlt2]
            have TT := Lib.hid t4'
            have BB := Lib.hid hB8
            have HLT := Lib.hid (Rat.not_lt.1 hlt2)
            clear t6' t4' hB8 hlt2
            go_wp2
            go_roundw
            case rel =>
              refine ⟨k + 1, r, by omega, by go_num, TT.out, HEX.out, fun j hj hjk => ?_, BB.out⟩
              by_cases hjj : j = k
              · subst hjj; rw [HPk.out]; exact HLT.out
              · exact HALL.out j hj (by omega)
            case measure => simp [intOf]; omega

      · obtain rfl : k = ps.length := by omega
        have R := R1.out.below hB
        have f0 := R.frozen 0
        have f1 := R.frozen 1
        have u0 := R.cell 0
        have u1 := R.cell 1
        have ltr := R.lt
        simp at u0 u1
        have s40 := hRt4.c0
        have s41 := hRt4.c1
        have U := ((R.set (j := 0) (.int .i64 r.num)).set (j := 1) (.int .i64 (r.den : Int)))
        have v0 := U.cell 0
        have v1 := U.cell 1
        simp at v0 v1
        have HBF := Lib.hid (bC HB1.out hB)
        have HBV := Lib.hid (show bestV l = r from isBest_eq ⟨by obtain ⟨p, hp, e⟩ := HEX.out; exact ⟨p, (HMEM.out p).1 hp, e⟩, fun p hp => by
          obtain ⟨j, hj, e⟩ := List.mem_iff_getElem.1 ((HMEM.out p).2 hp)
          rw [← e]
          exact HALL.out j hj hj⟩)
        clear hRt4 hB R U
        go_wp2
        refine bodyPost_ret (v := qv r) (by simp [results, Tryd.results66, go_sem, v0, v1, qv]) rfl ⟨by rw [HBV.out], ?_⟩
        exact (HBF.out.setCell (by simp) _).setCell (by simp) _
end Go.Proofs.YtlhldkiggmlegaaDoor

namespace Go.Proofs.YtlhldkiggmlegaaDoor
open Go.RowKit Go.Shelf Go.Sort
attribute [local go_sem] Oper.semAt_some

/-! ## The reference: Best and Turns -/
set_option maxHeartbeats 1000000 in
theorem rBest_any (v : Value) (l : LogD) (w : World) (hv : LogAt w v l) (hs : l.small) :
    Calls Tryd.prog 27 #[v] w fun e w' => e = .returned (qe (bestV l) (logErr l)) ∧ Below w.heap.size w w' := by
  obtain ⟨va, ve, rfl, h1, h2⟩ := hv
  obtain ⟨a, cap, rfl⟩ := h1.slice
  obtain ⟨a', cap', rfl⟩ := h2.slice
  have HV : Hid (LogAt w (.agg #[.slice a l.at_.length cap, .slice a' l.edges.length cap']) l) := Lib.hid ⟨_, _, rfl, h1, h2⟩
  have HS := Lib.hid hs
  clear h1 h2 hs
  have bl := (Blk.new w (.cells #[.slice a l.at_.length cap, .slice a' l.edges.length cap'] 25)).alloc (.cells #[.int .i64 0, .int .i64 0] 31)
  have br := Blk.new (w.alloc (.cells #[.slice a l.at_.length cap, .slice a' l.edges.length cap'] 25)) (.cells #[.int .i64 0, .int .i64 0] 31)
  have hB0 := below2 w (.cells #[.slice a l.at_.length cap, .slice a' l.edges.length cap'] 25) (.cells #[.int .i64 0, .int .i64 0] 31)
  simp only [World.size_alloc] at br
  have HBL := Lib.hid bl
  have HBR := Lib.hid br
  have HB0 := Lib.hid hB0
  clear bl br hB0
  have HC := Lib.hid (fun W (h : Below w.heap.size w W) => rCheckLog_any _ l W (HV.out.below h) HS.out)
  go_enter Tryd.func27, Tryd.ntmps27
  go_wp2_with fail
  refine (HC.out _ HB0.out).mono ?_
  rintro e w1 ⟨rfl, hb1⟩
  have HB1 := Lib.hid (HB0.out.trans (hb1.mono HB0.out.size))
  have L1 := Lib.hid (HBL.out.below hb1)
  have R1 := Lib.hid (HBR.out.below hb1)
  clear hb1
  by_cases h0 : logErr l = 0
  · have ht : (logErr l != 0) = false := by simp [h0]
    have HF := Lib.hid (logErr_fit' h0)
    have H0 := Lib.hid h0
    have l0 := L1.out.cell 0
    have l1 := L1.out.cell 1
    simp at l0 l1
    clear h0
    go_wp2_with fail
    refine (rBestOf_any _ l _ (HV.out.below HB1.out) HF.out).mono ?_
    rintro e w3 ⟨rfl, hb3⟩
    obtain ⟨r, hr⟩ : ∃ r, bestV l = r := ⟨_, rfl⟩
    rw [hr]
    have HR := Lib.hid hr
    have HB3 := Lib.hid (HB1.out.trans (hb3.mono HB1.out.size))
    have R := R1.out.below hb3
    clear hb3 hr l0 l1
    have f0 := R.frozen 0
    have f1 := R.frozen 1
    have u0 := R.cell 0
    have u1 := R.cell 1
    have ltr := R.lt
    simp at u0 u1
    have U := ((R.set (j := 0) (.int .i64 r.num)).set (j := 1) (.int .i64 (r.den : Int)))
    have v0 := U.cell 0
    have v1 := U.cell 1
    simp at v0 v1
    unfold qv
    go_wp2
    refine bodyPost_ret (v := .tuple #[qv r, .int .i64 0]) (by simp [results, Tryd.results27, go_sem, v0, v1, qv]) rfl ⟨by rw [qe, H0.out, HR.out]; rfl, ?_⟩
    exact (HB3.out.setCell (by simp) _).setCell (by simp) _
  · have ht : (logErr l != 0) = true := by simp [h0]
    have HN := Lib.hid h0
    have l0 := L1.out.cell 0
    have l1 := L1.out.cell 1
    simp at l0 l1
    clear h0
    go_wp2_with fail
    refine (HC.out _ HB1.out).mono ?_
    rintro e w3 ⟨rfl, hb3⟩
    have HB3 := Lib.hid (HB1.out.trans (hb3.mono HB1.out.size))
    have R := R1.out.below hb3
    clear hb3 l0 l1
    have f0 := R.frozen 0
    have f1 := R.frozen 1
    have u0 := R.cell 0
    have u1 := R.cell 1
    have ltr := R.lt
    simp at u0 u1
    have U := ((R.set (j := 0) (.int .i64 0)).set (j := 1) (.int .i64 0))
    have v0 := U.cell 0
    have v1 := U.cell 1
    simp at v0 v1
    go_wp2
    refine bodyPost_ret (v := .tuple #[zq, .int .i64 (logErr l)]) (by simp [results, Tryd.results27, go_sem, v0, v1, zq]) rfl ⟨by rw [qe, if_neg HN.out], ?_⟩
    exact (HB3.out.setCell (by simp) _).setCell (by simp) _
theorem best_fine {l : LogD} (hf : Fit l.at_ [l.edges]) : Fine (bestV l) := by
  obtain ⟨⟨p, hp, e⟩, _⟩ := isBest_of hf
  rw [← e]
  exact valR_fine hf hp
set_option maxRecDepth 100000 in
set_option maxHeartbeats 2000000 in
theorem rTurns_any (v : Value) (l : LogD) (spindle sheet : Int) (w : World) (hv : LogAt w v l) (hs : l.small) :
    Calls Tryd.prog 30 #[v, .int .i64 spindle, .int .i64 sheet] w fun e w' => e = .returned (.tuple #[.int .i64 (turnsV l spindle sheet), .int .i64 (turnsE l spindle sheet)]) ∧ Below w.heap.size w w' := by
  obtain ⟨va, ve, rfl, h1, h2⟩ := hv
  obtain ⟨a, cap, rfl⟩ := h1.slice
  obtain ⟨a', cap', rfl⟩ := h2.slice
  have HV : Hid (LogAt w (.agg #[.slice a l.at_.length cap, .slice a' l.edges.length cap']) l) := Lib.hid ⟨_, _, rfl, h1, h2⟩
  have HS := Lib.hid hs
  clear h1 h2 hs
  have bl := Blk.new w (.cells #[.slice a l.at_.length cap, .slice a' l.edges.length cap'] 25)
  have hB0 := below1 w (.cells #[.slice a l.at_.length cap, .slice a' l.edges.length cap'] 25)
  have HBL := Lib.hid bl
  have HB0 := Lib.hid hB0
  clear bl hB0
  have HC := Lib.hid (fun W (h : Below w.heap.size w W) => rCheckLog_any _ l W (HV.out.below h) HS.out)
  go_enter Tryd.func30, Tryd.ntmps30
  go_wp2_with fail
  refine (HC.out _ HB0.out).mono ?_
  rintro e w1 ⟨rfl, hb1⟩
  have HB1 := Lib.hid (bC HB0.out hb1)
  have L1 := Lib.hid (HBL.out.below hb1)
  clear hb1
  have l0 := L1.out.cell 0
  have l1 := L1.out.cell 1
  have ll := L1.out.lt
  simp at l0 l1
  by_cases h0 : logErr l = 0
  · have ht : (logErr l != 0) = false := by simp [h0]
    have HF := Lib.hid (logErr_fit' h0)
    have hE : turnsE l spindle sheet = if spindle < 0 ∨ 1000 < spindle ∨ sheet < 1 ∨ 1000 < sheet then 3 else if (bestV l).num - spindle * (bestV l).den < 0 then 17 else 0 := by unfold turnsE; rw [if_neg (by simp [h0])]
    have HE := Lib.hid hE
    clear h0 hE
    by_cases hbad : spindle < 0 ∨ 1000 < spindle ∨ sheet < 1 ∨ 1000 < sheet
    · have HEb := Lib.hid (show turnsE l spindle sheet = 3 from HE.out.trans (if_pos hbad))
      have HVb := Lib.hid (show turnsV l spindle sheet = 0 from if_neg (by rw [HEb.out]; omega))
      by_cases b1 : spindle < 0
      · clear hbad
        go_wp2
        refine bodyPost_ret (v := .tuple #[.int .i64 0, .int .i64 3]) (by simp [results, Tryd.results30, go_sem]) rfl ⟨by rw [HVb.out, HEb.out], HB1.out⟩
      by_cases b2 : 1000 < spindle
      · clear hbad
        go_wp2
        refine bodyPost_ret (v := .tuple #[.int .i64 0, .int .i64 3]) (by simp [results, Tryd.results30, go_sem]) rfl ⟨by rw [HVb.out, HEb.out], HB1.out⟩
      by_cases b3 : sheet < 1
      · clear hbad
        go_wp2
        refine bodyPost_ret (v := .tuple #[.int .i64 0, .int .i64 3]) (by simp [results, Tryd.results30, go_sem]) rfl ⟨by rw [HVb.out, HEb.out], HB1.out⟩
      · have b4 : 1000 < sheet := by omega
        clear hbad
        go_wp2
        refine bodyPost_ret (v := .tuple #[.int .i64 0, .int .i64 3]) (by simp [results, Tryd.results30, go_sem]) rfl ⟨by rw [HVb.out, HEb.out], HB1.out⟩
    · have hE2 := HE.out.trans (if_neg hbad)
      have HE2 := Lib.hid hE2
      clear hE2
      have b1 : 0 ≤ spindle := by omega
      have b2 : spindle ≤ 1000 := by omega
      have b3 : 1 ≤ sheet := by omega
      have b4 : sheet ≤ 1000 := by omega
      clear hbad
      go_wp2_with fail
      refine (rBestOf_any _ l _ (HV.out.below HB1.out) HF.out).mono ?_
      rintro e w3 ⟨rfl, hb3⟩
      have hfb := best_fine HF.out
      obtain ⟨r, hr⟩ : ∃ r, bestV l = r := ⟨_, rfl⟩
      rw [hr] at hfb ⊢
      have HR := Lib.hid hr
      have HB3 := Lib.hid (bC HB1.out hb3)
      clear hb3 hr l0 l1 ll
      have f1 := hfb.lo
      have f2 := hfb.hi
      have f3 := hfb.den
      have f4 : 0 < (r.den : Int) := by have := r.den_pos; omega
      have m1 := mul_bd spindle (r.den : Int) 1000 131072 (by omega) b2 (by omega) f3 (by omega)
      have m2 := mul_bd sheet (r.den : Int) 1000 131072 (by omega) b4 (by omega) f3 (by omega)
      have m3 : 0 < sheet * (r.den : Int) := Int.mul_pos (by omega) f4
      have HQ : ¬ sheet * (r.den : Int) = 0 := by omega
      have wr1 : IntKind.i64.wrap (spindle * (r.den : Int)) = spindle * (r.den : Int) := IntWalk.i64_in _ (by omega)
      have wr2 : IntKind.i64.wrap (sheet * (r.den : Int)) = sheet * (r.den : Int) := IntWalk.i64_in _ (by omega)
      have wr3 : IntKind.i64.wrap (r.num - spindle * (r.den : Int)) = r.num - spindle * (r.den : Int) := IntWalk.i64_in _ (by omega)
      unfold qv
      by_cases hneg : r.num - spindle * (r.den : Int) < 0
      · have HEb := Lib.hid (show turnsE l spindle sheet = 17 from HE2.out.trans (by rw [HR.out]; exact if_pos hneg))
        have HVb := Lib.hid (show turnsV l spindle sheet = 0 from if_neg (by rw [HEb.out]; omega))
        go_wp2
        refine bodyPost_ret (v := .tuple #[.int .i64 0, .int .i64 17]) (by simp [results, Tryd.results30, go_sem]) rfl ⟨by rw [HVb.out, HEb.out], bC HB3.out (below1 _ _)⟩
      · have HEb := Lib.hid (show turnsE l spindle sheet = 0 from HE2.out.trans (by rw [HR.out]; exact if_neg hneg))
        have HVb := Lib.hid (show turnsV l spindle sheet = (r.num - spindle * (r.den : Int)) / (sheet * (r.den : Int)) from by rw [turnsV, if_pos HEb.out, HR.out, Int.mul_comm (r.den : Int) sheet])
        have hq0 : 0 ≤ r.num - spindle * (r.den : Int) := by omega
        have hd1 : (r.num - spindle * (r.den : Int)) / (sheet * (r.den : Int)) ≤ r.num - spindle * (r.den : Int) := Int.ediv_le_self _ hq0
        have hd0 : 0 ≤ (r.num - spindle * (r.den : Int)) / (sheet * (r.den : Int)) := Int.ediv_nonneg hq0 (by omega)
        have htd : (r.num - spindle * (r.den : Int)).tdiv (sheet * (r.den : Int)) = (r.num - spindle * (r.den : Int)) / (sheet * (r.den : Int)) := Int.tdiv_eq_ediv_of_nonneg hq0
        have wr4 : IntKind.i64.wrap ((r.num - spindle * (r.den : Int)) / (sheet * (r.den : Int))) = (r.num - spindle * (r.den : Int)) / (sheet * (r.den : Int)) := IntWalk.i64_in _ (by omega)
        clear hd1 hd0
        go_wp2
        refine bodyPost_ret (v := .tuple #[.int .i64 ((r.num - spindle * (r.den : Int)) / (sheet * (r.den : Int))), .int .i64 0]) (by simp [results, Tryd.results30, go_sem]) rfl ⟨by rw [HVb.out, HEb.out], bC HB3.out (below1 _ _)⟩
  · have ht : (logErr l != 0) = true := by simp [h0]
    have HE := Lib.hid (show turnsE l spindle sheet = logErr l from if_pos h0)
    have HVb := Lib.hid (show turnsV l spindle sheet = 0 from if_neg (by rw [HE.out]; exact h0))
    clear h0
    go_wp2_with fail
    refine (HC.out _ HB1.out).mono ?_
    rintro e w3 ⟨rfl, hb3⟩
    have HB3 := Lib.hid (bC HB1.out hb3)
    clear hb3 l0 l1 ll
    go_wp2
    refine bodyPost_ret (v := .tuple #[.int .i64 0, .int .i64 (logErr l)]) (by simp [results, Tryd.results30, go_sem]) rfl ⟨by rw [HVb.out, HE.out], HB3.out⟩
end Go.Proofs.YtlhldkiggmlegaaDoor
