import Derived.Test.YtjbeoakikdkdaaaSb
import Derived.Test.YtjbeoakikdkdaaaSc
import Derived.ChangeKeysEq
import Derived.Deep.MidRow
import Derived.Scope
import Derived.Test.YtjbeoakikdkdaaaSg
namespace Go.Proofs.Ytjbeoakikdkdaaa
open Go.RowKit Go.Sort Go.Shelf
attribute [local go_sem] Oper.semAt_some

/-! ## The program: lists that grow, lists of their own -/
theorem infoE : (Try.prog.info? 27).map (fun i => (i.zero, i.size, i.bytes)) = some (some (.agg #[.int .i64 0, .int .i64 0]), 2, 16) := by kernel_rfl
theorem infoI : (Try.prog.info? 3).map (fun i => (i.zero, i.size, i.bytes)) = some (some (.int .i64 0), 1, 8) := by kernel_rfl
theorem info64 : (Try.prog.info? 2).map (fun i => (i.zero, i.size, i.bytes)) = some (some (.int .i64 0), 1, 8) := by kernel_rfl
set_option maxRecDepth 100000 in
set_option maxHeartbeats 2000000 in
theorem grownE_any (v : Value) (n : Nat) (xs : List Value) (x y : Int) (w : World) (hrow : Row w v n 2 xs) (hn : n ≤ 1000000) :
    Calls Try.prog 84 #[v, .agg #[.int .i64 x, .int .i64 y]] w (Grew w (n + 1) 2 (xs ++ [.int .i64 x, .int .i64 y])) := by
  obtain ⟨a, cap, rfl, hcap, hnone, hcells, hlen⟩ := hrow.cells
  obtain ⟨i0, hi, hz0', hz1, hz2⟩ := info_parts infoE
  clear hrow
  go_enter Try.func84, Try.ntmps84
  go_wp2
  obtain ⟨W0, hW0⟩ : ∃ W0, w.alloc (.cells #[.int .i64 x, .int .i64 y] 27) = W0 := ⟨_, rfl⟩
  have hB0 : Below w.heap.size w W0 := by rw [← hW0]; exact below1 _ _
  have hcc : Blk W0 w.heap.size (.cells #[.int .i64 x, .int .i64 y] 27) := by rw [← hW0]; exact Blk.new _ _
  have hz0 : W0.heap.size = w.heap.size + 1 := by rw [← hW0]; simp
  rw [hW0]
  clear hW0
  have c0 : W0.cell? ⟨w.heap.size, 0, none⟩ = some (.int .i64 x) := by rw [hcc.cell]; simp
  have c1 : W0.cell? ⟨w.heap.size, 1, none⟩ = some (.int .i64 y) := by rw [hcc.cell]; simp
  have hn0 : ¬ (n : Int) < 0 := by omega
  have s1 := Lib.hid (show a = none → n = 0 ∧ n = 0 from fun h => ⟨(hnone h).1, (hnone h).1⟩)
  have hW : Below w.heap.size w (W0.alloc (.cells #[.int .i64 x, .int .i64 y] 27)).drew := (hB0.alloc hB0.size _).drew
  have s2 := Lib.hid (fun b (hb : a = some b) j u (hu : xs[j]? = some u) => addB (hcells b hb j u hu) hW)
  have hN : Blk (W0.alloc (.cells #[.int .i64 x, .int .i64 y] 27)).drew (w.heap.size + 1) (.cells #[.int .i64 x, .int .i64 y] 27) := by have := (Blk.new W0 (.cells #[.int .i64 x, .int .i64 y] 27)).drew; rwa [hz0] at this
  have s3 := Lib.hid (show ∀ (j : Nat) (u : Value), [Value.int .i64 x, .int .i64 y][j]? = some u → (W0.alloc (.cells #[.int .i64 x, .int .i64 y] 27)).drew.cell? ((⟨w.heap.size + 1, 0, none⟩ : Addr).add j) = some u from fun j u hu => by
    have e : (⟨w.heap.size + 1, 0, none⟩ : Addr).add j = ⟨w.heap.size + 1, j, none⟩ := by unfold Addr.add; split <;> simp_all
    rw [e, hN.cell]; simpa using hu)
  have s4 : n + 1 ≤ maxLen := by unfold maxLen; omega
  have s4' := Lib.hid s4
  have hHB := Lib.hid hB0
  have HL := Lib.hid hlen
  clear hcells hlen hnone hB0 s4 hN hW
  go_region_law (refine step_append_grows rfl (.tmp 10) (.tmp 12) 22 rfl 27 i0 (.agg #[.int .i64 0, .int .i64 0]) 2 16 Try.underlying22 hi hz0' hz1 hz2 rfl (by decide) a n n xs (by simp [Act.eval]) s1.out HL.out s2.out ⟨w.heap.size + 1, 0, none⟩ 1 1 [.int .i64 x, .int .i64 y] (by simp [Act.eval]) rfl s3.out (by simp [Value.oneCell']) (by omega) s4'.out (by omega) ?_; intro v' w' hown hgrow)
  go_wp2
  go_ret
  exact ⟨v', rfl, Row.of_owns hown, hHB.out.trans ((((Below.refl _ _).alloc (Nat.le_refl _) _).drew.trans ((below_of_grown hgrow).mono (by simp))).mono (by omega))⟩
set_option maxRecDepth 100000 in
set_option maxHeartbeats 2000000 in
theorem grownI_any (v : Value) (n : Nat) (xs : List Value) (x : Int) (w : World) (hrow : Row w v n 1 xs) (hn : n ≤ 1000000) :
    Calls Try.prog 89 #[v, .int .i64 x] w (Grew w (n + 1) 1 (xs ++ [.int .i64 x])) := by
  obtain ⟨a, cap, rfl, hcap, hnone, hcells, hlen⟩ := hrow.cells
  obtain ⟨i0, hi, hz0', hz1, hz2⟩ := info_parts infoI
  clear hrow
  have hn0 : ¬ (n : Int) < 0 := by omega
  have s1 := Lib.hid (show a = none → n = 0 ∧ n = 0 from fun h => ⟨(hnone h).1, (hnone h).1⟩)
  have hW : Below w.heap.size w (w.alloc (.cells #[.int .i64 x] 3)) := below1 _ _
  have s2 := Lib.hid (fun b (hb : a = some b) j u (hu : xs[j]? = some u) => addB (hcells b hb j u hu) hW)
  have hN : Blk (w.alloc (.cells #[.int .i64 x] 3)) w.heap.size (.cells #[.int .i64 x] 3) := Blk.new _ _
  have s3 := Lib.hid (show ∀ (j : Nat) (u : Value), [Value.int .i64 x][j]? = some u → (w.alloc (.cells #[.int .i64 x] 3)).cell? ((⟨w.heap.size, 0, none⟩ : Addr).add j) = some u from fun j u hu => by
    have e : (⟨w.heap.size, 0, none⟩ : Addr).add j = ⟨w.heap.size, j, none⟩ := by unfold Addr.add; split <;> simp_all
    rw [e, hN.cell]; simpa using hu)
  have s4 : n + 1 ≤ maxLen := by unfold maxLen; omega
  have s4' := Lib.hid s4
  have hHB := Lib.hid hW
  have HL := Lib.hid hlen
  clear hcells hlen hnone s4 hN hW
  go_enter Try.func89, Try.ntmps89
  go_wp2_with (at_builtin; refine wpList_append_grows _ rfl (.tmp 10) (.tmp 12) 44 rfl 3 i0 (.int .i64 0) 1 8 Try.underlying44 hi hz0' hz1 hz2 rfl (by decide) a n n xs (by simp [Act.eval]) s1.out HL.out s2.out ⟨w.heap.size, 0, none⟩ 1 1 [.int .i64 x] (by simp [Act.eval]) rfl s3.out (by simp [Value.oneCell']) (by omega) s4'.out (by omega) ?_; intro v' w' hown hgrow)
  go_ret
  exact ⟨v', rfl, Row.of_owns hown, hHB.out.trans ((below_of_grown hgrow).mono (by simp))⟩
set_option maxRecDepth 100000 in
set_option maxHeartbeats 2000000 in
theorem grownL_any (v : Value) (n : Nat) (xs : List Value) (x : Int) (w : World) (hrow : Row w v n 1 xs) (hn : n ≤ 1000000) :
    Calls Try.prog 87 #[v, .int .i64 x] w (Grew w (n + 1) 1 (xs ++ [.int .i64 x])) := by
  obtain ⟨a, cap, rfl, hcap, hnone, hcells, hlen⟩ := hrow.cells
  obtain ⟨i0, hi, hz0', hz1, hz2⟩ := info_parts info64
  clear hrow
  have hn0 : ¬ (n : Int) < 0 := by omega
  have s1 := Lib.hid (show a = none → n = 0 ∧ n = 0 from fun h => ⟨(hnone h).1, (hnone h).1⟩)
  have hW : Below w.heap.size w (w.alloc (.cells #[.int .i64 x] 2)) := below1 _ _
  have s2 := Lib.hid (fun b (hb : a = some b) j u (hu : xs[j]? = some u) => addB (hcells b hb j u hu) hW)
  have hN : Blk (w.alloc (.cells #[.int .i64 x] 2)) w.heap.size (.cells #[.int .i64 x] 2) := Blk.new _ _
  have s3 := Lib.hid (show ∀ (j : Nat) (u : Value), [Value.int .i64 x][j]? = some u → (w.alloc (.cells #[.int .i64 x] 2)).cell? ((⟨w.heap.size, 0, none⟩ : Addr).add j) = some u from fun j u hu => by
    have e : (⟨w.heap.size, 0, none⟩ : Addr).add j = ⟨w.heap.size, j, none⟩ := by unfold Addr.add; split <;> simp_all
    rw [e, hN.cell]; simpa using hu)
  have s4 : n + 1 ≤ maxLen := by unfold maxLen; omega
  have s4' := Lib.hid s4
  have hHB := Lib.hid hW
  have HL := Lib.hid hlen
  clear hcells hlen hnone s4 hN hW
  go_enter Try.func87, Try.ntmps87
  go_wp2_with (at_builtin; refine wpList_append_grows _ rfl (.tmp 10) (.tmp 12) 25 rfl 2 i0 (.int .i64 0) 1 8 Try.underlying25 hi hz0' hz1 hz2 rfl (by decide) a n n xs (by simp [Act.eval]) s1.out HL.out s2.out ⟨w.heap.size, 0, none⟩ 1 1 [.int .i64 x] (by simp [Act.eval]) rfl s3.out (by simp [Value.oneCell']) (by omega) s4'.out (by omega) ?_; intro v' w' hown hgrow)
  go_ret
  exact ⟨v', rfl, Row.of_owns hown, hHB.out.trans ((below_of_grown hgrow).mono (by simp))⟩
def TookP (w : World) (l : List (Int × Int)) (e : Ending) (w' : World) : Prop := ∃ g cap, e = .returned (.slice (some ⟨g, 0, none⟩) l.length cap) ∧ w.heap.size ≤ g ∧ Blk w' g (.cells (pairCells l).toArray 27) ∧ Below w.heap.size w w'
set_option maxRecDepth 100000 in
set_option maxHeartbeats 1000000 in
theorem takenE_any (v : Value) (l : List (Int × Int)) (w : World) (hv : PairsAt w v l) (h0 : l ≠ []) (hn : l.length ≤ 1000) :
    Calls Try.prog 65 #[v] w (TookP w l) := by
  obtain ⟨a, cap, rfl, hc⟩ := hv
  obtain ⟨b, off, rfl, hcs⟩ := hc h0
  clear hc
  obtain ⟨i0, hi, hz0', hz1, hz2⟩ := info_parts infoE
  have hmk := run_make (P := Try.prog) w 22 27 i0 (.agg #[.int .i64 0, .int .i64 0]) Try.underlying22 hi hz0' .i64 .i64 l.length l.length (by omega) (by omega) (by rw [hz2]; omega) (by omega)
  rw [hz1, Int.toNat_natCast] at hmk
  have hsz : (Try.prog.info? 27).map (·.size) = some 2 := by rw [hi]; simp [hz1]
  obtain ⟨mc, hmc⟩ : ∃ mc, madeCells (.agg #[.int .i64 0, .int .i64 0] : Value).cells (l.length * 2) = mc := ⟨_, rfl⟩
  have hms : mc.size = l.length * 2 := by rw [← hmc, size_madeCells]
  rw [hmc] at hmk
  have hB : Below w.heap.size w (w.alloc (.cells mc 27)) := below1 _ _
  have hcl : (pairCells l).length = l.length * 2 := by simp [pairCells_length]
  have hcp := run_copy_cells (P := Try.prog) (w.alloc (.cells mc 27)) 22 22 3 27 w.heap.size l.length l.length ⟨b, off, none⟩ l.length cap 2 mc 27 (pairCells l) Try.underlying22 hsz (Blk.new _ _)
    (by rw [hcl]; congr 1; simp) (fun j u hu => by
      obtain ⟨hx1, hx2⟩ := pairCells_src hcs hu
      exact (hB.cell (p := (⟨b, off, none⟩ : Addr).add j) (by have := lt_of_cell hx2; rw [hx1]; exact this)).trans (by rw [hx1]; exact hx2)) (by omega) (by
      intro u hu
      exact pairCells_one hu)
  have hfin : (pairCells l ++ mc.toList.drop (pairCells l).length).toArray = (pairCells l).toArray := by
    rw [List.drop_of_length_le (by simp; omega), List.append_nil]
  rw [hfin] at hcp
  have HC := Lib.hid hcl
  clear hms hmc hsz hz1 hz2 hz0' hi hfin hcl
  go_enter Try.func65, Try.ntmps65
  go_wp2
  go_ret
  exact ⟨_, _, rfl, Nat.le_refl _, setRow_heap _ _ _ _ _ _ (Blk.new _ _), below_setRow hB (Nat.le_refl _) _⟩


set_option maxRecDepth 100000 in
set_option maxHeartbeats 1000000 in
theorem takenE0_any (w : World) :
    Calls Try.prog 65 #[.slice none 0 0] w fun e w' => ∃ v, e = .returned v ∧ PairsAt w' v [] ∧ Below w.heap.size w w' := by
  obtain ⟨i0, hi, hz0', hz1, hz2⟩ := info_parts infoE
  have hmk := run_make (P := Try.prog) w 22 27 i0 (.agg #[.int .i64 0, .int .i64 0]) Try.underlying22 hi hz0' .i64 .i64 (0 : Nat) (0 : Nat) (by omega) (by omega) (by rw [hz2]; omega) (by omega)
  rw [hz1, Int.toNat_natCast] at hmk
  simp only [Int.ofNat_zero, Nat.zero_mul] at hmk
  clear hz1 hz2 hz0' hi
  have hcp : ∀ (b : Nat) (ts : TypeId) (w : World), (Builtin.copy_ #[22, 22] ts #[.slice (some ⟨b, 0, none⟩) 0 0, .slice none 0 0]).run Try.prog w = .ok (.int .i64 0) w := fun b ts w => by kernel_rfl
  go_enter Try.func65, Try.ntmps65
  go_wp2
  go_ret
  exact ⟨_, rfl, ⟨_, _, rfl, fun h => absurd rfl h⟩, below1 _ _⟩

def TookI (w : World) (l : List Int) (e : Ending) (w' : World) : Prop := ∃ g cap, e = .returned (.slice (some ⟨g, 0, none⟩) l.length cap) ∧ w.heap.size ≤ g ∧ Blk w' g (.cells (intCells l).toArray 2) ∧ Below w.heap.size w w'
def TookN (w : World) (l : List Int) (e : Ending) (w' : World) : Prop := ∃ g cap, e = .returned (.slice (some ⟨g, 0, none⟩) l.length cap) ∧ w.heap.size ≤ g ∧ Blk w' g (.cells (intCells l).toArray 3) ∧ Below w.heap.size w w'
set_option maxRecDepth 100000 in
set_option maxHeartbeats 1000000 in
theorem takenI_any (v : Value) (l : List Int) (w : World) (hv : IntsAt w v l) (h0 : l ≠ []) (hn : l.length ≤ 1000) :
    Calls Try.prog 69 #[v] w (TookI w l) := by
  obtain ⟨a, cap, rfl, hc⟩ := hv
  obtain ⟨b, off, rfl, hcs⟩ := hc h0
  clear hc
  obtain ⟨i0, hi, hz0', hz1, hz2⟩ := info_parts info64
  have hmk := run_make (P := Try.prog) w 25 2 i0 (.int .i64 0) Try.underlying25 hi hz0' .i64 .i64 l.length l.length (by omega) (by omega) (by rw [hz2]; omega) (by omega)
  rw [hz1, Int.toNat_natCast] at hmk
  have hsz : (Try.prog.info? 2).map (·.size) = some 1 := by rw [hi]; simp [hz1]
  obtain ⟨mc, hmc⟩ : ∃ mc, madeCells (.int .i64 0 : Value).cells (l.length * 1) = mc := ⟨_, rfl⟩
  have hms : mc.size = l.length * 1 := by rw [← hmc, size_madeCells]
  rw [hmc] at hmk
  have hB : Below w.heap.size w (w.alloc (.cells mc 2)) := below1 _ _
  have hcl : (intCells l).length = l.length * 1 := by simp [intCells_length]
  have hcp := run_copy_cells (P := Try.prog) (w.alloc (.cells mc 2)) 25 25 3 2 w.heap.size l.length l.length ⟨b, off, none⟩ l.length cap 1 mc 2 (intCells l) Try.underlying25 hsz (Blk.new _ _)
    (by rw [hcl]; congr 1; simp) (fun j u hu => by
      obtain ⟨hx1, hx2⟩ := intCells_src hcs hu
      exact (hB.cell (p := (⟨b, off, none⟩ : Addr).add j) (by have := lt_of_cell hx2; rw [hx1]; exact this)).trans (by rw [hx1]; exact hx2)) (by omega) (by
      intro u hu
      exact intCells_one hu)
  have hfin : (intCells l ++ mc.toList.drop (intCells l).length).toArray = (intCells l).toArray := by
    rw [List.drop_of_length_le (by simp; omega), List.append_nil]
  rw [hfin] at hcp
  have HC := Lib.hid hcl
  clear hms hmc hsz hz1 hz2 hz0' hi hfin hcl
  go_enter Try.func69, Try.ntmps69
  go_wp2
  go_ret
  exact ⟨_, _, rfl, Nat.le_refl _, setRow_heap _ _ _ _ _ _ (Blk.new _ _), below_setRow hB (Nat.le_refl _) _⟩

set_option maxRecDepth 100000 in
set_option maxHeartbeats 1000000 in
theorem takenN_any (v : Value) (l : List Int) (w : World) (hv : IntsAt w v l) (h0 : l ≠ []) (hn : l.length ≤ 1000) :
    Calls Try.prog 75 #[v] w (TookN w l) := by
  obtain ⟨a, cap, rfl, hc⟩ := hv
  obtain ⟨b, off, rfl, hcs⟩ := hc h0
  clear hc
  obtain ⟨i0, hi, hz0', hz1, hz2⟩ := info_parts infoI
  have hmk := run_make (P := Try.prog) w 44 3 i0 (.int .i64 0) Try.underlying44 hi hz0' .i64 .i64 l.length l.length (by omega) (by omega) (by rw [hz2]; omega) (by omega)
  rw [hz1, Int.toNat_natCast] at hmk
  have hsz : (Try.prog.info? 3).map (·.size) = some 1 := by rw [hi]; simp [hz1]
  obtain ⟨mc, hmc⟩ : ∃ mc, madeCells (.int .i64 0 : Value).cells (l.length * 1) = mc := ⟨_, rfl⟩
  have hms : mc.size = l.length * 1 := by rw [← hmc, size_madeCells]
  rw [hmc] at hmk
  have hB : Below w.heap.size w (w.alloc (.cells mc 3)) := below1 _ _
  have hcl : (intCells l).length = l.length * 1 := by simp [intCells_length]
  have hcp := run_copy_cells (P := Try.prog) (w.alloc (.cells mc 3)) 44 44 3 3 w.heap.size l.length l.length ⟨b, off, none⟩ l.length cap 1 mc 3 (intCells l) Try.underlying44 hsz (Blk.new _ _)
    (by rw [hcl]; congr 1; simp) (fun j u hu => by
      obtain ⟨hx1, hx2⟩ := intCells_src hcs hu
      exact (hB.cell (p := (⟨b, off, none⟩ : Addr).add j) (by have := lt_of_cell hx2; rw [hx1]; exact this)).trans (by rw [hx1]; exact hx2)) (by omega) (by
      intro u hu
      exact intCells_one hu)
  have hfin : (intCells l ++ mc.toList.drop (intCells l).length).toArray = (intCells l).toArray := by
    rw [List.drop_of_length_le (by simp; omega), List.append_nil]
  rw [hfin] at hcp
  have HC := Lib.hid hcl
  clear hms hmc hsz hz1 hz2 hz0' hi hfin hcl
  go_enter Try.func75, Try.ntmps75
  go_wp2
  go_ret
  exact ⟨_, _, rfl, Nat.le_refl _, setRow_heap _ _ _ _ _ _ (Blk.new _ _), below_setRow hB (Nat.le_refl _) _⟩

set_option maxRecDepth 100000 in
set_option maxHeartbeats 1000000 in
theorem takenI0_any (w : World) :
    Calls Try.prog 69 #[.slice none 0 0] w fun e w' => ∃ v, e = .returned v ∧ IntsAt w' v [] ∧ Below w.heap.size w w' := by
  obtain ⟨i0, hi, hz0', hz1, hz2⟩ := info_parts info64
  have hmk := run_make (P := Try.prog) w 25 2 i0 (.int .i64 0) Try.underlying25 hi hz0' .i64 .i64 (0 : Nat) (0 : Nat) (by omega) (by omega) (by rw [hz2]; omega) (by omega)
  rw [hz1, Int.toNat_natCast] at hmk
  simp only [Int.ofNat_zero, Nat.zero_mul] at hmk
  clear hz1 hz2 hz0' hi
  have hcp : ∀ (b : Nat) (ts : TypeId) (w : World), (Builtin.copy_ #[25, 25] ts #[.slice (some ⟨b, 0, none⟩) 0 0, .slice none 0 0]).run Try.prog w = .ok (.int .i64 0) w := fun b ts w => by kernel_rfl
  go_enter Try.func69, Try.ntmps69
  go_wp2
  go_ret
  exact ⟨_, rfl, ⟨_, _, rfl, fun h => absurd rfl h⟩, below1 _ _⟩

set_option maxRecDepth 100000 in
set_option maxHeartbeats 1000000 in
theorem takenN0_any (w : World) :
    Calls Try.prog 75 #[.slice none 0 0] w fun e w' => ∃ v, e = .returned v ∧ IntsAt w' v [] ∧ Below w.heap.size w w' := by
  obtain ⟨i0, hi, hz0', hz1, hz2⟩ := info_parts infoI
  have hmk := run_make (P := Try.prog) w 44 3 i0 (.int .i64 0) Try.underlying44 hi hz0' .i64 .i64 (0 : Nat) (0 : Nat) (by omega) (by omega) (by rw [hz2]; omega) (by omega)
  rw [hz1, Int.toNat_natCast] at hmk
  simp only [Int.ofNat_zero, Nat.zero_mul] at hmk
  clear hz1 hz2 hz0' hi
  have hcp : ∀ (b : Nat) (ts : TypeId) (w : World), (Builtin.copy_ #[44, 44] ts #[.slice (some ⟨b, 0, none⟩) 0 0, .slice none 0 0]).run Try.prog w = .ok (.int .i64 0) w := fun b ts w => by kernel_rfl
  go_enter Try.func75, Try.ntmps75
  go_wp2
  go_ret
  exact ⟨_, rfl, ⟨_, _, rfl, fun h => absurd rfl h⟩, below1 _ _⟩

end Go.Proofs.Ytjbeoakikdkdaaa

namespace Go.Proofs.Ytjbeoakikdkdaaa
open Go.RowKit Go.Vat Go.Sort Go.Shelf
attribute [local go_sem] Oper.semAt_some

/-! ## The fewest loads, the late ones -/
theorem LaidV.below {w w' : World} {T M n₀ : Nat} {y : YardD} {sv : Value} {H : Nat → Int} (h : LaidV w T M y n₀ sv H) (hb : Below w.heap.size w w') : LaidV w' T M y n₀ sv H := ⟨h.vat.below h.size hb, Nat.le_trans h.size hb.size, h.map.below hb⟩
set_option maxHeartbeats 400000 in
theorem fewest_any (n₀ T M : Nat) (y : YardD) (u : Value) (U H : Nat → Int) (w : World) (hV : VatAt w n₀ T M y u U H) :
    Calls Try.prog 62 #[.pointer (some ⟨T, 0, none⟩)] w fun e w' => e = .returned (.int .i64 (U 101)) ∧ w = w' := by
  have c0 := hV.up (p := 101) (by omega)
  clear hV
  go_enter Try.func62, Try.ntmps62
  go_wp2
  go_ret
  exact ⟨rfl, rfl⟩
theorem ints_snoc64 (l : List Int) (x : Int) : (l ++ [x]).map (Value.int .i64) = l.map (Value.int .i64) ++ [.int .i64 x] := by simp
theorem LL_part (F : Nat → Int) (k j : Nat) : LL F k ++ List.replicate (j + 1) (k : Int) = (LL F k ++ List.replicate j (k : Int)) ++ [(k : Int)] := by
  rw [List.append_assoc, List.replicate_succ']
set_option maxRecDepth 100000 in
set_option maxHeartbeats 4000000 in
theorem late_any (n₀ T M : Nat) (y : YardD) (u : Value) (H : Nat → Int) (w : World) (hV : VatAt w n₀ T M y u (U y) H) (hy : y.Ok) (hn : n₀ ≤ w.heap.size) :
    Calls Try.prog 70 #[.pointer (some ⟨T, 0, none⟩)] w fun e w' => ∃ v, e = .returned v ∧ Row w' v (lateL y).length 1 ((lateL y).map (Value.int .i64)) ∧ (lateL y = [] → v = .slice none 0 0) ∧ Below w.heap.size w w' := by
  have HYD := Lib.hid hy
  have HV := Lib.hid hV
  have hl10 := hy.count
  have hTl := hV.lt.1
  clear hV hy
  go_enter Try.func70, Try.ntmps70
  go_wp2
  go_loopw [3, 4, 5, 22] (fun o _ i _ wr => ∃ k : Nat, k ≤ 101 ∧ i = .int .i64 k ∧ Row wr o (LL (U y) k).length 1 ((LL (U y) k).map (Value.int .i64)) ∧ (LL (U y) k = [] → o = .slice none 0 0) ∧ Below w.heap.size w wr) (fun _ _ i _ _ => 101 - (intOf i).toNat)
  case atStart => exact ⟨0, by omega, rfl, Row.nil _ _, fun _ => rfl, Below.refl _ _⟩
  case round =>
    obtain ⟨k, hk, rfl, hrow, hnil, hB⟩ := hrel
    obtain ⟨oa, on, oc, rfl⟩ := hrow.slice
    have HN := Lib.hid hnil
    clear hnil
    have HR := Lib.hid hrow
    have HB := Lib.hid hB
    by_cases hlt : k < 101
    · have d1 : decide ((k : Int) < 101) = true := by simp; omega
      have HVw := Lib.hid (HV.out.below hn hB)
      have c1 := HVw.out.up (p := k) (by omega)
      have c2 := HVw.out.up (p := k + 1) (by omega)
      have m1 := U_step y k
      have m2 := U_nonneg y k
      have m3 := U_len HYD.out (k + 1)
      have m4 := LL_length (U_step y) k
      rw [U_zero] at m4
      have hlst : (LL (U y) k).length ≤ 10 := by omega
      obtain ⟨ua, hua⟩ : ∃ x, U y k = x := ⟨_, rfl⟩
      obtain ⟨ub, hub⟩ : ∃ x, U y (k + 1) = x := ⟨_, rfl⟩
      rw [hua] at c1 m1 m2
      rw [hub] at c2 m1 m3
      have HUA := Lib.hid hua
      have HUB := Lib.hid hub
      have ww : IntKind.i64.wrap ((k : Int) + 1) = (k : Int) + 1 := IntWalk.i64_in _ (by omega)
      have w2 : IntKind.i64.wrap (ub - ua) = ub - ua := IntWalk.i64_in _ (by omega)
      have i1 : (k : Int) + 1 < 102 := by omega
      have i2 : (0 : Int) ≤ (k : Int) + 1 := by omega
      have i3 : ((k : Int) + 1).toNat = k + 1 := by omega
      have i4 : (k : Int) < 102 := by omega
      clear hrow hB hua hub m4
      go_wp2_with fail
      go_quiet (fail)
      go_wp2_with fail
      rename_i nq
      have hq := below_drewN (Below.refl wr.heap.size wr) nq
      have HR2 := Lib.hid (HR.out.below hq)
      have HB2 := Lib.hid (HB.out.trans (hq.mono HB.out.size))
      clear hq c1 c2 HR HB HVw ww w2 i1 i2 i3 i4
      generalize wr.drewN nq = V0 at *
      obtain ⟨d, hd⟩ : ∃ d : Nat, ub - ua = (d : Int) := ⟨(ub - ua).toNat, by omega⟩
      have HD := Lib.hid hd
      rw [hd]
      have hd10 : d ≤ 10 := by omega
      clear hd
      go_loopw [3, 22] (fun o i w2 => ∃ j : Nat, j ≤ d ∧ i = .int .i64 j ∧ Row w2 o (LL (U y) k ++ List.replicate j (k : Int)).length 1 ((LL (U y) k ++ List.replicate j (k : Int)).map (Value.int .i64)) ∧ (LL (U y) k ++ List.replicate j (k : Int) = [] → o = .slice none 0 0) ∧ Below w.heap.size w w2) (fun _ i _ => d - (intOf i).toNat)
      case atStart => exact ⟨0, Nat.zero_le _, rfl, by simpa using HR2.out, fun h => HN.out (by simpa using h), HB2.out⟩
      case round =>
        clear HR2 HB2 HN
        obtain ⟨j, hj, rfl, hrow, hnil, hB⟩ := hrel
        obtain ⟨ja, jn, jc, rfl⟩ := hrow.slice
        have HN := Lib.hid hnil
        clear hnil
        have HR := Lib.hid hrow
        have HB := Lib.hid hB
        have hll : (LL (U y) k ++ List.replicate j (k : Int)).length ≤ 20 := by rw [List.length_append, List.length_replicate]; omega
        have HPT := Lib.hid (LL_part (U y) k j)
        have HNX := Lib.hid (show LL (U y) (k + 1) = LL (U y) k ++ List.replicate d (k : Int) by rw [LL, HUB.out, HUA.out, HD.out, Int.toNat_natCast])
        clear hrow hB
        by_cases hjt : j < d
        · go_wp2_with fail
          refine (grownL_any _ _ _ (k : Int) _ HR.out (by omega)).mono ?_
          rintro e w3 ⟨v3, rfl, hr3, hb3⟩
          have HR3 := Lib.hid hr3
          have hB3 := bC HB.out hb3
          clear hr3 hb3
          go_wp2
          go_roundw
          case rel => exact ⟨j + 1, by omega, by go_num, by rw [HPT.out, List.length_append, List.length_singleton, ints_snoc64]; exact HR3.out, fun h => by rw [HPT.out] at h; simp at h, hB3⟩
          case measure => simp [intOf] <;> omega
        · obtain rfl : j = d := by omega
          go_wp2
          go_roundw
          case rel => exact ⟨k + 1, by omega, by go_num, by rw [HNX.out]; exact HR.out, by rw [HNX.out]; exact HN.out, HB.out⟩
          case measure => simp [intOf] <;> omega
    · obtain rfl : k = 101 := by omega
      have d1 : decide (((101 : Nat) : Int) < 101) = false := by decide
      go_wp2
      go_ret
      exact ⟨_, rfl, HR.out, HN.out, HB.out⟩
set_option maxRecDepth 100000 in
set_option maxHeartbeats 1000000 in
theorem Fewest_err (v : Value) (y : YardD) (w : World) (hv : YardAt w v y) (hl : y.logs.length ≤ 1000000) (he : yardErr y ≠ 0) :
    Calls Try.prog 25 #[v] w fun e w' => e = .returned (.tuple #[.int .i64 0, .int .i64 (yardErr y)]) ∧ Below w.heap.size w w' := by
  obtain ⟨sv, rfl, hp⟩ := hv
  obtain ⟨sa, cap, rfl⟩ := hp.slice
  have HP := Lib.hid hp
  have HER := Lib.hid he
  obtain ⟨E, hE⟩ : ∃ E, yardErr y = E := ⟨_, rfl⟩
  have d1 : (E != 0) = true := by rw [← hE]; simpa using he
  have HE := Lib.hid hE
  clear hp he hE
  rw [HE.out]
  go_enter Try.func25, Try.ntmps25
  go_wp2_with fail
  refine (lay_err _ y _ ⟨_, rfl, HP.out.below (below1 _ _)⟩ hl HER.out).mono ?_
  rintro e w1 ⟨rfl, hb⟩
  rw [HE.out]
  go_wp2
  go_ret2
  exact ⟨rfl, after1 hb⟩
set_option maxRecDepth 100000 in
set_option maxHeartbeats 4000000 in
theorem Fewest_ok (v : Value) (y : YardD) (w : World) (hv : YardAt w v y) (hy : y.Ok) :
    Calls Try.prog 25 #[v] w fun e w' => e = .returned (.tuple #[.int .i64 (U y 101), .int .i64 0]) ∧ Below w.heap.size w w' := by
  obtain ⟨sv, rfl, hp⟩ := hv
  obtain ⟨sa, cap, rfl⟩ := hp.slice
  have hB0 := below1 w (.cells #[.int .i64 y.load, .slice sa y.logs.length cap] 24)
  have HV := Lib.hid (show YardAt (w.alloc (.cells #[.int .i64 y.load, .slice sa y.logs.length cap] 24)) (.agg #[.int .i64 y.load, .slice sa y.logs.length cap]) y from ⟨_, rfl, hp.below hB0⟩)
  have HYD := Lib.hid hy
  have hl10 := hy.count
  clear hp hy
  go_enter Try.func25, Try.ntmps25
  go_wp2_with fail
  generalize w.alloc (.cells #[.int .i64 y.load, .slice sa y.logs.length cap] 24) = W0 at *
  refine (lay_ok _ y _ HV.out HYD.out).mono ?_
  rintro e w1 ⟨T, M, n₀, sv, H, rfl, hL, hT, hM, hb1⟩
  have HL := Lib.hid hL
  have HB1 := Lib.hid (bC hB0 hb1)
  clear hL hB0 HV
  go_wp2_with fail
  refine (fewest_any n₀ T M y sv (U y) H _ HL.out.vat).mono ?_
  rintro e w2 ⟨rfl, rfl⟩
  go_wp2
  go_ret2
  exact ⟨rfl, HB1.out⟩
end Go.Proofs.Ytjbeoakikdkdaaa

namespace Go.Proofs.Ytjbeoakikdkdaaa
open Go.RowKit Go.Vat Go.Sort Go.Shelf
attribute [local go_sem] Oper.semAt_some

/-! ## What proofs prove -/
def pfB : Int → List (Int × Int) → Bool
  | _, [] => true
  | nx, x :: ws => decide (nx ≤ x.1) && pfB (x.2 + 1) ws
def pfSum (y : YardD) : List (Int × Int) → Int
  | [] => 0
  | x :: ws => need y x.1 x.2 + pfSum y ws
def proofErr0 (ws : List (Int × Int)) : Int := if 10 < ws.length then 6 else if ws.all okWin = true then (if pfB 0 ws = true then 0 else 16) else 3
def proofErr (y : YardD) (ws : List (Int × Int)) : Int := if yardErr y ≠ 0 then yardErr y else proofErr0 ws
def proofV (y : YardD) (ws : List (Int × Int)) : Int := if proofErr y ws = 0 then pfSum y ws else 0
theorem pfSum_append (y : YardD) : ∀ (a b : List (Int × Int)), pfSum y (a ++ b) = pfSum y a + pfSum y b
  | [], b => by simp [pfSum]
  | x :: a, b => by rw [List.cons_append, pfSum, pfSum, pfSum_append y a b]; omega
theorem pfSum_take {y : YardD} {ws : List (Int × Int)} {k : Nat} (h : k < ws.length) : pfSum y (ws.take (k + 1)) = pfSum y (ws.take k) + need y ws[k].1 ws[k].2 := by
  rw [List.take_succ_eq_append_getElem h, pfSum_append]
  simp [pfSum]
theorem need_bd {y : YardD} (hy : y.Ok) (a b : Int) : 0 ≤ need y a b ∧ need y a b ≤ 10 := by
  have h1 := cnt_nonneg y a b
  have h2 := cnt_len y a b
  have h3 := hy.count
  have h4 := up_le_self hy.l1 h1
  have h5 := up_nonneg hy.l1 h1
  unfold need
  omega
theorem pfSum_bd {y : YardD} (hy : y.Ok) : ∀ ws : List (Int × Int), 0 ≤ pfSum y ws ∧ pfSum y ws ≤ 10 * ws.length
  | [] => by simp [pfSum]
  | x :: ws => by
    have h1 := pfSum_bd hy ws
    have h2 := need_bd hy x.1 x.2
    rw [pfSum, List.length_cons]
    omega
theorem pfB_drop {ws : List (Int × Int)} {k : Nat} {nx : Int} (h : k < ws.length) : pfB nx (ws.drop k) = (decide (nx ≤ ws[k].1) && pfB (ws[k].2 + 1) (ws.drop (k + 1))) := by
  rw [List.drop_eq_getElem_cons h, pfB]
/-- No proof proves more than the fewest loads. -/
theorem pf_le {y : YardD} (hy : y.Ok) : ∀ (ws : List (Int × Int)) (nx : Int), 0 ≤ nx → (∀ x ∈ ws, okWin x = true) → pfB nx ws = true → pfSum y ws ≤ U y 101 - U y nx.toNat ∨ (ws = [] ∧ pfSum y ws = 0)
  | [], _, _, _, _ => .inr ⟨rfl, rfl⟩
  | x :: ws, nx, h0, hw, hp => by
    rw [pfB, Bool.and_eq_true, decide_eq_true_eq] at hp
    obtain ⟨q1, q2, q3⟩ := (okWin_iff x.1 x.2).1 (hw x List.mem_cons_self)
    have h1 := pf_le hy ws (x.2 + 1) (by omega) (fun z hz => hw z (List.mem_cons_of_mem _ hz)) hp.2
    have h2 := U_need hy (a := x.1) (b := x.2) q1 (by omega)
    have h3 := U_mono y (a := nx.toNat) (b := x.1.toNat) (by omega)
    have h4 := U_mono y (a := (x.2 + 1).toNat) (b := 101) (by omega)
    rw [pfSum]
    left
    rcases h1 with h1 | ⟨_, h1⟩ <;> omega
theorem proof_le {y : YardD} {ws : List (Int × Int)} (h : proofErr y ws = 0) : 0 ≤ proofV y ws ∧ proofV y ws ≤ U y 101 := by
  unfold proofV
  rw [if_pos h]
  unfold proofErr at h
  split at h
  · contradiction
  · rename_i h1
    have hy := yardErr_zero (Classical.not_not.1 h1)
    unfold proofErr0 at h
    split at h
    · cases h
    · split at h
      · rename_i h3
        split at h
        · rename_i h4
          refine ⟨(pfSum_bd hy ws).1, ?_⟩
          have h5 := pf_le hy ws 0 (Int.le_refl _) (List.all_eq_true.1 h3) h4
          have h6 := U_nonneg y 101
          rw [show (0 : Int).toNat = 0 from rfl, U_zero] at h5
          rcases h5 with h5 | ⟨_, h5⟩ <;> omega
        · cases h
      · cases h
theorem proofErr_ok {y : YardD} (hy : y.Ok) (ws : List (Int × Int)) : proofErr y ws = proofErr0 ws := by
  unfold proofErr
  rw [if_neg (by rw [yardErr_of hy]; simp)]
theorem proofV_no {y : YardD} {ws : List (Int × Int)} (h : proofErr y ws ≠ 0) : proofV y ws = 0 := if_neg h

/-! ## The exported functions -/
set_option maxRecDepth 100000 in
set_option maxHeartbeats 1000000 in
theorem Late_err (v : Value) (y : YardD) (w : World) (hv : YardAt w v y) (hl : y.logs.length ≤ 1000000) (he : yardErr y ≠ 0) :
    Calls Try.prog 33 #[v] w fun e w' => e = .returned (.tuple #[.slice none 0 0, .int .i64 (yardErr y)]) ∧ Below w.heap.size w w' := by
  obtain ⟨sv, rfl, hp⟩ := hv
  obtain ⟨sa, cap, rfl⟩ := hp.slice
  have HP := Lib.hid hp
  have HER := Lib.hid he
  obtain ⟨E, hE⟩ : ∃ E, yardErr y = E := ⟨_, rfl⟩
  have d1 : (E != 0) = true := by rw [← hE]; simpa using he
  have HE := Lib.hid hE
  clear hp he hE
  rw [HE.out]
  go_enter Try.func33, Try.ntmps33
  go_wp2_with fail
  refine (lay_err _ y _ ⟨_, rfl, HP.out.below (below1 _ _)⟩ hl HER.out).mono ?_
  rintro e w1 ⟨rfl, hb⟩
  rw [HE.out]
  go_wp2
  go_ret2
  exact ⟨rfl, after1 hb⟩
set_option maxRecDepth 100000 in
set_option maxHeartbeats 4000000 in
theorem Late_ok (v : Value) (y : YardD) (w : World) (hv : YardAt w v y) (hy : y.Ok) :
    Calls Try.prog 33 #[v] w fun e w' => ∃ v', e = .returned (.tuple #[v', .int .i64 0]) ∧ IntsAt w' v' (lateL y) ∧ Below w.heap.size w w' := by
  obtain ⟨sv, rfl, hp⟩ := hv
  obtain ⟨sa, cap, rfl⟩ := hp.slice
  have hB0 := below1 w (.cells #[.int .i64 y.load, .slice sa y.logs.length cap] 24)
  have HV := Lib.hid (show YardAt (w.alloc (.cells #[.int .i64 y.load, .slice sa y.logs.length cap] 24)) (.agg #[.int .i64 y.load, .slice sa y.logs.length cap]) y from ⟨_, rfl, hp.below hB0⟩)
  have HYD := Lib.hid hy
  have hl10 := hy.count
  have hll : (lateL y).length ≤ 10 := by
    have h1 := lateL_length y
    have h2 := U_len hy 101
    omega
  obtain ⟨L, hLL⟩ : ∃ L, lateL y = L := ⟨_, rfl⟩
  rw [hLL] at hll ⊢
  have HLL := Lib.hid hLL
  clear hLL
  clear hp hy
  go_enter Try.func33, Try.ntmps33
  go_wp2_with fail
  generalize w.alloc (.cells #[.int .i64 y.load, .slice sa y.logs.length cap] 24) = W0 at *
  refine (lay_ok _ y _ HV.out HYD.out).mono ?_
  rintro e w1 ⟨T, M, n₀, sv, H, rfl, hL, hT, hM, hb1⟩
  have HL := Lib.hid hL
  have HB1 := Lib.hid (bC hB0 hb1)
  clear hL hB0 HV
  go_wp2_with fail
  refine (late_any n₀ T M y sv H _ HL.out.vat HYD.out HL.out.size).mono ?_
  rintro e w2 ⟨v2, rfl, hr2, hn2, hb2⟩
  rw [HLL.out] at hr2 hn2
  have HB2 := Lib.hid (bC HB1.out hb2)
  have hi2 := hr2.ints
  by_cases hnil : L = []
  · obtain rfl := hn2 hnil
    subst hnil
    clear hr2 hi2 hn2 hb2
    go_wp2_with fail
    refine (takenI0_any _).mono ?_
    rintro e w3 ⟨v3, rfl, hi3, hb3⟩
    have HE := Lib.hid (And.intro hi3 (bC HB2.out hb3))
    clear hi3 hb3
    go_wp2
    go_ret2
    exact ⟨_, rfl, HE.out.1, HE.out.2⟩
  · obtain ⟨oa, oc, rfl⟩ := hi2.slice
    have HI2 := Lib.hid hi2
    have HNN := Lib.hid hnil
    clear hr2 hi2 hn2 hnil hb2
    go_wp2_with fail
    refine (takenI_any _ L _ HI2.out HNN.out (by omega)).mono ?_
    rintro e w3 ⟨g, gc, rfl, hg, hblk, hb3⟩
    have HE := Lib.hid (And.intro (IntsAt.of_blk (cap := gc) hblk) (bC HB2.out hb3))
    clear hblk hb3
    go_wp2
    go_ret2
    exact ⟨_, rfl, HE.out.1, HE.out.2⟩
set_option maxRecDepth 100000 in
set_option maxHeartbeats 1000000 in
theorem Need_err (v : Value) (a b : Int) (y : YardD) (w : World) (hv : YardAt w v y) (hl : y.logs.length ≤ 1000000) (he : yardErr y ≠ 0) :
    Calls Try.prog 21 #[v, .agg #[.int .i64 a, .int .i64 b]] w fun e w' => e = .returned (.tuple #[.int .i64 0, .int .i64 (yardErr y)]) ∧ Below w.heap.size w w' := by
  obtain ⟨sv, rfl, hp⟩ := hv
  obtain ⟨sa, cap, rfl⟩ := hp.slice
  have HP := Lib.hid hp
  have HER := Lib.hid he
  obtain ⟨E, hE⟩ : ∃ E, yardErr y = E := ⟨_, rfl⟩
  have d1 : (E != 0) = true := by rw [← hE]; simpa using he
  have HE := Lib.hid hE
  clear hp he hE
  rw [HE.out]
  go_enter Try.func21, Try.ntmps21
  go_wp2_with fail
  refine (lay_err _ y _ ⟨_, rfl, HP.out.below (below2 _ _ _)⟩ hl HER.out).mono ?_
  rintro e w1 ⟨rfl, hb⟩
  rw [HE.out]
  go_wp2
  go_ret2
  exact ⟨rfl, after2 hb⟩
set_option maxRecDepth 100000 in
set_option maxHeartbeats 4000000 in
theorem Need_yes (v : Value) (a b : Int) (y : YardD) (w : World) (hv : YardAt w v y) (hy : y.Ok) (hw : okWin (a, b) = true) :
    Calls Try.prog 21 #[v, .agg #[.int .i64 a, .int .i64 b]] w fun e w' => e = .returned (.tuple #[.int .i64 (need y a b), .int .i64 0]) ∧ Below w.heap.size w w' := by
  obtain ⟨sv, rfl, hp⟩ := hv
  obtain ⟨sa, cap, rfl⟩ := hp.slice
  have hB0 := below2 w (.cells #[.int .i64 y.load, .slice sa y.logs.length cap] 24) (.cells #[.int .i64 a, .int .i64 b] 27)
  have HV := Lib.hid (show YardAt ((w.alloc (.cells #[.int .i64 y.load, .slice sa y.logs.length cap] 24)).alloc (.cells #[.int .i64 a, .int .i64 b] 27)) (.agg #[.int .i64 y.load, .slice sa y.logs.length cap]) y from ⟨_, rfl, hp.below hB0⟩)
  have HYD := Lib.hid hy
  have hl10 := hy.count
  have b2 := Blk.new (w.alloc (.cells #[.int .i64 y.load, .slice sa y.logs.length cap] 24)) (.cells #[.int .i64 a, .int .i64 b] 27)
  rw [World.size_alloc] at b2
  have HW := Lib.hid hw
  clear hw
  clear hp hy
  go_enter Try.func21, Try.ntmps21
  go_wp2_with fail
  generalize (w.alloc (.cells #[.int .i64 y.load, .slice sa y.logs.length cap] 24)).alloc (.cells #[.int .i64 a, .int .i64 b] 27) = W0 at *
  refine (lay_ok _ y _ HV.out HYD.out).mono ?_
  rintro e w1 ⟨T, M, n₀, sv, H, rfl, hL, hT, hM, hb1⟩
  have HL := Lib.hid hL
  have HB1 := Lib.hid (bC hB0 hb1)
  replace b2 := b2.below hb1
  clear hL hB0 HV
  have x0 := b2.cell 0
  have x1 := b2.cell 1
  simp at x0 x1
  go_wp2_with fail
  refine (isWindow_any a b _).mono ?_
  rintro e w2 ⟨rfl, hb⟩
  rw [HW.out]
  have HB2 := Lib.hid (bC HB1.out hb)
  have HL2 := Lib.hid (HL.out.below hb)
  replace b2 := b2.below hb
  clear hb x0 x1 HB1 HL
  have x0 := b2.cell 0
  have x1 := b2.cell 1
  simp at x0 x1
  go_wp2_with fail
  refine (need_any n₀ T M y sv (U y) H a b _ HL2.out.vat HYD.out HL2.out.size).mono ?_
  rintro e w3 ⟨rfl, hb⟩
  have HB3 := Lib.hid (bC HB2.out hb)
  clear hb x0 x1
  go_wp2
  go_ret2
  exact ⟨rfl, HB3.out⟩
set_option maxRecDepth 100000 in
set_option maxHeartbeats 4000000 in
theorem Need_no (v : Value) (a b : Int) (y : YardD) (w : World) (hv : YardAt w v y) (hy : y.Ok) (hw : okWin (a, b) = false) :
    Calls Try.prog 21 #[v, .agg #[.int .i64 a, .int .i64 b]] w fun e w' => e = .returned (.tuple #[.int .i64 0, .int .i64 3]) ∧ Below w.heap.size w w' := by
  obtain ⟨sv, rfl, hp⟩ := hv
  obtain ⟨sa, cap, rfl⟩ := hp.slice
  have hB0 := below2 w (.cells #[.int .i64 y.load, .slice sa y.logs.length cap] 24) (.cells #[.int .i64 a, .int .i64 b] 27)
  have HV := Lib.hid (show YardAt ((w.alloc (.cells #[.int .i64 y.load, .slice sa y.logs.length cap] 24)).alloc (.cells #[.int .i64 a, .int .i64 b] 27)) (.agg #[.int .i64 y.load, .slice sa y.logs.length cap]) y from ⟨_, rfl, hp.below hB0⟩)
  have HYD := Lib.hid hy
  have hl10 := hy.count
  have b2 := Blk.new (w.alloc (.cells #[.int .i64 y.load, .slice sa y.logs.length cap] 24)) (.cells #[.int .i64 a, .int .i64 b] 27)
  rw [World.size_alloc] at b2
  have HW := Lib.hid hw
  clear hw
  clear hp hy
  go_enter Try.func21, Try.ntmps21
  go_wp2_with fail
  generalize (w.alloc (.cells #[.int .i64 y.load, .slice sa y.logs.length cap] 24)).alloc (.cells #[.int .i64 a, .int .i64 b] 27) = W0 at *
  refine (lay_ok _ y _ HV.out HYD.out).mono ?_
  rintro e w1 ⟨T, M, n₀, sv, H, rfl, hL, hT, hM, hb1⟩
  have HL := Lib.hid hL
  have HB1 := Lib.hid (bC hB0 hb1)
  replace b2 := b2.below hb1
  clear hL hB0 HV
  have x0 := b2.cell 0
  have x1 := b2.cell 1
  simp at x0 x1
  go_wp2_with fail
  refine (isWindow_any a b _).mono ?_
  rintro e w2 ⟨rfl, hb⟩
  rw [HW.out]
  have HB2 := Lib.hid (bC HB1.out hb)
  have HL2 := Lib.hid (HL.out.below hb)
  replace b2 := b2.below hb
  clear hb x0 x1 HB1 HL
  go_wp2
  go_ret2
  exact ⟨rfl, HB2.out⟩
end Go.Proofs.Ytjbeoakikdkdaaa

namespace Go.Proofs.Ytjbeoakikdkdaaa
open Go.RowKit Go.Vat Go.Sort Go.Shelf
attribute [local go_sem] Oper.semAt_some

/-! ## The program: what a proof proves -/
def nxt (ws : List (Int × Int)) (k : Nat) : Int := if k = 0 then 0 else (ws.getD (k - 1) (0, 0)).2 + 1
theorem nxt_succ {ws : List (Int × Int)} {k : Nat} (h : k < ws.length) : nxt ws (k + 1) = ws[k].2 + 1 := by
  unfold nxt
  rw [if_neg (by omega), Nat.add_sub_cancel, List.getD_eq_getElem?_getD, List.getElem?_eq_getElem h]
  rfl
set_option maxRecDepth 100000 in
set_option maxHeartbeats 1000000 in
theorem CheckProof_err (v : Value) (wv : Value) (y : YardD) (w : World) (hv : YardAt w v y) (hl : y.logs.length ≤ 1000000) (he : yardErr y ≠ 0) :
    Calls Try.prog 27 #[v, wv] w fun e w' => e = .returned (.tuple #[.int .i64 0, .int .i64 (yardErr y)]) ∧ Below w.heap.size w w' := by
  obtain ⟨sv, rfl, hp⟩ := hv
  obtain ⟨sa, cap, rfl⟩ := hp.slice
  have HP := Lib.hid hp
  have HER := Lib.hid he
  obtain ⟨E, hE⟩ : ∃ E, yardErr y = E := ⟨_, rfl⟩
  have d1 : (E != 0) = true := by rw [← hE]; simpa using he
  have HE := Lib.hid hE
  clear hp he hE
  rw [HE.out]
  go_enter Try.func27, Try.ntmps27
  go_wp2_with fail
  refine (lay_err _ y _ ⟨_, rfl, HP.out.below (below1 _ _)⟩ hl HER.out).mono ?_
  rintro e w1 ⟨rfl, hb⟩
  rw [HE.out]
  go_wp2
  go_ret2
  exact ⟨rfl, after1 hb⟩
set_option maxRecDepth 100000 in
set_option maxHeartbeats 4000000 in
theorem CheckProof_6 (v : Value) (wv : Value) (y : YardD) (w : World) (hv : YardAt w v y) (hy : y.Ok) (ws : List (Int × Int)) (hw : PairsAt w wv ws) (h10 : 10 < ws.length) :
    Calls Try.prog 27 #[v, wv] w fun e w' => e = .returned (.tuple #[.int .i64 0, .int .i64 6]) ∧ Below w.heap.size w w' := by
  obtain ⟨sv, rfl, hp⟩ := hv
  obtain ⟨sa, cap, rfl⟩ := hp.slice
  have hB0 := below1 w (.cells #[.int .i64 y.load, .slice sa y.logs.length cap] 24)
  have HV := Lib.hid (show YardAt (w.alloc (.cells #[.int .i64 y.load, .slice sa y.logs.length cap] 24)) (.agg #[.int .i64 y.load, .slice sa y.logs.length cap]) y from ⟨_, rfl, hp.below hB0⟩)
  have HYD := Lib.hid hy
  have hl10 := hy.count
  obtain ⟨wa, wc, rfl⟩ := hw.slice
  clear hw
  have d1 : decide ((ws.length : Int) > 10) = true := by simp; omega
  have d2 : decide ((10 : Int) < (ws.length : Int)) = true := by simp; omega
  clear hp hy
  go_enter Try.func27, Try.ntmps27
  go_wp2_with fail
  generalize w.alloc (.cells #[.int .i64 y.load, .slice sa y.logs.length cap] 24) = W0 at *
  refine (lay_ok _ y _ HV.out HYD.out).mono ?_
  rintro e w1 ⟨T, M, n₀, sv, H, rfl, hL, hT, hM, hb1⟩
  have HL := Lib.hid hL
  have HB1 := Lib.hid (bC hB0 hb1)
  clear hL hB0 HV
  go_wp2
  go_ret2
  exact ⟨rfl, HB1.out⟩
set_option maxRecDepth 100000 in
set_option maxHeartbeats 4000000 in
theorem CheckProof_3 (v : Value) (wv : Value) (y : YardD) (w : World) (hv : YardAt w v y) (hy : y.Ok) (ws : List (Int × Int)) (hw : PairsAt w wv ws) (hl : ws.length ≤ 1000) (h10 : ws.length ≤ 10) (hall : ws.all okWin = false) :
    Calls Try.prog 27 #[v, wv] w fun e w' => e = .returned (.tuple #[.int .i64 0, .int .i64 3]) ∧ Below w.heap.size w w' := by
  obtain ⟨sv, rfl, hp⟩ := hv
  obtain ⟨sa, cap, rfl⟩ := hp.slice
  have hB0 := below1 w (.cells #[.int .i64 y.load, .slice sa y.logs.length cap] 24)
  have HV := Lib.hid (show YardAt (w.alloc (.cells #[.int .i64 y.load, .slice sa y.logs.length cap] 24)) (.agg #[.int .i64 y.load, .slice sa y.logs.length cap]) y from ⟨_, rfl, hp.below hB0⟩)
  have HYD := Lib.hid hy
  have hl10 := hy.count
  obtain ⟨wa, wc, rfl⟩ := hw.slice
  have HW := Lib.hid (hw.below hB0)
  clear hw
  have d1 : decide ((ws.length : Int) > 10) = false := by simp; omega
  have d2 : decide ((10 : Int) < (ws.length : Int)) = false := by simp; omega
  have HALL := Lib.hid hall
  clear hall
  clear hp hy
  go_enter Try.func27, Try.ntmps27
  go_wp2_with fail
  generalize w.alloc (.cells #[.int .i64 y.load, .slice sa y.logs.length cap] 24) = W0 at *
  refine (lay_ok _ y _ HV.out HYD.out).mono ?_
  rintro e w1 ⟨T, M, n₀, sv, H, rfl, hL, hT, hM, hb1⟩
  have HL := Lib.hid hL
  have HB1 := Lib.hid (bC hB0 hb1)
  clear hL hB0 HV
  have HW1 := Lib.hid (HW.out.below hb1)
  clear HW
  go_wp2_with fail
  refine (areWindows_any _ ws _ HW1.out (by omega)).mono ?_
  rintro e w2 ⟨rfl, hb2⟩
  rw [HALL.out]
  have HB2 := Lib.hid (bC HB1.out hb2)
  have HL2 := Lib.hid (HL.out.below hb2)
  have HW2 := Lib.hid (HW1.out.below hb2)
  clear hb2 HB1 HL HW1
  go_wp2
  go_ret2
  exact ⟨rfl, HB2.out⟩
set_option maxRecDepth 100000 in
set_option maxHeartbeats 4000000 in
theorem CheckProof_0 (v : Value) (wv : Value) (y : YardD) (w : World) (hv : YardAt w v y) (hy : y.Ok) (ws : List (Int × Int)) (hw : PairsAt w wv ws) (hl : ws.length ≤ 1000) (h10 : ws.length ≤ 10) (hall : ws.all okWin = true) (PV PE : Int) (hok : pfB 0 ws = true → PV = pfSum y ws ∧ PE = 0) (hno : pfB 0 ws = false → PV = 0 ∧ PE = 16) :
    Calls Try.prog 27 #[v, wv] w fun e w' => e = .returned (.tuple #[.int .i64 PV, .int .i64 PE]) ∧ Below w.heap.size w w' := by
  obtain ⟨sv, rfl, hp⟩ := hv
  obtain ⟨sa, cap, rfl⟩ := hp.slice
  have hB0 := below1 w (.cells #[.int .i64 y.load, .slice sa y.logs.length cap] 24)
  have HV := Lib.hid (show YardAt (w.alloc (.cells #[.int .i64 y.load, .slice sa y.logs.length cap] 24)) (.agg #[.int .i64 y.load, .slice sa y.logs.length cap]) y from ⟨_, rfl, hp.below hB0⟩)
  have HYD := Lib.hid hy
  have hl10 := hy.count
  obtain ⟨wa, wc, rfl⟩ := hw.slice
  have HW := Lib.hid (hw.below hB0)
  clear hw
  have HOK := Lib.hid hok
  have HNO := Lib.hid hno
  clear hok hno
  have d1 : decide ((ws.length : Int) > 10) = false := by simp; omega
  have d2 : decide ((10 : Int) < (ws.length : Int)) = false := by simp; omega
  have HALL := Lib.hid hall
  clear hall
  clear hp hy
  go_enter Try.func27, Try.ntmps27
  go_wp2_with fail
  generalize w.alloc (.cells #[.int .i64 y.load, .slice sa y.logs.length cap] 24) = W0 at *
  refine (lay_ok _ y _ HV.out HYD.out).mono ?_
  rintro e w1 ⟨T, M, n₀, sv, H, rfl, hL, hT, hM, hb1⟩
  have HL := Lib.hid hL
  have HB1 := Lib.hid (bC hB0 hb1)
  clear hL hB0 HV
  have HW1 := Lib.hid (HW.out.below hb1)
  clear HW
  go_wp2_with fail
  refine (areWindows_any _ ws _ HW1.out (by omega)).mono ?_
  rintro e w2 ⟨rfl, hb2⟩
  rw [HALL.out]
  have HB2 := Lib.hid (bC HB1.out hb2)
  have HL2 := Lib.hid (HL.out.below hb2)
  have HW2 := Lib.hid (HW1.out.below hb2)
  clear hb2 HB1 HL HW1
  have HA := Lib.hid HW2.out.at.2
  go_wp2_with fail
  go_loopw [8, 9, 11, 28] (fun s nx _ i wr => ∃ k : Nat, k ≤ ws.length ∧ i = .int .i64 k ∧ s = .int .i64 (pfSum y (ws.take k)) ∧ nx = .int .i64 (nxt ws k) ∧ pfB 0 ws = pfB (nxt ws k) (ws.drop k) ∧ Below w2.heap.size w2 wr) (fun _ _ _ i _ => ws.length - (intOf i).toNat)
  case atStart => exact ⟨0, Nat.zero_le _, rfl, rfl, rfl, rfl, Below.refl _ _⟩
  case round =>
    obtain ⟨k, hk, rfl, rfl, rfl, hpf, hB⟩ := hrel
    have HPF := Lib.hid hpf
    have HB := Lib.hid hB
    have hsb := pfSum_bd HYD.out (ws.take k)
    rw [List.length_take, Nat.min_eq_left hk] at hsb
    by_cases hlt : k < ws.length
    · obtain ⟨b, off, hwa, c0, c1⟩ := HA.out k hlt
      subst hwa
      have c0 := cellB c0 hB
      have c1 := cellB c1 hB
      have HLw := Lib.hid (HL2.out.below hB)
      have HD := Lib.hid (pfB_drop (nx := nxt ws k) hlt)
      have HT := Lib.hid (pfSum_take (y := y) hlt)
      have HX := Lib.hid (nxt_succ hlt)
      have hwn := (okWin_iff ws[k].1 ws[k].2).1 (List.all_eq_true.1 HALL.out _ (List.getElem_mem hlt))
      have hnd := need_bd HYD.out ws[k].1 ws[k].2
      obtain ⟨sn, hsn⟩ : ∃ x, pfSum y (ws.take k) = x := ⟨_, rfl⟩
      obtain ⟨nx, hnx⟩ : ∃ x, nxt ws k = x := ⟨_, rfl⟩
      obtain ⟨nd, hnd0⟩ : ∃ x, need y ws[k].1 ws[k].2 = x := ⟨_, rfl⟩
      obtain ⟨lo, hlo⟩ : ∃ x, ws[k].1 = x := ⟨_, rfl⟩
      obtain ⟨hi, hhi⟩ : ∃ x, ws[k].2 = x := ⟨_, rfl⟩
      rw [hnd0] at hnd
      rw [hlo, hhi] at hnd0 hwn
      rw [hlo] at c0
      rw [hhi] at c1
      rw [hsn] at hsb
      have HN := Lib.hid (And.intro hsn (And.intro hnx (And.intro hnd0 (And.intro hlo hhi))))
      rw [hsn, hnx]
      obtain ⟨hs0, hs1⟩ := hsb
      obtain ⟨hn0, hn1⟩ := hnd
      obtain ⟨hw0, hw1, hw2⟩ := hwn
      have ww : IntKind.i64.wrap (sn + nd) = sn + nd := IntWalk.i64_in _ (by omega)
      have ww2 : IntKind.i64.wrap (hi + 1) = hi + 1 := IntWalk.i64_in _ (by omega)
      have bX := Blk.new wr (.cells #[.int .i64 lo, .int .i64 hi] 27)
      have hBx := below1 wr (.cells #[.int .i64 lo, .int .i64 hi] 27)
      have HLx := Lib.hid (HLw.out.below hBx)
      have HBx := Lib.hid (bC HB.out hBx)
      clear hpf hB hsn hnx hnd0 hlo hhi hBx
      by_cases q : lo < nx
      · have q1 : decide (lo < nx) = true := by simpa using q
        have HF := Lib.hid (HNO.out (by rw [HPF.out, HD.out, HN.out.2.1, HN.out.2.2.2.1, decide_eq_false (by omega)]; rfl))
        obtain ⟨rfl, rfl⟩ := HF.out
        clear q HF
        go_wp2
        go_ret2
        exact ⟨rfl, bC HB2.out HBx.out⟩
      · have q1 : decide (lo < nx) = false := by simpa using q
        have HG := Lib.hid (show pfB (nx) (ws.drop k) = pfB (hi + 1) (ws.drop (k + 1)) by
          have := HD.out
          rw [HN.out.2.1, HN.out.2.2.2.1, HN.out.2.2.2.2, decide_eq_true (show nx ≤ lo by omega), Bool.true_and] at this
          exact this)
        clear q
        go_wp2_with fail
        generalize wr.alloc (.cells #[.int .i64 lo, .int .i64 hi] 27) = w3 at *
        clear c0 c1
        refine (need_any n₀ T M y sv (U y) H lo hi _ HLx.out.vat HYD.out HLx.out.size).mono ?_
        rintro e w4 ⟨rfl, hb4⟩
        rw [HN.out.2.2.1]
        have HB4 := Lib.hid (bC HBx.out hb4)
        have x1 := (bX.below hb4).cell 1
        simp at x1
        clear hb4 bX
        go_wp2
        go_roundw
        case rel => exact ⟨k + 1, by omega, by go_num, by rw [HT.out, HN.out.1, HN.out.2.2.2.1, HN.out.2.2.2.2, HN.out.2.2.1], by rw [HX.out, HN.out.2.2.2.2], by rw [HX.out, HPF.out, HN.out.2.1, HG.out, HN.out.2.2.2.2], HB4.out⟩
        case measure => simp [intOf] <;> omega
    · obtain rfl : k = ws.length := by omega
      have HF := Lib.hid (HOK.out (by rw [HPF.out, List.drop_length]; rfl))
      obtain ⟨hf1, rfl⟩ := HF.out
      have HF1 := Lib.hid hf1
      rw [List.take_length] at hsb
      rw [List.take_length, ← HF1.out]
      clear hf1 HF hpf hB
      go_wp2
      go_ret2
      exact ⟨rfl, bC HB2.out HB.out⟩
/-- What CheckProof answers for a valid yard. -/
theorem CheckProof_ok (v wv : Value) (y : YardD) (ws : List (Int × Int)) (w : World) (hv : YardAt w v y) (hy : y.Ok) (hw : PairsAt w wv ws) (hl : ws.length ≤ 1000) :
    Calls Try.prog 27 #[v, wv] w fun e w' => e = .returned (.tuple #[.int .i64 (proofV y ws), .int .i64 (proofErr y ws)]) ∧ Below w.heap.size w w' := by
  have he := proofErr_ok hy ws
  by_cases h1 : 10 < ws.length
  · have h2 : proofErr y ws = 6 := by rw [he]; unfold proofErr0; rw [if_pos h1]
    rw [proofV_no (by rw [h2]; decide), h2]
    exact CheckProof_6 v wv y w hv hy ws hw h1
  · cases hall : ws.all okWin with
    | false =>
      have h2 : proofErr y ws = 3 := by rw [he]; unfold proofErr0; rw [if_neg h1, hall, if_neg (by simp)]
      rw [proofV_no (by rw [h2]; decide), h2]
      exact CheckProof_3 v wv y w hv hy ws hw hl (by omega) hall
    | true =>
      have h2 : proofErr y ws = if pfB 0 ws = true then 0 else 16 := by rw [he]; unfold proofErr0; rw [if_neg h1, hall, if_pos rfl]
      refine CheckProof_0 v wv y w hv hy ws hw hl (by omega) hall _ _ (fun h => ?_) (fun h => ?_)
      · rw [h, if_pos rfl] at h2
        exact ⟨by unfold proofV; rw [if_pos h2], h2⟩
      · rw [h, if_neg (by simp)] at h2
        exact ⟨proofV_no (by rw [h2]; decide), h2⟩
end Go.Proofs.Ytjbeoakikdkdaaa
