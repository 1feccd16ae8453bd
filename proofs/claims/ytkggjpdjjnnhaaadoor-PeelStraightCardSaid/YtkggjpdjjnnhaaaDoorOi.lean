import Derived.Test.YtkggjpdjjnnhaaaDoorOg
namespace Go.Proofs.YtkggjpdjjnnhaaaDoor
open Go.RowKit Go.Shelf Go.Sort
attribute [local go_sem] Oper.semAt_some
attribute [local go_sem high] run_min_w run_max_w run_max_w3

/-! ## The law PeelStraight -/
set_option maxRecDepth 1000000 in
set_option maxHeartbeats 40000000 in
theorem PeelStraight_any (f g one two wd0 en many : Int) (w : World) (hN : NoneAt w) (g1 : 0 ≤ f ∧ f ≤ 255) (g2 : 0 ≤ g ∧ g ≤ 255) (g3 : 0 ≤ one ∧ one ≤ 65535) (g4 : 0 ≤ two ∧ two ≤ 65535) (g5 : 0 ≤ wd0 ∧ wd0 ≤ 65535) (g6 : 0 ≤ en ∧ en ≤ 65535) (g7 : 0 ≤ many ∧ many ≤ 255) :
    Calls Tryd.prog 16 #[.int .u8 f, .int .u8 g, .int .u16 one, .int .u16 two, .int .u16 wd0, .int .u16 en, .int .u8 many] w fun e w' => e = .returned (.bool true) ∧ Below w.heap.size w w' := by
  have HN := Lib.hid hN
  clear hN
  obtain ⟨a, ha⟩ : ∃ a, f.tmod 30 = a := ⟨_, rfl⟩
  have ba := tmodN f 30 g1.1 (by decide)
  rw [ha] at ba
  have ra : IntKind.i64.wrap a = a := IntWalk.i64_in _ (by omega)
  obtain ⟨s0, hs0⟩ : ∃ s0, g.tmod 10 = s0 := ⟨_, rfl⟩
  have bs0 := tmodN g 10 g2.1 (by decide)
  rw [hs0] at bs0
  have rs0 : IntKind.i64.wrap s0 = s0 := IntWalk.i64_in _ (by omega)
  obtain ⟨x, hx⟩ : ∃ x, one.tmod 100 = x := ⟨_, rfl⟩
  have bx := tmodN one 100 g3.1 (by decide)
  rw [hx] at bx
  have rx : IntKind.i64.wrap x = x := IntWalk.i64_in _ (by omega)
  obtain ⟨y, hy⟩ : ∃ y, two.tmod 100 = y := ⟨_, rfl⟩
  have by_ := tmodN two 100 g4.1 (by decide)
  rw [hy] at by_
  have ry : IntKind.i64.wrap y = y := IntWalk.i64_in _ (by omega)
  obtain ⟨p, hp⟩ : ∃ p, wd0.tmod 100 = p := ⟨_, rfl⟩
  have bp := tmodN wd0 100 g5.1 (by decide)
  rw [hp] at bp
  have rp : IntKind.i64.wrap p = p := IntWalk.i64_in _ (by omega)
  obtain ⟨z, hz⟩ : ∃ z, en.tmod 100 = z := ⟨_, rfl⟩
  have bz := tmodN en 100 g6.1 (by decide)
  rw [hz] at bz
  have rz : IntKind.i64.wrap z = z := IntWalk.i64_in _ (by omega)
  obtain ⟨m7, hm7⟩ : ∃ m7, many.tmod 7 = m7 := ⟨_, rfl⟩
  have bm7 := tmodN many 7 g7.1 (by decide)
  rw [hm7] at bm7
  have rm7 : IntKind.i64.wrap m7 = m7 := IntWalk.i64_in _ (by omega)
  obtain ⟨st, hst⟩ : ∃ st, 1 + s0 = st := ⟨_, rfl⟩
  have rst : IntKind.i64.wrap st = st := IntWalk.i64_in _ (by omega)
  obtain ⟨m, hm⟩ : ∃ m : Nat, 2 + m7 = (m : Int) := ⟨(2 + m7).toNat, by omega⟩
  have rm : IntKind.i64.wrap (m : Int) = (m : Int) := IntWalk.i64_in _ (by omega)
  have bst : 1 ≤ st ∧ st ≤ 10 := by omega
  have bm : 2 ≤ m ∧ m ≤ 8 := by omega
  obtain ⟨ii, hii, hj0, hj1, hj2⟩ := info_parts infoI
  obtain ⟨ir, hir, hk0, hk1, hk2⟩ := info_parts infoR
  have BA := Lib.hid ba
  have BX := Lib.hid bx
  have BY := Lib.hid by_
  have BP := Lib.hid bp
  have BZ := Lib.hid bz
  have BST := Lib.hid bst
  have BM := Lib.hid bm
  have II := Lib.hid hii
  have J0 := Lib.hid hj0
  have J1 := Lib.hid hj1
  have J2 := Lib.hid hj2
  have IR := Lib.hid hir
  have K0 := Lib.hid hk0
  have K1 := Lib.hid hk1
  have K2 := Lib.hid hk2
  clear hii hj0 hj1 hj2 hir hk0 hk1 hk2 ba bx by_ bp bz bs0 bst bm7 bm g1 g2 g3 g4 g5 g6 g7
  obtain ⟨LG, hLG⟩ : ∃ LG, strL a st m x y p z m = LG := ⟨_, rfl⟩
  by_cases h0 : logErr LG = 0
  · have HF : Hid (∀ W va, LogAt W va LG → Calls Tryd.prog 41 #[va] W (Gets (.bool true) W)) := Lib.hid (fun W va h => by have := fine_any va LG W h; rw [decide_eq_true h0] at this; exact this)
    have hf := logErr_fit' h0
    have sv := small_best hf
    obtain ⟨n, hn⟩ : ∃ n, (bestV LG).num = n := ⟨_, rfl⟩
    obtain ⟨d, hd⟩ : ∃ d, ((bestV LG).den : Int) = d := ⟨_, rfl⟩
    have HBG : Hid (∀ W va, NoneAt W → LogAt W va LG → Calls Tryd.prog 42 #[va] W (Gets (.tuple #[.agg #[.int .i64 n, .int .i64 d], .bool true]) W)) := Lib.hid (fun W va hN h => by have := best_good va LG W hN h h0; rw [qv, hn, hd] at this; exact this)
    have q0 := mulN (a := min p z) (b := (m : Int) - 1) (A := 99) (B := 7) (by have := BP.out; have := BZ.out; omega) (by have := BP.out; have := BZ.out; omega) (by have := BM.out; omega) (by have := BM.out; omega)
    have r8 : IntKind.i64.wrap (min p z * ((m : Int) - 1)) = min p z * ((m : Int) - 1) := IntWalk.i64_in _ (by omega)
    have HBY : Hid (∀ W, Calls Tryd.prog 51 #[.int .i64 (min p z * ((m : Int) - 1)), .int .i64 2] W (Gets (.agg #[.int .i64 n, .int .i64 d]) W)) := Lib.hid (fun W => by
      have := rby_any (min p z * ((m : Int) - 1)) 2 W (by omega) (by omega) (by omega) (by omega)
      have e := str_best (a := a) (step := st) (x := x) (y := y) (w := p) (z := z) (m := m) (by have := BST.out; omega) (by have := BM.out; omega) (by rw [hLG]; exact hf)
      rw [hLG] at e
      rw [show ((2 : Int).toNat) = 2 from rfl, e, qv, hn, hd] at this
      exact this)
    have HLG := Lib.hid hLG
    clear hf sv hn hd hLG h0 q0
    go_enter Tryd.func16, Tryd.ntmps16
    go_wp2_with fail
    clear ha hs0 hx hy hp hz hm7 hst hm ra rs0 rx ry rp rz rm7 rst
    go_loopw [23] (fun i wr => ∃ (k : Nat) (va ve : Value), i = .int .i64 (k : Int) ∧ k ≤ m ∧ wr.ownsRow w.heap.size 2 1 va k ((upto (strF a st) k).map (Value.int .i64)) ∧ wr.ownsRow w.heap.size 69 2 ve k (pairCells (upto (strG m x y p z) k)) ∧ Blk wr w.heap.size (.cells #[va, ve] 25) ∧ Below w.heap.size w wr) (fun i _ => m - (intOf i).toNat)
    case atStart =>
      have b4 := Blk.new w (.cells #[.slice none 0 0, .slice none 0 0] 25)
      exact ⟨0, .slice none 0 0, .slice none 0 0, rfl, Nat.zero_le _, ⟨rfl, .inl ⟨rfl, rfl⟩⟩, ⟨rfl, .inl ⟨rfl, rfl⟩⟩, b4, below1 _ _⟩
    case round =>
      rename_i wr
      obtain ⟨k, va, ve, rfl, hk, hra, hre, hX, hB⟩ := hrel
      obtain ⟨a1, n1, c1, rfl⟩ := (Row.of_owns hra).slice
      obtain ⟨a2, n2, c2, rfl⟩ := (Row.of_owns hre).slice
      have RA := Lib.hid hra
      have RE := Lib.hid hre
      have X := Lib.hid hX
      have BL := Lib.hid hB
      have hx0 : w.heap.size < wr.heap.size := hX.lt
      clear hra hre hX hB
      by_cases hlt : k < m
      · have bm := BM.out
        have ba := BA.out
        have bst := BST.out
        have bx := BX.out
        have by_ := BY.out
        have bp := BP.out
        have bz := BZ.out
        have q1 := mulN (a := x) (b := (m : Int) - 1 - (k : Int)) (A := 99) (B := 7) (by omega) (by omega) (by omega) (by omega)
        have q2 := mulN (a := y) (b := (k : Int)) (A := 99) (B := 7) (by omega) (by omega) (by omega) (by omega)
        have q3 := mulN (a := p) (b := (m : Int) - 1 - (k : Int)) (A := 99) (B := 7) (by omega) (by omega) (by omega) (by omega)
        have q4 := mulN (a := z) (b := (k : Int)) (A := 99) (B := 7) (by omega) (by omega) (by omega) (by omega)
        have q5 := mulN (a := st) (b := (k : Int)) (A := 10) (B := 7) (by omega) (by omega) (by omega) (by omega)
        have w1 : IntKind.i64.wrap ((m : Int) - 1) = (m : Int) - 1 := IntWalk.i64_in _ (by omega)
        have w2 : IntKind.i64.wrap ((m : Int) - 1 - (k : Int)) = (m : Int) - 1 - (k : Int) := IntWalk.i64_in _ (by omega)
        have w3 : IntKind.i64.wrap (x * ((m : Int) - 1 - (k : Int))) = x * ((m : Int) - 1 - (k : Int)) := IntWalk.i64_in _ (by omega)
        have w4 : IntKind.i64.wrap (y * (k : Int)) = y * (k : Int) := IntWalk.i64_in _ (by omega)
        have w5 : IntKind.i64.wrap (x * ((m : Int) - 1 - (k : Int)) + y * (k : Int)) = x * ((m : Int) - 1 - (k : Int)) + y * (k : Int) := IntWalk.i64_in _ (by omega)
        have w6 : IntKind.i64.wrap (x * ((m : Int) - 1 - (k : Int)) + y * (k : Int) - 900) = x * ((m : Int) - 1 - (k : Int)) + y * (k : Int) - 900 := IntWalk.i64_in _ (by omega)
        have w7 : IntKind.i64.wrap (p * ((m : Int) - 1 - (k : Int))) = p * ((m : Int) - 1 - (k : Int)) := IntWalk.i64_in _ (by omega)
        have w8 : IntKind.i64.wrap (x * ((m : Int) - 1 - (k : Int)) + y * (k : Int) + p * ((m : Int) - 1 - (k : Int))) = x * ((m : Int) - 1 - (k : Int)) + y * (k : Int) + p * ((m : Int) - 1 - (k : Int)) := IntWalk.i64_in _ (by omega)
        have w9 : IntKind.i64.wrap (z * (k : Int)) = z * (k : Int) := IntWalk.i64_in _ (by omega)
        have w10 : IntKind.i64.wrap (x * ((m : Int) - 1 - (k : Int)) + y * (k : Int) + p * ((m : Int) - 1 - (k : Int)) + z * (k : Int)) = x * ((m : Int) - 1 - (k : Int)) + y * (k : Int) + p * ((m : Int) - 1 - (k : Int)) + z * (k : Int) := IntWalk.i64_in _ (by omega)
        have w11 : IntKind.i64.wrap (x * ((m : Int) - 1 - (k : Int)) + y * (k : Int) + p * ((m : Int) - 1 - (k : Int)) + z * (k : Int) - 900) = x * ((m : Int) - 1 - (k : Int)) + y * (k : Int) + p * ((m : Int) - 1 - (k : Int)) + z * (k : Int) - 900 := IntWalk.i64_in _ (by omega)
        have w12 : IntKind.i64.wrap (st * (k : Int)) = st * (k : Int) := IntWalk.i64_in _ (by omega)
        have w13 : IntKind.i64.wrap (a + st * (k : Int)) = a + st * (k : Int) := IntWalk.i64_in _ (by omega)
        have hk8 : k ≤ 8 := by omega
        have w14 : IntKind.i64.wrap ((k : Int) + 1) = (k : Int) + 1 := IntWalk.i64_in _ (by omega)
        have ht : decide ((k : Int) < (m : Int)) = true := by simp; omega
        clear q1 q2 q3 q4 q5 bm ba bst bx by_ bp bz
        go_wp2_with fail
        have c0 : wr.cell? ⟨w.heap.size, 0, none⟩ = some (.slice a1 n1 c1) := by rw [X.out.cell]; rfl
        have c1x : wr.cell? ⟨w.heap.size, 1, none⟩ = some (.slice a2 n2 c2) := by rw [X.out.cell]; rfl
        refine wp_region_T 30 (fun W' => W'.cell? ⟨w.heap.size, 0, none⟩ = some (.slice a1 n1 c1) ∧ W'.cell? ⟨w.heap.size, 1, none⟩ = some (.slice a2 n2 c2)) (by kernel_rfl) (by kernel_rfl) ⟨c0, c1x⟩ ?_
        intro inv hS
        have hbD : Below wr.heap.size wr wr.drew := (Below.refl _ _).drew
        generalize wr.drew = V0 at *
        replace RA := Lib.hid (owns_below RA.out hbD)
        replace RE := Lib.hid (owns_below RE.out hbD)
        replace X := Lib.hid (X.out.below hbD)
        replace BL := Lib.hid (bC BL.out hbD)
        clear hbD
        clear c0
        have c0 : V0.cell? ⟨w.heap.size, 0, none⟩ = some (.slice a1 n1 c1) := by rw [X.out.cell]; rfl
        clear c1x
        have c1x : V0.cell? ⟨w.heap.size, 1, none⟩ = some (.slice a2 n2 c2) := by rw [X.out.cell]; rfl
        refine wpAnyT_take inv (by kernel_rfl) (by omega) (i := 0) (v := .pointer (some ⟨w.heap.size, 0, none⟩)) rfl (by kernel_rfl) (by kernel_rfl) (fun _ _ _ h => h) (Or.inl ⟨by kernel_rfl, ?_⟩) (by assumption) ?_
        · rintro W' ⟨s0, s1⟩
          go_simp
        intro inv2
        clear inv
        have inv := inv2
        clear inv2
        simp only [Act.put, List.setIfInBounds_toArray]
        refine wpAnyT_take inv (by kernel_rfl) (by omega) (i := 1) (v := .slice a1 n1 c1) rfl (by kernel_rfl) (by kernel_rfl) (fun _ _ _ h => h) (Or.inl ⟨by kernel_rfl, ?_⟩) (by assumption) ?_
        · rintro W' ⟨s0, s1⟩
          go_simp
        intro inv2
        clear inv
        have inv := inv2
        clear inv2
        simp only [Act.put]
        refine wpAnyT_take inv (by kernel_rfl) (by omega) (i := 2) (v := .int .i64 (a)) rfl (by kernel_rfl) (by kernel_rfl) (fun _ _ _ h => h) (Or.inl ⟨by kernel_rfl, ?_⟩) (by assumption) ?_
        · rintro W' ⟨s0, s1⟩
          go_simp
        intro inv2
        clear inv
        have inv := inv2
        clear inv2
        simp only [Act.put]
        refine wpAnyT_take inv (by kernel_rfl) (by omega) (i := 3) (v := .int .i64 (st)) rfl (by kernel_rfl) (by kernel_rfl) (fun _ _ _ h => h) (Or.inl ⟨by kernel_rfl, ?_⟩) (by assumption) ?_
        · rintro W' ⟨s0, s1⟩
          go_simp
        intro inv2
        clear inv
        have inv := inv2
        clear inv2
        simp only [Act.put]
        refine wpAnyT_take inv (by kernel_rfl) (by omega) (i := 4) (v := .int .i64 ((k : Int))) rfl (by kernel_rfl) (by kernel_rfl) (fun _ _ _ h => h) (Or.inl ⟨by kernel_rfl, ?_⟩) (by assumption) ?_
        · rintro W' ⟨s0, s1⟩
          go_simp
        intro inv2
        clear inv
        have inv := inv2
        clear inv2
        simp only [Act.put]
        refine wpAnyT_take inv (by kernel_rfl) (by omega) (i := 5) (v := .int .i64 (st * (k : Int))) rfl (by kernel_rfl) (by kernel_rfl) (fun _ _ _ h => h) (Or.inl ⟨by kernel_rfl, ?_⟩) (by assumption) ?_
        · rintro W' ⟨s0, s1⟩
          go_simp
        intro inv2
        clear inv
        have inv := inv2
        clear inv2
        simp only [Act.put]
        refine wpAnyT_take inv (by kernel_rfl) (by omega) (i := 6) (v := .int .i64 (a + st * (k : Int))) rfl (by kernel_rfl) (by kernel_rfl) (fun _ _ _ h => h) (Or.inl ⟨by kernel_rfl, ?_⟩) (by assumption) ?_
        · rintro W' ⟨s0, s1⟩
          go_simp
        intro inv2
        clear inv
        have inv := inv2
        clear inv2
        simp only [Act.put]
        refine wpAnyT_take inv (by kernel_rfl) (by omega) (i := 9) (v := .pointer (some ⟨w.heap.size, 1, none⟩)) rfl (by kernel_rfl) (by kernel_rfl) (fun _ _ _ h => h) (Or.inl ⟨by kernel_rfl, ?_⟩) (by assumption) ?_
        · rintro W' ⟨s0, s1⟩
          go_simp
        intro inv2
        clear inv
        have inv := inv2
        clear inv2
        simp only [Act.put]
        refine wpAnyT_take inv (by kernel_rfl) (by omega) (i := 10) (v := .slice a2 n2 c2) rfl (by kernel_rfl) (by kernel_rfl) (fun _ _ _ h => h) (Or.inl ⟨by kernel_rfl, ?_⟩) (by assumption) ?_
        · rintro W' ⟨s0, s1⟩
          go_simp
        intro inv2
        clear inv
        have inv := inv2
        clear inv2
        simp only [Act.put]
        refine wpAnyT_take inv (by kernel_rfl) (by omega) (i := 11) (v := .int .i64 (x * ((m : Int) - 1 - (k : Int)) + y * (k : Int))) rfl (by kernel_rfl) (by kernel_rfl) (fun _ _ _ h => h) (Or.inl ⟨by kernel_rfl, ?_⟩) (by assumption) ?_
        · rintro W' ⟨s0, s1⟩
          go_simp
        intro inv2
        clear inv
        have inv := inv2
        clear inv2
        simp only [Act.put]
        refine wpAnyT_take inv (by kernel_rfl) (by omega) (i := 12) (v := .int .i64 (x * ((m : Int) - 1 - (k : Int)) + y * (k : Int) - 900)) rfl (by kernel_rfl) (by kernel_rfl) (fun _ _ _ h => h) (Or.inl ⟨by kernel_rfl, ?_⟩) (by assumption) ?_
        · rintro W' ⟨s0, s1⟩
          go_simp
        intro inv2
        clear inv
        have inv := inv2
        clear inv2
        simp only [Act.put]
        refine wpAnyT_take inv (by kernel_rfl) (by omega) (i := 13) (v := .int .i64 (x * ((m : Int) - 1 - (k : Int)) + y * (k : Int))) rfl (by kernel_rfl) (by kernel_rfl) (fun _ _ _ h => h) (Or.inl ⟨by kernel_rfl, ?_⟩) (by assumption) ?_
        · rintro W' ⟨s0, s1⟩
          go_simp
        intro inv2
        clear inv
        have inv := inv2
        clear inv2
        simp only [Act.put]
        refine wpAnyT_take inv (by kernel_rfl) (by omega) (i := 14) (v := .int .i64 (p)) rfl (by kernel_rfl) (by kernel_rfl) (fun _ _ _ h => h) (Or.inl ⟨by kernel_rfl, ?_⟩) (by assumption) ?_
        · rintro W' ⟨s0, s1⟩
          go_simp
        intro inv2
        clear inv
        have inv := inv2
        clear inv2
        simp only [Act.put]
        refine wpAnyT_take inv (by kernel_rfl) (by omega) (i := 15) (v := .int .i64 ((m : Int))) rfl (by kernel_rfl) (by kernel_rfl) (fun _ _ _ h => h) (Or.inl ⟨by kernel_rfl, ?_⟩) (by assumption) ?_
        · rintro W' ⟨s0, s1⟩
          go_simp
        intro inv2
        clear inv
        have inv := inv2
        clear inv2
        simp only [Act.put]
        refine wpAnyT_take inv (by kernel_rfl) (by omega) (i := 16) (v := .int .i64 ((m : Int) - 1)) rfl (by kernel_rfl) (by kernel_rfl) (fun _ _ _ h => h) (Or.inl ⟨by kernel_rfl, ?_⟩) (by assumption) ?_
        · rintro W' ⟨s0, s1⟩
          go_simp
        intro inv2
        clear inv
        have inv := inv2
        clear inv2
        simp only [Act.put]
        refine wpAnyT_take inv (by kernel_rfl) (by omega) (i := 17) (v := .int .i64 ((k : Int))) rfl (by kernel_rfl) (by kernel_rfl) (fun _ _ _ h => h) (Or.inl ⟨by kernel_rfl, ?_⟩) (by assumption) ?_
        · rintro W' ⟨s0, s1⟩
          go_simp
        intro inv2
        clear inv
        have inv := inv2
        clear inv2
        simp only [Act.put]
        refine wpAnyT_take inv (by kernel_rfl) (by omega) (i := 18) (v := .int .i64 ((m : Int) - 1 - (k : Int))) rfl (by kernel_rfl) (by kernel_rfl) (fun _ _ _ h => h) (Or.inl ⟨by kernel_rfl, ?_⟩) (by assumption) ?_
        · rintro W' ⟨s0, s1⟩
          go_simp
        intro inv2
        clear inv
        have inv := inv2
        clear inv2
        simp only [Act.put]
        refine wpAnyT_take inv (by kernel_rfl) (by omega) (i := 19) (v := .int .i64 (p * ((m : Int) - 1 - (k : Int)))) rfl (by kernel_rfl) (by kernel_rfl) (fun _ _ _ h => h) (Or.inl ⟨by kernel_rfl, ?_⟩) (by assumption) ?_
        · rintro W' ⟨s0, s1⟩
          go_simp
        intro inv2
        clear inv
        have inv := inv2
        clear inv2
        simp only [Act.put]
        refine wpAnyT_take inv (by kernel_rfl) (by omega) (i := 20) (v := .int .i64 (x * ((m : Int) - 1 - (k : Int)) + y * (k : Int) + p * ((m : Int) - 1 - (k : Int)))) rfl (by kernel_rfl) (by kernel_rfl) (fun _ _ _ h => h) (Or.inl ⟨by kernel_rfl, ?_⟩) (by assumption) ?_
        · rintro W' ⟨s0, s1⟩
          go_simp
        intro inv2
        clear inv
        have inv := inv2
        clear inv2
        simp only [Act.put]
        refine wpAnyT_take inv (by kernel_rfl) (by omega) (i := 21) (v := .int .i64 (z)) rfl (by kernel_rfl) (by kernel_rfl) (fun _ _ _ h => h) (Or.inl ⟨by kernel_rfl, ?_⟩) (by assumption) ?_
        · rintro W' ⟨s0, s1⟩
          go_simp
        intro inv2
        clear inv
        have inv := inv2
        clear inv2
        simp only [Act.put]
        refine wpAnyT_take inv (by kernel_rfl) (by omega) (i := 22) (v := .int .i64 ((k : Int))) rfl (by kernel_rfl) (by kernel_rfl) (fun _ _ _ h => h) (Or.inl ⟨by kernel_rfl, ?_⟩) (by assumption) ?_
        · rintro W' ⟨s0, s1⟩
          go_simp
        intro inv2
        clear inv
        have inv := inv2
        clear inv2
        simp only [Act.put]
        refine wpAnyT_take inv (by kernel_rfl) (by omega) (i := 23) (v := .int .i64 (z * (k : Int))) rfl (by kernel_rfl) (by kernel_rfl) (fun _ _ _ h => h) (Or.inl ⟨by kernel_rfl, ?_⟩) (by assumption) ?_
        · rintro W' ⟨s0, s1⟩
          go_simp
        intro inv2
        clear inv
        have inv := inv2
        clear inv2
        simp only [Act.put]
        refine wpAnyT_take inv (by kernel_rfl) (by omega) (i := 24) (v := .int .i64 (x * ((m : Int) - 1 - (k : Int)) + y * (k : Int) + p * ((m : Int) - 1 - (k : Int)) + z * (k : Int))) rfl (by kernel_rfl) (by kernel_rfl) (fun _ _ _ h => h) (Or.inl ⟨by kernel_rfl, ?_⟩) (by assumption) ?_
        · rintro W' ⟨s0, s1⟩
          go_simp
        intro inv2
        clear inv
        have inv := inv2
        clear inv2
        simp only [Act.put]
        refine wpAnyT_take inv (by kernel_rfl) (by omega) (i := 25) (v := .int .i64 (x * ((m : Int) - 1 - (k : Int)) + y * (k : Int) + p * ((m : Int) - 1 - (k : Int)) + z * (k : Int) - 900)) rfl (by kernel_rfl) (by kernel_rfl) (fun _ _ _ h => h) (Or.inl ⟨by kernel_rfl, ?_⟩) (by assumption) ?_
        · rintro W' ⟨s0, s1⟩
          go_simp
        intro inv2
        clear inv
        have inv := inv2
        clear inv2
        simp only [Act.put]
        refine wpAnyT_ready [7] (by kernel_rfl) (by simp) ?_
        refine AllReadyT.cons rfl (fun K hK => ?_) AllReadyT.nil
        go_simp
        have hbA := below1 V0 (.cells #[.int .i64 (a + st * (k : Int))] 2)
        have hn1 := (Blk.new V0 (.cells #[.int .i64 (a + st * (k : Int))] 2)).cell
        generalize V0.alloc (.cells #[.int .i64 (a + st * (k : Int))] 2) = V1 at *
        replace RA := Lib.hid (owns_below RA.out hbA)
        replace RE := Lib.hid (owns_below RE.out hbA)
        replace X := Lib.hid (X.out.below hbA)
        replace BL := Lib.hid (bC BL.out hbA)
        clear hbA
        clear c0
        have c0 : V1.cell? ⟨w.heap.size, 0, none⟩ = some (.slice a1 n1 c1) := by rw [X.out.cell]; rfl
        clear c1x
        have c1x : V1.cell? ⟨w.heap.size, 1, none⟩ = some (.slice a2 n2 c2) := by rw [X.out.cell]; rfl
        refine hK.out _ _ (fun _ => ⟨c0, c1x⟩) (fun _ => ?_)
        clear hK K
        try simp only [Act.put]
        have HN1 := Lib.hid (cells_one (by rw [hn1 0]; rfl))
        clear hn1
        refine wpAnyT_ready [8] (by kernel_rfl) (by simp) ?_
        refine AllReadyT.cons rfl (fun K hK => ?_) AllReadyT.nil
        refine Eq.mpr (if_pos ?_) ?_
        · rfl
        have hsz1 := BL.out.size
        refine wp_append_own _ _ _ 22 rfl w.heap.size 2 ii (.int .i64 0) 1 8 undI II.out J0.out J1.out J2.out rfl (by decide) _ _ _ rfl RA.out ⟨V0.heap.size, 0, none⟩ 1 1 [.int .i64 (a + st * (k : Int))] rfl rfl HN1.out (by intro u hu; simp only [List.mem_cons, List.not_mem_nil, or_false] at hu; subst hu; rfl) (by unfold maxLen; omega) (by omega) (by omega) ?_
        intro v1 V2 own gr _
        replace X := Lib.hid (X.out.grown RA.out (by decide) gr)
        replace RE := Lib.hid (owns_grown RA.out RE.out (by decide) gr)
        replace BL := Lib.hid (below_owns RA.out gr BL.out hsz1)
        replace RA := Lib.hid own
        clear own gr HN1 hsz1
        clear c0
        have c0 : V2.cell? ⟨w.heap.size, 0, none⟩ = some (.slice a1 n1 c1) := by rw [X.out.cell]; rfl
        clear c1x
        have c1x : V2.cell? ⟨w.heap.size, 1, none⟩ = some (.slice a2 n2 c2) := by rw [X.out.cell]; rfl
        refine hK.out _ _ (fun _ => ⟨c0, c1x⟩) (fun _ => ?_)
        clear hK K
        try simp only [Act.put]
        replace inv := HeadM.step inv 7 (by kernel_rfl) (by omega)
        replace inv := HeadM.step inv 8 (by kernel_rfl) (by omega)
        clear hS
        have hS : V2.cell? ⟨w.heap.size, 0, none⟩ = some (.slice a1 n1 c1) ∧ V2.cell? ⟨w.heap.size, 1, none⟩ = some (.slice a2 n2 c2) := ⟨c0, c1x⟩
        refine wpAnyT_take inv (by kernel_rfl) (by omega) (i := 29) (v := .pointer (some ⟨w.heap.size, 0, none⟩)) rfl (by kernel_rfl) (by kernel_rfl) (fun _ _ _ h => h) (Or.inl ⟨by kernel_rfl, ?_⟩) (by assumption) ?_
        · rintro W' ⟨s0, s1⟩
          go_simp
        intro inv2
        clear inv
        have inv := inv2
        clear inv2
        simp only [Act.put, List.setIfInBounds_toArray]
        refine wpAnyT_ready [26] (by kernel_rfl) (by simp) ?_
        refine AllReadyT.cons rfl (fun K hK => ?_) AllReadyT.nil
        go_simp
        refine (to_any (x * ((m : Int) - 1 - (k : Int)) + y * (k : Int) - 900) (x * ((m : Int) - 1 - (k : Int)) + y * (k : Int) + p * ((m : Int) - 1 - (k : Int)) + z * (k : Int) - 900) _).mono ?_
        rintro e V3 ⟨rfl, hbC⟩
        replace RA := Lib.hid (owns_below RA.out hbC)
        replace RE := Lib.hid (owns_below RE.out hbC)
        replace X := Lib.hid (X.out.below hbC)
        replace BL := Lib.hid (bC BL.out hbC)
        clear hbC
        clear c0
        have c0 : V3.cell? ⟨w.heap.size, 0, none⟩ = some (.slice a1 n1 c1) := by rw [X.out.cell]; rfl
        clear c1x
        have c1x : V3.cell? ⟨w.heap.size, 1, none⟩ = some (.slice a2 n2 c2) := by rw [X.out.cell]; rfl
        refine hK.out _ _ (fun _ => ⟨c0, c1x⟩) (fun _ => ?_)
        clear hK K
        try simp only [Act.put]
        refine wpAnyT_ready [27] (by kernel_rfl) (by simp) ?_
        refine AllReadyT.cons rfl (fun K hK => ?_) AllReadyT.nil
        go_simp
        have hbA := below1 V3 (.cells #[.int .i64 (x * ((m : Int) - 1 - (k : Int)) + y * (k : Int) - 900), .int .i64 (x * ((m : Int) - 1 - (k : Int)) + y * (k : Int) + p * ((m : Int) - 1 - (k : Int)) + z * (k : Int) - 900)] 69)
        have hn4 := (Blk.new V3 (.cells #[.int .i64 (x * ((m : Int) - 1 - (k : Int)) + y * (k : Int) - 900), .int .i64 (x * ((m : Int) - 1 - (k : Int)) + y * (k : Int) + p * ((m : Int) - 1 - (k : Int)) + z * (k : Int) - 900)] 69)).cell
        generalize V3.alloc (.cells #[.int .i64 (x * ((m : Int) - 1 - (k : Int)) + y * (k : Int) - 900), .int .i64 (x * ((m : Int) - 1 - (k : Int)) + y * (k : Int) + p * ((m : Int) - 1 - (k : Int)) + z * (k : Int) - 900)] 69) = V4 at *
        replace RA := Lib.hid (owns_below RA.out hbA)
        replace RE := Lib.hid (owns_below RE.out hbA)
        replace X := Lib.hid (X.out.below hbA)
        replace BL := Lib.hid (bC BL.out hbA)
        clear hbA
        clear c0
        have c0 : V4.cell? ⟨w.heap.size, 0, none⟩ = some (.slice a1 n1 c1) := by rw [X.out.cell]; rfl
        clear c1x
        have c1x : V4.cell? ⟨w.heap.size, 1, none⟩ = some (.slice a2 n2 c2) := by rw [X.out.cell]; rfl
        refine hK.out _ _ (fun _ => ⟨c0, c1x⟩) (fun _ => ?_)
        clear hK K
        try simp only [Act.put]
        have HN4 := Lib.hid (cells_pair (by rw [hn4 0]; rfl) (by rw [hn4 1]; rfl))
        clear hn4
        refine wpAnyT_ready [28] (by kernel_rfl) (by simp) ?_
        refine AllReadyT.cons rfl (fun K hK => ?_) AllReadyT.nil
        refine Eq.mpr (if_pos ?_) ?_
        · rfl
        have hsz4 := BL.out.size
        refine wp_append_own _ _ _ 23 rfl w.heap.size 69 ir (.agg #[.int .i64 0, .int .i64 0]) 2 16 undR IR.out K0.out K1.out K2.out rfl (by decide) _ _ _ rfl RE.out ⟨V3.heap.size, 0, none⟩ 1 1 [.int .i64 (x * ((m : Int) - 1 - (k : Int)) + y * (k : Int) - 900), .int .i64 (x * ((m : Int) - 1 - (k : Int)) + y * (k : Int) + p * ((m : Int) - 1 - (k : Int)) + z * (k : Int) - 900)] rfl rfl HN4.out (by intro u hu; simp only [List.mem_cons, List.not_mem_nil, or_false] at hu; rcases hu with rfl | rfl <;> rfl) (by unfold maxLen; omega) (by omega) (by omega) ?_
        intro v2 V5 own gr _
        replace X := Lib.hid (X.out.grown RE.out (by decide) gr)
        replace RA := Lib.hid (owns_grown RE.out RA.out (by decide) gr)
        replace BL := Lib.hid (below_owns RE.out gr BL.out hsz4)
        replace RE := Lib.hid own
        clear own gr HN4 hsz4
        clear c0
        have c0 : V5.cell? ⟨w.heap.size, 0, none⟩ = some (.slice a1 n1 c1) := by rw [X.out.cell]; rfl
        clear c1x
        have c1x : V5.cell? ⟨w.heap.size, 1, none⟩ = some (.slice a2 n2 c2) := by rw [X.out.cell]; rfl
        refine hK.out _ _ (fun _ => ⟨c0, c1x⟩) (fun _ => ?_)
        clear hK K
        try simp only [Act.put]
        refine wpAnyT_chain (fuel := 3) rfl (by kernel_rfl) ?_
        simp only [List.drop_succ_cons, List.drop_zero]
        clear hS inv c0 c1x
        obtain ⟨a3, n3, c3, rfl⟩ := (Row.of_owns RA.out).slice
        obtain ⟨a4, n4, c4, rfl⟩ := (Row.of_owns RE.out).slice
        have x0 := X.out.cell 0
        have x1 := X.out.cell 1
        have z0 := X.out.frozen 0
        have z1 := X.out.frozen 1
        have xl := X.out.lt
        simp at x0 x1
        have U := (X.out.set (j := 0) (.slice a3 n3 c3)).set (j := 1) (.slice a4 n4 c4)
        simp only [List.setIfInBounds_toArray, List.set_cons_zero, List.set_cons_succ] at U
        replace RA := Lib.hid (owns_set (owns_set RA.out X.out (by decide) 0 (.slice a3 n3 c3)) (X.out.set (j := 0) (.slice a3 n3 c3)) (by decide) 1 (.slice a4 n4 c4))
        replace RE := Lib.hid (owns_set (owns_set RE.out X.out (by decide) 0 (.slice a3 n3 c3)) (X.out.set (j := 0) (.slice a3 n3 c3)) (by decide) 1 (.slice a4 n4 c4))
        replace BL := Lib.hid ((BL.out.setCell (p := ⟨w.heap.size, 0, none⟩) (Nat.le_refl _) (.slice a3 n3 c3)).setCell (p := ⟨w.heap.size, 1, none⟩) (Nat.le_refl _) (.slice a4 n4 c4))
        replace X := Lib.hid U
        clear U
        go_wp2
        go_roundw
        case rel =>
          refine ⟨k + 1, .slice a3 n3 c3, .slice a4 n4 c4, by go_num, by omega, ?_, ?_, X.out, BL.out⟩
          · rw [upto_snoc, List.map_append]
            exact RA.out
          · rw [upto_snoc, pairCells_snoc]
            exact RE.out
        case measure => simp [intOf]; omega
      · obtain rfl : k = m := by omega
        have HV : Hid (LogAt wr (.agg #[.slice a1 n1 c1, .slice a2 n2 c2]) LG) := Lib.hid ⟨_, _, rfl, by
            rw [← HLG.out]
            have := Row.ints (l := upto (strF a st) k) (by rw [upto_len]; exact Row.of_owns RA.out)
            exact this, by
            rw [← HLG.out]
            have := Row.pairs (l := upto (strG k x y p z) k) (by rw [upto_len]; exact Row.of_owns RE.out)
            exact this⟩
        have HL0 := X
        have HB0 := Lib.hid (Below.refl wr.heap.size wr)
        have HNW := Lib.hid (HN.out.below BL.out)
        have ht : decide ((k : Int) < (k : Int)) = false := by simp
        have bm := BM.out
        have r9 : IntKind.i64.wrap ((k : Int) - 1) = (k : Int) - 1 := IntWalk.i64_in _ (by omega)
        clear X RA RE bm
        have Lc0 := HL0.out.cell 0
        have Lc1 := HL0.out.cell 1
        simp at Lc0 Lc1
        have Ll := HL0.out.lt
        go_wp2_with fail
        clear Lc0 Lc1 Ll
        refine (HF.out _ _ (HV.out.below HB0.out)).mono ?_
        rintro e w1x ⟨rfl, hb⟩
        have HB1 := Lib.hid (bC HB0.out hb)
        have HL1 := Lib.hid (HL0.out.below hb)
        clear hb HB0 HL0
        have Lc0 := HL1.out.cell 0
        have Lc1 := HL1.out.cell 1
        simp at Lc0 Lc1
        have Ll := HL1.out.lt
        go_wp2_with fail
        clear Lc0 Lc1 Ll
        refine (HBG.out _ _ (HNW.out.below HB1.out) (HV.out.below HB1.out)).mono ?_
        rintro e w2x ⟨rfl, hb⟩
        have HB2 := Lib.hid (bC HB1.out hb)
        have HL2 := Lib.hid (HL1.out.below hb)
        clear hb HB1 HL1
        go_wp2_with fail
        have hP := Blk.new w2x (.cells #[.int .i64 n, .int .i64 d] 31)
        have hA := below1 w2x (.cells #[.int .i64 n, .int .i64 d] 31)
        generalize w2x.alloc (.cells #[.int .i64 n, .int .i64 d] 31) = W2x at *
        have HP3 := Lib.hid hP
        clear hP
        have HB3 := Lib.hid (bC HB2.out hA)
        have HL3 := Lib.hid (HL2.out.below hA)
        clear hA HB2 HL2
        have e0 := HP3.out.cell 0
        have e1 := HP3.out.cell 1
        simp at e0 e1
        have g1 := fun d os => cell_regrown e0 d os
        have g2 := fun d os => cell_regrown e1 d os
        have hk := fun (dr : Nat) (os : Array Obj) => Calls.regrown_of (HBY.out (grow (redrawn W2x dr) os))
        have heq := fun w => pair_eq n d w
        refine wp_region_tail 13 (by kernel_rfl) (by kernel_rfl) ?_
        repeat (quiet_step ((go_at_call 51; exact hk _ _)))
        refine wpQuiet_nil ?_
        intro _ hw'
        obtain ⟨⟨dq, osq⟩, hw''⟩ := hw'
        subst hw''
        simp only [List.drop_succ_cons, List.drop_zero]
        have HB4 := Lib.hid (bC HB3.out (below_regrown W2x dq osq))
        clear g1 g2 hk heq e0 e1 HP3 HL3
        generalize grow (redrawn W2x dq) osq = w6 at *
        go_wp2_with fail
        refine (Works_any _ (HNW.out.below HB4.out)).mono ?_
        rintro e w7 ⟨rfl, hb⟩
        have HB5 := Lib.hid (bC HB4.out hb)
        go_wp2_with fail
        go_ret
        exact ⟨rfl, bC BL.out HB5.out⟩
  · have HF : Hid (∀ W va, LogAt W va LG → Calls Tryd.prog 41 #[va] W (Gets (.bool false) W)) := Lib.hid (fun W va h => by have := fine_any va LG W h; rw [decide_eq_false h0] at this; exact this)
    have HLG := Lib.hid hLG
    clear hLG h0
    go_enter Tryd.func16, Tryd.ntmps16
    go_wp2_with fail
    clear ha hs0 hx hy hp hz hm7 hst hm ra rs0 rx ry rp rz rm7 rst
    go_loopw [23] (fun i wr => ∃ (k : Nat) (va ve : Value), i = .int .i64 (k : Int) ∧ k ≤ m ∧ wr.ownsRow w.heap.size 2 1 va k ((upto (strF a st) k).map (Value.int .i64)) ∧ wr.ownsRow w.heap.size 69 2 ve k (pairCells (upto (strG m x y p z) k)) ∧ Blk wr w.heap.size (.cells #[va, ve] 25) ∧ Below w.heap.size w wr) (fun i _ => m - (intOf i).toNat)
    case atStart =>
      have b4 := Blk.new w (.cells #[.slice none 0 0, .slice none 0 0] 25)
      exact ⟨0, .slice none 0 0, .slice none 0 0, rfl, Nat.zero_le _, ⟨rfl, .inl ⟨rfl, rfl⟩⟩, ⟨rfl, .inl ⟨rfl, rfl⟩⟩, b4, below1 _ _⟩
    case round =>
      rename_i wr
      obtain ⟨k, va, ve, rfl, hk, hra, hre, hX, hB⟩ := hrel
      obtain ⟨a1, n1, c1, rfl⟩ := (Row.of_owns hra).slice
      obtain ⟨a2, n2, c2, rfl⟩ := (Row.of_owns hre).slice
      have RA := Lib.hid hra
      have RE := Lib.hid hre
      have X := Lib.hid hX
      have BL := Lib.hid hB
      have hx0 : w.heap.size < wr.heap.size := hX.lt
      clear hra hre hX hB
      by_cases hlt : k < m
      · have bm := BM.out
        have ba := BA.out
        have bst := BST.out
        have bx := BX.out
        have by_ := BY.out
        have bp := BP.out
        have bz := BZ.out
        have q1 := mulN (a := x) (b := (m : Int) - 1 - (k : Int)) (A := 99) (B := 7) (by omega) (by omega) (by omega) (by omega)
        have q2 := mulN (a := y) (b := (k : Int)) (A := 99) (B := 7) (by omega) (by omega) (by omega) (by omega)
        have q3 := mulN (a := p) (b := (m : Int) - 1 - (k : Int)) (A := 99) (B := 7) (by omega) (by omega) (by omega) (by omega)
        have q4 := mulN (a := z) (b := (k : Int)) (A := 99) (B := 7) (by omega) (by omega) (by omega) (by omega)
        have q5 := mulN (a := st) (b := (k : Int)) (A := 10) (B := 7) (by omega) (by omega) (by omega) (by omega)
        have w1 : IntKind.i64.wrap ((m : Int) - 1) = (m : Int) - 1 := IntWalk.i64_in _ (by omega)
        have w2 : IntKind.i64.wrap ((m : Int) - 1 - (k : Int)) = (m : Int) - 1 - (k : Int) := IntWalk.i64_in _ (by omega)
        have w3 : IntKind.i64.wrap (x * ((m : Int) - 1 - (k : Int))) = x * ((m : Int) - 1 - (k : Int)) := IntWalk.i64_in _ (by omega)
        have w4 : IntKind.i64.wrap (y * (k : Int)) = y * (k : Int) := IntWalk.i64_in _ (by omega)
        have w5 : IntKind.i64.wrap (x * ((m : Int) - 1 - (k : Int)) + y * (k : Int)) = x * ((m : Int) - 1 - (k : Int)) + y * (k : Int) := IntWalk.i64_in _ (by omega)
        have w6 : IntKind.i64.wrap (x * ((m : Int) - 1 - (k : Int)) + y * (k : Int) - 900) = x * ((m : Int) - 1 - (k : Int)) + y * (k : Int) - 900 := IntWalk.i64_in _ (by omega)
        have w7 : IntKind.i64.wrap (p * ((m : Int) - 1 - (k : Int))) = p * ((m : Int) - 1 - (k : Int)) := IntWalk.i64_in _ (by omega)
        have w8 : IntKind.i64.wrap (x * ((m : Int) - 1 - (k : Int)) + y * (k : Int) + p * ((m : Int) - 1 - (k : Int))) = x * ((m : Int) - 1 - (k : Int)) + y * (k : Int) + p * ((m : Int) - 1 - (k : Int)) := IntWalk.i64_in _ (by omega)
        have w9 : IntKind.i64.wrap (z * (k : Int)) = z * (k : Int) := IntWalk.i64_in _ (by omega)
        have w10 : IntKind.i64.wrap (x * ((m : Int) - 1 - (k : Int)) + y * (k : Int) + p * ((m : Int) - 1 - (k : Int)) + z * (k : Int)) = x * ((m : Int) - 1 - (k : Int)) + y * (k : Int) + p * ((m : Int) - 1 - (k : Int)) + z * (k : Int) := IntWalk.i64_in _ (by omega)
        have w11 : IntKind.i64.wrap (x * ((m : Int) - 1 - (k : Int)) + y * (k : Int) + p * ((m : Int) - 1 - (k : Int)) + z * (k : Int) - 900) = x * ((m : Int) - 1 - (k : Int)) + y * (k : Int) + p * ((m : Int) - 1 - (k : Int)) + z * (k : Int) - 900 := IntWalk.i64_in _ (by omega)
        have w12 : IntKind.i64.wrap (st * (k : Int)) = st * (k : Int) := IntWalk.i64_in _ (by omega)
        have w13 : IntKind.i64.wrap (a + st * (k : Int)) = a + st * (k : Int) := IntWalk.i64_in _ (by omega)
        have hk8 : k ≤ 8 := by omega
        have w14 : IntKind.i64.wrap ((k : Int) + 1) = (k : Int) + 1 := IntWalk.i64_in _ (by omega)
        have ht : decide ((k : Int) < (m : Int)) = true := by simp; omega
        clear q1 q2 q3 q4 q5 bm ba bst bx by_ bp bz
        go_wp2_with fail
        have c0 : wr.cell? ⟨w.heap.size, 0, none⟩ = some (.slice a1 n1 c1) := by rw [X.out.cell]; rfl
        have c1x : wr.cell? ⟨w.heap.size, 1, none⟩ = some (.slice a2 n2 c2) := by rw [X.out.cell]; rfl
        refine wp_region_T 30 (fun W' => W'.cell? ⟨w.heap.size, 0, none⟩ = some (.slice a1 n1 c1) ∧ W'.cell? ⟨w.heap.size, 1, none⟩ = some (.slice a2 n2 c2)) (by kernel_rfl) (by kernel_rfl) ⟨c0, c1x⟩ ?_
        intro inv hS
        have hbD : Below wr.heap.size wr wr.drew := (Below.refl _ _).drew
        generalize wr.drew = V0 at *
        replace RA := Lib.hid (owns_below RA.out hbD)
        replace RE := Lib.hid (owns_below RE.out hbD)
        replace X := Lib.hid (X.out.below hbD)
        replace BL := Lib.hid (bC BL.out hbD)
        clear hbD
        clear c0
        have c0 : V0.cell? ⟨w.heap.size, 0, none⟩ = some (.slice a1 n1 c1) := by rw [X.out.cell]; rfl
        clear c1x
        have c1x : V0.cell? ⟨w.heap.size, 1, none⟩ = some (.slice a2 n2 c2) := by rw [X.out.cell]; rfl
        refine wpAnyT_take inv (by kernel_rfl) (by omega) (i := 0) (v := .pointer (some ⟨w.heap.size, 0, none⟩)) rfl (by kernel_rfl) (by kernel_rfl) (fun _ _ _ h => h) (Or.inl ⟨by kernel_rfl, ?_⟩) (by assumption) ?_
        · rintro W' ⟨s0, s1⟩
          go_simp
        intro inv2
        clear inv
        have inv := inv2
        clear inv2
        simp only [Act.put, List.setIfInBounds_toArray]
        refine wpAnyT_take inv (by kernel_rfl) (by omega) (i := 1) (v := .slice a1 n1 c1) rfl (by kernel_rfl) (by kernel_rfl) (fun _ _ _ h => h) (Or.inl ⟨by kernel_rfl, ?_⟩) (by assumption) ?_
        · rintro W' ⟨s0, s1⟩
          go_simp
        intro inv2
        clear inv
        have inv := inv2
        clear inv2
        simp only [Act.put]
        refine wpAnyT_take inv (by kernel_rfl) (by omega) (i := 2) (v := .int .i64 (a)) rfl (by kernel_rfl) (by kernel_rfl) (fun _ _ _ h => h) (Or.inl ⟨by kernel_rfl, ?_⟩) (by assumption) ?_
        · rintro W' ⟨s0, s1⟩
          go_simp
        intro inv2
        clear inv
        have inv := inv2
        clear inv2
        simp only [Act.put]
        refine wpAnyT_take inv (by kernel_rfl) (by omega) (i := 3) (v := .int .i64 (st)) rfl (by kernel_rfl) (by kernel_rfl) (fun _ _ _ h => h) (Or.inl ⟨by kernel_rfl, ?_⟩) (by assumption) ?_
        · rintro W' ⟨s0, s1⟩
          go_simp
        intro inv2
        clear inv
        have inv := inv2
        clear inv2
        simp only [Act.put]
        refine wpAnyT_take inv (by kernel_rfl) (by omega) (i := 4) (v := .int .i64 ((k : Int))) rfl (by kernel_rfl) (by kernel_rfl) (fun _ _ _ h => h) (Or.inl ⟨by kernel_rfl, ?_⟩) (by assumption) ?_
        · rintro W' ⟨s0, s1⟩
          go_simp
        intro inv2
        clear inv
        have inv := inv2
        clear inv2
        simp only [Act.put]
        refine wpAnyT_take inv (by kernel_rfl) (by omega) (i := 5) (v := .int .i64 (st * (k : Int))) rfl (by kernel_rfl) (by kernel_rfl) (fun _ _ _ h => h) (Or.inl ⟨by kernel_rfl, ?_⟩) (by assumption) ?_
        · rintro W' ⟨s0, s1⟩
          go_simp
        intro inv2
        clear inv
        have inv := inv2
        clear inv2
        simp only [Act.put]
        refine wpAnyT_take inv (by kernel_rfl) (by omega) (i := 6) (v := .int .i64 (a + st * (k : Int))) rfl (by kernel_rfl) (by kernel_rfl) (fun _ _ _ h => h) (Or.inl ⟨by kernel_rfl, ?_⟩) (by assumption) ?_
        · rintro W' ⟨s0, s1⟩
          go_simp
        intro inv2
        clear inv
        have inv := inv2
        clear inv2
        simp only [Act.put]
        refine wpAnyT_take inv (by kernel_rfl) (by omega) (i := 9) (v := .pointer (some ⟨w.heap.size, 1, none⟩)) rfl (by kernel_rfl) (by kernel_rfl) (fun _ _ _ h => h) (Or.inl ⟨by kernel_rfl, ?_⟩) (by assumption) ?_
        · rintro W' ⟨s0, s1⟩
          go_simp
        intro inv2
        clear inv
        have inv := inv2
        clear inv2
        simp only [Act.put]
        refine wpAnyT_take inv (by kernel_rfl) (by omega) (i := 10) (v := .slice a2 n2 c2) rfl (by kernel_rfl) (by kernel_rfl) (fun _ _ _ h => h) (Or.inl ⟨by kernel_rfl, ?_⟩) (by assumption) ?_
        · rintro W' ⟨s0, s1⟩
          go_simp
        intro inv2
        clear inv
        have inv := inv2
        clear inv2
        simp only [Act.put]
        refine wpAnyT_take inv (by kernel_rfl) (by omega) (i := 11) (v := .int .i64 (x * ((m : Int) - 1 - (k : Int)) + y * (k : Int))) rfl (by kernel_rfl) (by kernel_rfl) (fun _ _ _ h => h) (Or.inl ⟨by kernel_rfl, ?_⟩) (by assumption) ?_
        · rintro W' ⟨s0, s1⟩
          go_simp
        intro inv2
        clear inv
        have inv := inv2
        clear inv2
        simp only [Act.put]
        refine wpAnyT_take inv (by kernel_rfl) (by omega) (i := 12) (v := .int .i64 (x * ((m : Int) - 1 - (k : Int)) + y * (k : Int) - 900)) rfl (by kernel_rfl) (by kernel_rfl) (fun _ _ _ h => h) (Or.inl ⟨by kernel_rfl, ?_⟩) (by assumption) ?_
        · rintro W' ⟨s0, s1⟩
          go_simp
        intro inv2
        clear inv
        have inv := inv2
        clear inv2
        simp only [Act.put]
        refine wpAnyT_take inv (by kernel_rfl) (by omega) (i := 13) (v := .int .i64 (x * ((m : Int) - 1 - (k : Int)) + y * (k : Int))) rfl (by kernel_rfl) (by kernel_rfl) (fun _ _ _ h => h) (Or.inl ⟨by kernel_rfl, ?_⟩) (by assumption) ?_
        · rintro W' ⟨s0, s1⟩
          go_simp
        intro inv2
        clear inv
        have inv := inv2
        clear inv2
        simp only [Act.put]
        refine wpAnyT_take inv (by kernel_rfl) (by omega) (i := 14) (v := .int .i64 (p)) rfl (by kernel_rfl) (by kernel_rfl) (fun _ _ _ h => h) (Or.inl ⟨by kernel_rfl, ?_⟩) (by assumption) ?_
        · rintro W' ⟨s0, s1⟩
          go_simp
        intro inv2
        clear inv
        have inv := inv2
        clear inv2
        simp only [Act.put]
        refine wpAnyT_take inv (by kernel_rfl) (by omega) (i := 15) (v := .int .i64 ((m : Int))) rfl (by kernel_rfl) (by kernel_rfl) (fun _ _ _ h => h) (Or.inl ⟨by kernel_rfl, ?_⟩) (by assumption) ?_
        · rintro W' ⟨s0, s1⟩
          go_simp
        intro inv2
        clear inv
        have inv := inv2
        clear inv2
        simp only [Act.put]
        refine wpAnyT_take inv (by kernel_rfl) (by omega) (i := 16) (v := .int .i64 ((m : Int) - 1)) rfl (by kernel_rfl) (by kernel_rfl) (fun _ _ _ h => h) (Or.inl ⟨by kernel_rfl, ?_⟩) (by assumption) ?_
        · rintro W' ⟨s0, s1⟩
          go_simp
        intro inv2
        clear inv
        have inv := inv2
        clear inv2
        simp only [Act.put]
        refine wpAnyT_take inv (by kernel_rfl) (by omega) (i := 17) (v := .int .i64 ((k : Int))) rfl (by kernel_rfl) (by kernel_rfl) (fun _ _ _ h => h) (Or.inl ⟨by kernel_rfl, ?_⟩) (by assumption) ?_
        · rintro W' ⟨s0, s1⟩
          go_simp
        intro inv2
        clear inv
        have inv := inv2
        clear inv2
        simp only [Act.put]
        refine wpAnyT_take inv (by kernel_rfl) (by omega) (i := 18) (v := .int .i64 ((m : Int) - 1 - (k : Int))) rfl (by kernel_rfl) (by kernel_rfl) (fun _ _ _ h => h) (Or.inl ⟨by kernel_rfl, ?_⟩) (by assumption) ?_
        · rintro W' ⟨s0, s1⟩
          go_simp
        intro inv2
        clear inv
        have inv := inv2
        clear inv2
        simp only [Act.put]
        refine wpAnyT_take inv (by kernel_rfl) (by omega) (i := 19) (v := .int .i64 (p * ((m : Int) - 1 - (k : Int)))) rfl (by kernel_rfl) (by kernel_rfl) (fun _ _ _ h => h) (Or.inl ⟨by kernel_rfl, ?_⟩) (by assumption) ?_
        · rintro W' ⟨s0, s1⟩
          go_simp
        intro inv2
        clear inv
        have inv := inv2
        clear inv2
        simp only [Act.put]
        refine wpAnyT_take inv (by kernel_rfl) (by omega) (i := 20) (v := .int .i64 (x * ((m : Int) - 1 - (k : Int)) + y * (k : Int) + p * ((m : Int) - 1 - (k : Int)))) rfl (by kernel_rfl) (by kernel_rfl) (fun _ _ _ h => h) (Or.inl ⟨by kernel_rfl, ?_⟩) (by assumption) ?_
        · rintro W' ⟨s0, s1⟩
          go_simp
        intro inv2
        clear inv
        have inv := inv2
        clear inv2
        simp only [Act.put]
        refine wpAnyT_take inv (by kernel_rfl) (by omega) (i := 21) (v := .int .i64 (z)) rfl (by kernel_rfl) (by kernel_rfl) (fun _ _ _ h => h) (Or.inl ⟨by kernel_rfl, ?_⟩) (by assumption) ?_
        · rintro W' ⟨s0, s1⟩
          go_simp
        intro inv2
        clear inv
        have inv := inv2
        clear inv2
        simp only [Act.put]
        refine wpAnyT_take inv (by kernel_rfl) (by omega) (i := 22) (v := .int .i64 ((k : Int))) rfl (by kernel_rfl) (by kernel_rfl) (fun _ _ _ h => h) (Or.inl ⟨by kernel_rfl, ?_⟩) (by assumption) ?_
        · rintro W' ⟨s0, s1⟩
          go_simp
        intro inv2
        clear inv
        have inv := inv2
        clear inv2
        simp only [Act.put]
        refine wpAnyT_take inv (by kernel_rfl) (by omega) (i := 23) (v := .int .i64 (z * (k : Int))) rfl (by kernel_rfl) (by kernel_rfl) (fun _ _ _ h => h) (Or.inl ⟨by kernel_rfl, ?_⟩) (by assumption) ?_
        · rintro W' ⟨s0, s1⟩
          go_simp
        intro inv2
        clear inv
        have inv := inv2
        clear inv2
        simp only [Act.put]
        refine wpAnyT_take inv (by kernel_rfl) (by omega) (i := 24) (v := .int .i64 (x * ((m : Int) - 1 - (k : Int)) + y * (k : Int) + p * ((m : Int) - 1 - (k : Int)) + z * (k : Int))) rfl (by kernel_rfl) (by kernel_rfl) (fun _ _ _ h => h) (Or.inl ⟨by kernel_rfl, ?_⟩) (by assumption) ?_
        · rintro W' ⟨s0, s1⟩
          go_simp
        intro inv2
        clear inv
        have inv := inv2
        clear inv2
        simp only [Act.put]
        refine wpAnyT_take inv (by kernel_rfl) (by omega) (i := 25) (v := .int .i64 (x * ((m : Int) - 1 - (k : Int)) + y * (k : Int) + p * ((m : Int) - 1 - (k : Int)) + z * (k : Int) - 900)) rfl (by kernel_rfl) (by kernel_rfl) (fun _ _ _ h => h) (Or.inl ⟨by kernel_rfl, ?_⟩) (by assumption) ?_
        · rintro W' ⟨s0, s1⟩
          go_simp
        intro inv2
        clear inv
        have inv := inv2
        clear inv2
        simp only [Act.put]
        refine wpAnyT_ready [7] (by kernel_rfl) (by simp) ?_
        refine AllReadyT.cons rfl (fun K hK => ?_) AllReadyT.nil
        go_simp
        have hbA := below1 V0 (.cells #[.int .i64 (a + st * (k : Int))] 2)
        have hn1 := (Blk.new V0 (.cells #[.int .i64 (a + st * (k : Int))] 2)).cell
        generalize V0.alloc (.cells #[.int .i64 (a + st * (k : Int))] 2) = V1 at *
        replace RA := Lib.hid (owns_below RA.out hbA)
        replace RE := Lib.hid (owns_below RE.out hbA)
        replace X := Lib.hid (X.out.below hbA)
        replace BL := Lib.hid (bC BL.out hbA)
        clear hbA
        clear c0
        have c0 : V1.cell? ⟨w.heap.size, 0, none⟩ = some (.slice a1 n1 c1) := by rw [X.out.cell]; rfl
        clear c1x
        have c1x : V1.cell? ⟨w.heap.size, 1, none⟩ = some (.slice a2 n2 c2) := by rw [X.out.cell]; rfl
        refine hK.out _ _ (fun _ => ⟨c0, c1x⟩) (fun _ => ?_)
        clear hK K
        try simp only [Act.put]
        have HN1 := Lib.hid (cells_one (by rw [hn1 0]; rfl))
        clear hn1
        refine wpAnyT_ready [8] (by kernel_rfl) (by simp) ?_
        refine AllReadyT.cons rfl (fun K hK => ?_) AllReadyT.nil
        refine Eq.mpr (if_pos ?_) ?_
        · rfl
        have hsz1 := BL.out.size
        refine wp_append_own _ _ _ 22 rfl w.heap.size 2 ii (.int .i64 0) 1 8 undI II.out J0.out J1.out J2.out rfl (by decide) _ _ _ rfl RA.out ⟨V0.heap.size, 0, none⟩ 1 1 [.int .i64 (a + st * (k : Int))] rfl rfl HN1.out (by intro u hu; simp only [List.mem_cons, List.not_mem_nil, or_false] at hu; subst hu; rfl) (by unfold maxLen; omega) (by omega) (by omega) ?_
        intro v1 V2 own gr _
        replace X := Lib.hid (X.out.grown RA.out (by decide) gr)
        replace RE := Lib.hid (owns_grown RA.out RE.out (by decide) gr)
        replace BL := Lib.hid (below_owns RA.out gr BL.out hsz1)
        replace RA := Lib.hid own
        clear own gr HN1 hsz1
        clear c0
        have c0 : V2.cell? ⟨w.heap.size, 0, none⟩ = some (.slice a1 n1 c1) := by rw [X.out.cell]; rfl
        clear c1x
        have c1x : V2.cell? ⟨w.heap.size, 1, none⟩ = some (.slice a2 n2 c2) := by rw [X.out.cell]; rfl
        refine hK.out _ _ (fun _ => ⟨c0, c1x⟩) (fun _ => ?_)
        clear hK K
        try simp only [Act.put]
        replace inv := HeadM.step inv 7 (by kernel_rfl) (by omega)
        replace inv := HeadM.step inv 8 (by kernel_rfl) (by omega)
        clear hS
        have hS : V2.cell? ⟨w.heap.size, 0, none⟩ = some (.slice a1 n1 c1) ∧ V2.cell? ⟨w.heap.size, 1, none⟩ = some (.slice a2 n2 c2) := ⟨c0, c1x⟩
        refine wpAnyT_take inv (by kernel_rfl) (by omega) (i := 29) (v := .pointer (some ⟨w.heap.size, 0, none⟩)) rfl (by kernel_rfl) (by kernel_rfl) (fun _ _ _ h => h) (Or.inl ⟨by kernel_rfl, ?_⟩) (by assumption) ?_
        · rintro W' ⟨s0, s1⟩
          go_simp
        intro inv2
        clear inv
        have inv := inv2
        clear inv2
        simp only [Act.put, List.setIfInBounds_toArray]
        refine wpAnyT_ready [26] (by kernel_rfl) (by simp) ?_
        refine AllReadyT.cons rfl (fun K hK => ?_) AllReadyT.nil
        go_simp
        refine (to_any (x * ((m : Int) - 1 - (k : Int)) + y * (k : Int) - 900) (x * ((m : Int) - 1 - (k : Int)) + y * (k : Int) + p * ((m : Int) - 1 - (k : Int)) + z * (k : Int) - 900) _).mono ?_
        rintro e V3 ⟨rfl, hbC⟩
        replace RA := Lib.hid (owns_below RA.out hbC)
        replace RE := Lib.hid (owns_below RE.out hbC)
        replace X := Lib.hid (X.out.below hbC)
        replace BL := Lib.hid (bC BL.out hbC)
        clear hbC
        clear c0
        have c0 : V3.cell? ⟨w.heap.size, 0, none⟩ = some (.slice a1 n1 c1) := by rw [X.out.cell]; rfl
        clear c1x
        have c1x : V3.cell? ⟨w.heap.size, 1, none⟩ = some (.slice a2 n2 c2) := by rw [X.out.cell]; rfl
        refine hK.out _ _ (fun _ => ⟨c0, c1x⟩) (fun _ => ?_)
        clear hK K
        try simp only [Act.put]
        refine wpAnyT_ready [27] (by kernel_rfl) (by simp) ?_
        refine AllReadyT.cons rfl (fun K hK => ?_) AllReadyT.nil
        go_simp
        have hbA := below1 V3 (.cells #[.int .i64 (x * ((m : Int) - 1 - (k : Int)) + y * (k : Int) - 900), .int .i64 (x * ((m : Int) - 1 - (k : Int)) + y * (k : Int) + p * ((m : Int) - 1 - (k : Int)) + z * (k : Int) - 900)] 69)
        have hn4 := (Blk.new V3 (.cells #[.int .i64 (x * ((m : Int) - 1 - (k : Int)) + y * (k : Int) - 900), .int .i64 (x * ((m : Int) - 1 - (k : Int)) + y * (k : Int) + p * ((m : Int) - 1 - (k : Int)) + z * (k : Int) - 900)] 69)).cell
        generalize V3.alloc (.cells #[.int .i64 (x * ((m : Int) - 1 - (k : Int)) + y * (k : Int) - 900), .int .i64 (x * ((m : Int) - 1 - (k : Int)) + y * (k : Int) + p * ((m : Int) - 1 - (k : Int)) + z * (k : Int) - 900)] 69) = V4 at *
        replace RA := Lib.hid (owns_below RA.out hbA)
        replace RE := Lib.hid (owns_below RE.out hbA)
        replace X := Lib.hid (X.out.below hbA)
        replace BL := Lib.hid (bC BL.out hbA)
        clear hbA
        clear c0
        have c0 : V4.cell? ⟨w.heap.size, 0, none⟩ = some (.slice a1 n1 c1) := by rw [X.out.cell]; rfl
        clear c1x
        have c1x : V4.cell? ⟨w.heap.size, 1, none⟩ = some (.slice a2 n2 c2) := by rw [X.out.cell]; rfl
        refine hK.out _ _ (fun _ => ⟨c0, c1x⟩) (fun _ => ?_)
        clear hK K
        try simp only [Act.put]
        have HN4 := Lib.hid (cells_pair (by rw [hn4 0]; rfl) (by rw [hn4 1]; rfl))
        clear hn4
        refine wpAnyT_ready [28] (by kernel_rfl) (by simp) ?_
        refine AllReadyT.cons rfl (fun K hK => ?_) AllReadyT.nil
        refine Eq.mpr (if_pos ?_) ?_
        · rfl
        have hsz4 := BL.out.size
        refine wp_append_own _ _ _ 23 rfl w.heap.size 69 ir (.agg #[.int .i64 0, .int .i64 0]) 2 16 undR IR.out K0.out K1.out K2.out rfl (by decide) _ _ _ rfl RE.out ⟨V3.heap.size, 0, none⟩ 1 1 [.int .i64 (x * ((m : Int) - 1 - (k : Int)) + y * (k : Int) - 900), .int .i64 (x * ((m : Int) - 1 - (k : Int)) + y * (k : Int) + p * ((m : Int) - 1 - (k : Int)) + z * (k : Int) - 900)] rfl rfl HN4.out (by intro u hu; simp only [List.mem_cons, List.not_mem_nil, or_false] at hu; rcases hu with rfl | rfl <;> rfl) (by unfold maxLen; omega) (by omega) (by omega) ?_
        intro v2 V5 own gr _
        replace X := Lib.hid (X.out.grown RE.out (by decide) gr)
        replace RA := Lib.hid (owns_grown RE.out RA.out (by decide) gr)
        replace BL := Lib.hid (below_owns RE.out gr BL.out hsz4)
        replace RE := Lib.hid own
        clear own gr HN4 hsz4
        clear c0
        have c0 : V5.cell? ⟨w.heap.size, 0, none⟩ = some (.slice a1 n1 c1) := by rw [X.out.cell]; rfl
        clear c1x
        have c1x : V5.cell? ⟨w.heap.size, 1, none⟩ = some (.slice a2 n2 c2) := by rw [X.out.cell]; rfl
        refine hK.out _ _ (fun _ => ⟨c0, c1x⟩) (fun _ => ?_)
        clear hK K
        try simp only [Act.put]
        refine wpAnyT_chain (fuel := 3) rfl (by kernel_rfl) ?_
        simp only [List.drop_succ_cons, List.drop_zero]
        clear hS inv c0 c1x
        obtain ⟨a3, n3, c3, rfl⟩ := (Row.of_owns RA.out).slice
        obtain ⟨a4, n4, c4, rfl⟩ := (Row.of_owns RE.out).slice
        have x0 := X.out.cell 0
        have x1 := X.out.cell 1
        have z0 := X.out.frozen 0
        have z1 := X.out.frozen 1
        have xl := X.out.lt
        simp at x0 x1
        have U := (X.out.set (j := 0) (.slice a3 n3 c3)).set (j := 1) (.slice a4 n4 c4)
        simp only [List.setIfInBounds_toArray, List.set_cons_zero, List.set_cons_succ] at U
        replace RA := Lib.hid (owns_set (owns_set RA.out X.out (by decide) 0 (.slice a3 n3 c3)) (X.out.set (j := 0) (.slice a3 n3 c3)) (by decide) 1 (.slice a4 n4 c4))
        replace RE := Lib.hid (owns_set (owns_set RE.out X.out (by decide) 0 (.slice a3 n3 c3)) (X.out.set (j := 0) (.slice a3 n3 c3)) (by decide) 1 (.slice a4 n4 c4))
        replace BL := Lib.hid ((BL.out.setCell (p := ⟨w.heap.size, 0, none⟩) (Nat.le_refl _) (.slice a3 n3 c3)).setCell (p := ⟨w.heap.size, 1, none⟩) (Nat.le_refl _) (.slice a4 n4 c4))
        replace X := Lib.hid U
        clear U
        go_wp2
        go_roundw
        case rel =>
          refine ⟨k + 1, .slice a3 n3 c3, .slice a4 n4 c4, by go_num, by omega, ?_, ?_, X.out, BL.out⟩
          · rw [upto_snoc, List.map_append]
            exact RA.out
          · rw [upto_snoc, pairCells_snoc]
            exact RE.out
        case measure => simp [intOf]; omega
      · obtain rfl : k = m := by omega
        have HV : Hid (LogAt wr (.agg #[.slice a1 n1 c1, .slice a2 n2 c2]) LG) := Lib.hid ⟨_, _, rfl, by
            rw [← HLG.out]
            have := Row.ints (l := upto (strF a st) k) (by rw [upto_len]; exact Row.of_owns RA.out)
            exact this, by
            rw [← HLG.out]
            have := Row.pairs (l := upto (strG k x y p z) k) (by rw [upto_len]; exact Row.of_owns RE.out)
            exact this⟩
        have HL0 := X
        have HB0 := Lib.hid (Below.refl wr.heap.size wr)
        have HNW := Lib.hid (HN.out.below BL.out)
        have ht : decide ((k : Int) < (k : Int)) = false := by simp
        have bm := BM.out
        have r9 : IntKind.i64.wrap ((k : Int) - 1) = (k : Int) - 1 := IntWalk.i64_in _ (by omega)
        clear X RA RE bm
        have Lc0 := HL0.out.cell 0
        have Lc1 := HL0.out.cell 1
        simp at Lc0 Lc1
        have Ll := HL0.out.lt
        go_wp2_with fail
        clear Lc0 Lc1 Ll
        refine (HF.out _ _ (HV.out.below HB0.out)).mono ?_
        rintro e w1x ⟨rfl, hb⟩
        have HB1 := Lib.hid (bC HB0.out hb)
        have HL1 := Lib.hid (HL0.out.below hb)
        clear hb HB0 HL0
        go_wp2_with fail
        refine (Works_any _ (HNW.out.below HB1.out)).mono ?_
        rintro e w2x ⟨rfl, hb⟩
        have HB2 := Lib.hid (bC HB1.out hb)
        have HL2 := Lib.hid (HL1.out.below hb)
        clear hb HB1 HL1
        go_wp2_with fail
        go_ret
        exact ⟨rfl, bC BL.out HB2.out⟩
end Go.Proofs.YtkggjpdjjnnhaaaDoor
