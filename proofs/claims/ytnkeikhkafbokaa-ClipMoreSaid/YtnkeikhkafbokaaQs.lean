import Derived.Test.YtnkeikhkafbokaaQr
import Derived.Lib.SliceRun
namespace Go.Proofs.Ytnkeikhkafbokaa
open Go.RowKit Go.Dag Go.Sort Go.Shelf
attribute [local go_sem] Oper.semAt_some

/-! ## The program: a ribbon is put on the table -/
def markF (fs : List Int) (k : Nat) : Nat → Int := fun u => if (fs.take k).contains (u : Int) = true then 1 else 0
theorem markF_zero (fs : List Int) : markF fs 0 = fun _ => 0 := by
  funext u
  unfold markF
  simp
theorem markF_step {fs : List Int} {k f : Nat} (hk : k < fs.length) (hf : fs[k] = (f : Int)) : updF (markF fs k) f 1 = markF fs (k + 1) := by
  funext u
  unfold updF markF
  rw [List.take_succ_eq_append_getElem hk, hf]
  by_cases e : u = f
  · subst e
    simp
  · have e' : ¬ (u : Int) = (f : Int) := by omega
    rw [if_neg e]
    simp [e']
theorem markF_end (r : RibD) : (List.range r.len.toNat).map (markF r.fs r.fs.length) = marks r := by
  unfold marks markF isF
  rw [List.take_length]
theorem get_set_eq {cs : Array Value} {i : Nat} {v : Value} (h : i < cs.size) : (cs.setIfInBounds i v)[i]? = some v := by
  rw [Array.getElem?_setIfInBounds, if_pos rfl, if_pos h]
/-- A table whose ribbon is still to be put: its kinds, its map, its numbers, whatever they are. -/
def PreT (w : World) (T M : Nat) (ks : List KindD) : Prop :=
  ∃ (cs : Array Value) (kb koff kcap : Nat) (U Y : Nat → Int), Blk w T (.cells cs 84) ∧ cs.size = 55 ∧ cs[2]? = some (.slice (some ⟨kb, koff, none⟩) ks.length kcap) ∧ (∀ p, p < 25 → cs[4 + p]? = some (.int .i64 (U p))) ∧ (∀ p, p < 25 → cs[29 + p]? = some (.int .i64 (Y p))) ∧ cs[54]? = some (.map (some M)) ∧
    (∀ i (h : i < ks.length), w.cell? ⟨kb, koff + i * 3, none⟩ = some (.int .i64 ks[i].w) ∧ w.cell? ⟨kb, koff + i * 3 + 1, none⟩ = some (.int .i64 ks[i].p) ∧ w.cell? ⟨kb, koff + i * 3 + 2, none⟩ = some (.int .i64 ks[i].m)) ∧ kb ≠ T ∧ kb ≠ M ∧ T ≠ M ∧ M < w.heap.size
theorem TbAt.pre {w : World} {n₀ T M : Nat} {r : RibD} {ks : List KindD} {U Y : Nat → Int} (h : TbAt w n₀ T M r ks U Y) (hM : M < w.heap.size) : PreT w T M ks := by
  obtain ⟨cs, sv, kb, koff, kcap, q, mb, moff, mcap, h⟩ := h
  exact ⟨cs, kb, koff, kcap, U, Y, h.blk, h.tcs.size, h.tcs.e2, h.tcs.up, h.tcs.wy, h.tcs.mp, h.kin, h.nk.1, h.nk.2.1, h.nT.2.2, hM⟩
theorem TbAt.mono {w : World} {n₀ n₁ T M : Nat} {r : RibD} {ks : List KindD} {U Y : Nat → Int} (h : TbAt w n₀ T M r ks U Y) (hn : n₀ ≤ n₁) : TbAt w n₁ T M r ks U Y := by
  obtain ⟨cs, sv, kb, koff, kcap, q, mb, moff, mcap, h⟩ := h
  exact ⟨cs, sv, kb, koff, kcap, q, mb, moff, mcap, ⟨h.blk, h.tcs, h.kin, h.qc, h.mc, h.cap, h.cap2, ⟨h.nk.1, h.nk.2.1, by have := h.nk.2.2; omega⟩, ⟨h.nq.1, h.nq.2.1, by have := h.nq.2.2; omega⟩, ⟨h.nm.1, h.nm.2.1, by have := h.nm.2.2; omega⟩, ⟨by have := h.nT.1; omega, by have := h.nT.2.1; omega, h.nT.2.2⟩⟩⟩
theorem FrLM.trans {w W W' : World} {T M : Nat} (h : FrLM w T M W) (k : FrLM W T M W') : FrLM w T M W' :=
  ⟨Nat.le_trans h.size k.size, fun j hj h1 h2 => (k.same j (Nat.lt_of_lt_of_le hj h.size) h1 h2).trans (h.same j hj h1 h2), k.os.trans h.os, k.tape.trans h.tape, k.output.trans h.output⟩
/-- Sums that are cleared. -/
theorem TbAt.clearUp {w : World} {n₀ T M : Nat} {r : RibD} {ks : List KindD} {U Y : Nat → Int} (h : TbAt w n₀ T M r ks U Y) {w0 : World} (hF : FrLM w0 T M w) {S : SK → Prop} (hM : MapIs w M S) : ∀ (m p : Nat), p + m ≤ 25 →
    TbAt (w.setCells T (4 + p) (List.replicate m (.int .i64 0))) n₀ T M r ks (fun q => if p ≤ q ∧ q < p + m then 0 else U q) Y ∧ FrLM w0 T M (w.setCells T (4 + p) (List.replicate m (.int .i64 0))) ∧ MapIs (w.setCells T (4 + p) (List.replicate m (.int .i64 0))) M S := by
  intro m
  induction m generalizing w U with
  | zero =>
    intro p hp
    refine ⟨?_, hF, hM⟩
    have e : (fun q => if p ≤ q ∧ q < p + 0 then 0 else U q) = U := by funext q; rw [if_neg (by omega)]
    rw [e]
    exact h
  | succ m ih =>
    intro p hp
    have hTM := h.lt.2.2.2
    rw [List.replicate_succ, World.setCells]
    have h1 := ih (h.setUp (p := p) (by omega) 0) (hF.setT _ _) (hM.other (fun e => hTM e.symm) _) (p + 1) (by omega)
    rw [show 4 + (p + 1) = 4 + p + 1 by omega] at h1
    refine ⟨?_, h1.2⟩
    have e : (fun q => if p ≤ q ∧ q < p + (m + 1) then 0 else U q) = fun q => if p + 1 ≤ q ∧ q < p + 1 + m then 0 else updF U p 0 q := by
      funext q
      unfold updF
      by_cases c1 : q = p
      · subst c1; rw [if_pos (by omega), if_neg (by omega), if_pos rfl]
      · by_cases c2 : p ≤ q ∧ q < p + (m + 1)
        · rw [if_pos c2, if_pos (by omega)]
        · rw [if_neg c2, if_neg (by omega), if_neg c1]
    rw [e]
    exact h1.1
theorem TbAt.clearWy {w : World} {n₀ T M : Nat} {r : RibD} {ks : List KindD} {U Y : Nat → Int} (h : TbAt w n₀ T M r ks U Y) {w0 : World} (hF : FrLM w0 T M w) {S : SK → Prop} (hM : MapIs w M S) : ∀ (m p : Nat), p + m ≤ 25 →
    TbAt (w.setCells T (29 + p) (List.replicate m (.int .i64 0))) n₀ T M r ks U (fun q => if p ≤ q ∧ q < p + m then 0 else Y q) ∧ FrLM w0 T M (w.setCells T (29 + p) (List.replicate m (.int .i64 0))) ∧ MapIs (w.setCells T (29 + p) (List.replicate m (.int .i64 0))) M S := by
  intro m
  induction m generalizing w Y with
  | zero =>
    intro p hp
    refine ⟨?_, hF, hM⟩
    have e : (fun q => if p ≤ q ∧ q < p + 0 then 0 else Y q) = Y := by funext q; rw [if_neg (by omega)]
    rw [e]
    exact h
  | succ m ih =>
    intro p hp
    have hTM := h.lt.2.2.2
    rw [List.replicate_succ, World.setCells]
    have h1 := ih (h.setWy (p := p) (by omega) 0) (hF.setT _ _) (hM.other (fun e => hTM e.symm) _) (p + 1) (by omega)
    rw [show 29 + (p + 1) = 29 + p + 1 by omega] at h1
    refine ⟨?_, h1.2⟩
    have e : (fun q => if p ≤ q ∧ q < p + (m + 1) then 0 else Y q) = fun q => if p + 1 ≤ q ∧ q < p + 1 + m then 0 else updF Y p 0 q := by
      funext q
      unfold updF
      by_cases c1 : q = p
      · subst c1; rw [if_pos (by omega), if_neg (by omega), if_pos rfl]
      · by_cases c2 : p ≤ q ∧ q < p + (m + 1)
        · rw [if_pos c2, if_pos (by omega)]
        · rw [if_neg c2, if_neg (by omega), if_neg c1]
    rw [e]
    exact h1.1
/-- The numbers are asked for up to 24 only. -/
theorem TbAt.same {w : World} {n₀ T M : Nat} {r : RibD} {ks : List KindD} {U Y U' Y' : Nat → Int} (h : TbAt w n₀ T M r ks U Y) (hU : ∀ p, p < 25 → U p = U' p) (hY : ∀ p, p < 25 → Y p = Y' p) : TbAt w n₀ T M r ks U' Y' := by
  obtain ⟨cs, sv, kb, koff, kcap, q, mb, moff, mcap, h⟩ := h
  exact ⟨cs, sv, kb, koff, kcap, q, mb, moff, mcap, ⟨h.blk, ⟨h.tcs.size, h.tcs.e0, h.tcs.e1, h.tcs.e2, h.tcs.e3, fun p hp => by rw [← hU p hp]; exact h.tcs.up p hp, fun p hp => by rw [← hY p hp]; exact h.tcs.wy p hp, h.tcs.mp⟩, h.kin, h.qc, h.mc, h.cap, h.cap2, h.nk, h.nq, h.nm, h.nT⟩⟩
theorem MapIs.clear {W : World} {M : Nat} {S : SK → Prop} (h : MapIs W M S) : ∃ o, (∀ ty, (Builtin.clear_ #[82] ty #[.map (some M)]).run Try.prog W = .ok (.tuple #[]) (W.putObj M o)) ∧ MapIs (W.putObj M o) M (fun _ => False) := by
  obtain ⟨es, c, h⟩ := h
  exact ⟨_, fun ty => run_clear_map (ty := ty) Try.underlying82 h.blk, .empty c (World.putObj_heap_same h.blk.lt)⟩
theorem clear25 (W : World) (T o : Nat) (ty : TypeId) (hc : ∀ j, j < 25 → (W.cell? ⟨T, o + j, none⟩).isSome = true) (hf : ∀ j, j < 25 → W.frozen? ⟨T, o + j, none⟩ = false) :
    (Builtin.clear_ #[39] ty #[.slice (some ⟨T, o, none⟩) 25 25]).run Try.prog W = .ok (.tuple #[]) (W.setCells T o (List.replicate 25 (.int .i64 0))) :=
  Lib.run_clear_slice W 39 2 ty (.int .i64 0) Try.underlying39 (fun w => by kernel_rfl) rfl rfl T o 25 25 (by omega) hc hf

/-- While the faults are marked: the table, its map, the marks. -/
def PuL (w : World) (T M mk L : Nat) (c1 : Array Value) (S : SK → Prop) (f : Nat → Int) (wr : World) : Prop :=
  Blk wr T (.cells c1 84) ∧ MapIs wr M S ∧ FrLM w T M wr ∧ ArrAt wr mk L 2 f
set_option maxRecDepth 100000 in
set_option maxHeartbeats 8000000 in
theorem put_any (T M : Nat) (v : Value) (r : RibD) (ks : List KindD) (S : SK → Prop) (w : World) (hv : RibAt w v r) (hap : ∀ b off n c x, v = .agg #[x, .slice (some ⟨b, off, none⟩) n c] → r.fs ≠ [] → b ≠ T ∧ b ≠ M)
    (hp : PreT w T M ks) (hM : MapIs w M S) (hr : RibOk r) (hks : KindsOk ks) :
    Calls Try.prog 75 #[.pointer (some ⟨T, 0, none⟩), v] w fun e w' => (∃ v, e = .returned v) ∧ TbAt w' w'.heap.size T M r ks (Ux (tabOf r ks) (r.len.toNat + 1)) (Wx (tabOf r ks) 0) ∧ MapIs w' M (Bx (tabOf r ks) 0) ∧ FrLM w T M w' := by
  obtain ⟨sv, rfl, hi⟩ := hv
  obtain ⟨sa, cap, rfl⟩ := hi.slice
  obtain ⟨cs, kb, koff, kcap, U, Y, hb, hsz, hc2, hcu, hcy, hcm, hkin, hkT, hkM, hTM, hMl⟩ := hp
  obtain ⟨L, hL⟩ : ∃ L : Nat, r.len = (L : Int) := ⟨r.len.toNat, by have := hr.l1; omega⟩
  have hL1 : 1 ≤ L := by have := hr.l1; omega
  have hL24 : L ≤ 24 := by have := hr.l2; omega
  have hTl := hb.lt
  have hfc := hr.count
  have HLT := Lib.hid (show r.len.toNat = L by omega)
  have HLL := Lib.hid hL
  have HRK := Lib.hid (And.intro hr hks)
  have HFB := Lib.hid (show ∀ k (h : k < r.fs.length), ∃ f : Nat, r.fs[k] = (f : Int) ∧ f < L from fun k h => by
    have := fsOk_bound hr.fs r.fs[k] (List.getElem_mem h)
    exact ⟨r.fs[k].toNat, by omega, by omega⟩)
  have HI := Lib.hid (show ∀ k (h : k < r.fs.length), ∃ b off, sa = some ⟨b, off, none⟩ ∧ b ≠ T ∧ b ≠ M ∧ b < w.heap.size ∧ w.cell? ⟨b, off + k, none⟩ = some (.int .i64 r.fs[k]) from fun k h => by
    obtain ⟨b, off, e, hc⟩ := hi.at.2 k h
    have := hap b off _ _ _ (by rw [e]) (by intro e0; rw [e0] at h; exact absurd h (Nat.not_lt_zero _))
    exact ⟨b, off, e, this.1, this.2, lt_of_cell hc, hc⟩)
  have hk1 := hks.1.1
  have hkl : kb < w.heap.size := lt_of_cell (hkin 0 (by omega)).1
  have HC := Lib.hid (And.intro hsz (And.intro hc2 (And.intro hcu (And.intro hcy hcm))))
  have HKI := Lib.hid hkin
  have HB := Lib.hid hb
  have HM := Lib.hid hM
  clear hi hap hb hc2 hcu hcy hcm hkin hM hr hks
  rw [hL, Int.toNat_natCast]
  clear hL
  have t0 := (HB.out.cell 0).trans (Array.getElem?_eq_getElem (by omega : 0 < cs.size))
  have t1 := (HB.out.cell 1).trans (Array.getElem?_eq_getElem (by omega : 1 < cs.size))
  have f0 := HB.out.frozen 0
  have f1 := HB.out.frozen 1
  generalize cs[0] = q0 at t0
  generalize cs[1] = q1 at t1
  have hmk : ∀ w, _ := fun w => make64 L w (by omega)
  have HW : Hid (PuL w T M (w.heap.size + 1) L ((cs.setIfInBounds 0 (.int .i64 L)).setIfInBounds 1 (.slice sa r.fs.length cap)) S (markF r.fs 0)
      ((((w.setCell ⟨T, 0, none⟩ (.int .i64 L)).setCell ⟨T, 1, none⟩ (.slice sa r.fs.length cap)).alloc (.cells #[.int .i64 L, .slice sa r.fs.length cap] 24)).alloc (.cells (madeCells #[.int .i64 0] L) 2))) := Lib.hid (by
    have hz := ArrAt.zeros (((w.setCell ⟨T, 0, none⟩ (.int .i64 L)).setCell ⟨T, 1, none⟩ (.slice sa r.fs.length cap)).alloc (.cells #[.int .i64 L, .slice sa r.fs.length cap] 24)) L 2
    rw [← markF_zero r.fs] at hz
    refine ⟨(((HB.out.set _).set _).alloc _).alloc _, ((((HM.out.other (fun e => hTM e.symm) _).other (fun e => hTM e.symm) _).below (below1 _ _)).below (below1 _ _)), (((((FrLM.refl w T M).setT _ _).setT _ _).below (below1 _ _)).below (below1 _ _)), ?_⟩
    have e : (((w.setCell ⟨T, 0, none⟩ (.int .i64 L)).setCell ⟨T, 1, none⟩ (.slice sa r.fs.length cap)).alloc (.cells #[.int .i64 L, .slice sa r.fs.length cap] 24)).heap.size = w.heap.size + 1 := by simp [World.setCell]
    rw [e] at hz
    exact hz)
  clear HB HM
  go_enter Try.func75, Try.ntmps75
  go_wp2_with fail
  clear t0 t1 f0 f1 hmk
  go_loopw [23] (fun s wr => ∃ k : Nat, k ≤ r.fs.length ∧ s = .int .i64 k ∧ PuL w T M (w.heap.size + 1) L ((cs.setIfInBounds 0 (.int .i64 L)).setIfInBounds 1 (.slice sa r.fs.length cap)) S (markF r.fs k) wr) (fun s _ => r.fs.length - (intOf s).toNat)
  case atStart => exact ⟨0, Nat.zero_le _, rfl, HW.out⟩
  case round =>
    rename_i wr
    clear HW
    obtain ⟨k, hk, rfl, hst⟩ := hrel
    have HS := Lib.hid hst
    clear hst
    by_cases hlt : k < r.fs.length
    · obtain ⟨b, off, rfl, hbT, hbM, hbl, hc⟩ := HI.out k hlt
      obtain ⟨f, hf, hfL⟩ := HFB.out k hlt
      have hc2 := (World.cell?_of_block (a := ⟨b, off + k, none⟩) (HS.out.2.2.1.same b hbl hbT hbM)).trans hc
      rw [hf] at hc2
      have HF := Lib.hid hf
      have xm := HS.out.2.2.2.cell (i := f) hfL
      have xf := HS.out.2.2.2.frozen f
      have hml := HS.out.2.2.2.lt
      have hfL' : (f : Int) < (L : Int) := by omega
      clear hc hf
      go_wp2_with fail
      refine ⟨⟨k + 1, by omega, by simp, ?_⟩, by simp [intOf]; omega⟩
      obtain ⟨k1, k2, k3, k4⟩ := HS.out
      refine ⟨k1.other (by omega) _, k2.other (by omega) _, k3.new (by omega) _ _, ?_⟩
      rw [← markF_step hlt HF.out]
      exact k4.set f 1
    · obtain rfl : k = r.fs.length := by omega
      go_wp2_with fail
      refine (sums_any _ L L _).mono ?_
      rintro e w5 ⟨rfl, rfl⟩
      have hwl := HS.out.2.2.1.size
      have hbq := below1 wr (.cells #[.slice (some ⟨w.heap.size + 1, 0, none⟩) L L] 39)
      have bq := Blk.new wr (.cells #[.slice (some ⟨w.heap.size + 1, 0, none⟩) L L] 39)
      have hml := HS.out.2.2.2.lt
      have hz5 : (wr.alloc (.cells #[.slice (some ⟨w.heap.size + 1, 0, none⟩) L L] 39)).heap.size = wr.heap.size + 1 := by simp
      obtain ⟨k1, k2, k3, k4⟩ := HS.out
      have b5 := k1.below hbq
      have m5 := k2.below hbq
      have r5 := k3.below hbq
      have a5 := k4.below hbq
      generalize wr.alloc (.cells #[.slice (some ⟨w.heap.size + 1, 0, none⟩) L L] 39) = w5 at *
      clear k1 k2 k3 k4 hbq HS
      obtain ⟨q3, t3⟩ : ∃ q3, w5.cell? ⟨T, 3, none⟩ = some q3 := ⟨_, (b5.cell 3).trans (Array.getElem?_eq_getElem (by simp; omega))⟩
      have f3 := b5.frozen 3
      obtain ⟨w6, hw6⟩ : ∃ w6, w5.setCell ⟨T, 3, none⟩ (sumsV wr.heap.size) = w6 := ⟨_, rfl⟩
      have HT6 : Hid (TbAt w6 w6.heap.size T M r ks U Y) := Lib.hid (by
        have hz6 : w6.heap.size = w5.heap.size := by rw [← hw6]; simp [World.setCell]
        obtain ⟨hc2, hcu, hcy, hcm⟩ := HC.out.2
        have hold : ∀ {b o : Nat} {v : Value}, b < w.heap.size → b ≠ T → b ≠ M → w.cell? ⟨b, o, none⟩ = some v → w6.cell? ⟨b, o, none⟩ = some v := fun h1 h2 h3 h4 => by
          rw [← hw6]
          exact cell_other ((World.cell?_of_block (r5.same _ h1 h2 h3)).trans h4) h2
        have hml2 := marks_len r
        rw [HLT.out] at hml2
        refine ⟨((cs.setIfInBounds 0 (.int .i64 L)).setIfInBounds 1 (.slice sa r.fs.length cap)).setIfInBounds 3 (sumsV wr.heap.size), .slice sa r.fs.length cap, kb, koff, kcap, wr.heap.size, w.heap.size + 1, 0, L, ?_⟩
        rw [← hw6]
        refine ⟨b5.set _, ⟨by simpa using hsz, ?_, ?_, ?_, ?_, ?_, ?_, ?_⟩, ?_, ?_, ?_, by omega, by omega, ⟨hkT, hkM, ?_⟩, ⟨by omega, by omega, ?_⟩, ⟨by omega, by omega, ?_⟩, ⟨?_, ?_, hTM⟩⟩
        · rw [get_set_ne (by omega), get_set_ne (by omega), get_set_eq (by omega), HLL.out]
        · rw [get_set_ne (by omega), get_set_eq (by simp; omega)]
        · rw [get_set_ne (by omega), get_set_ne (by omega), get_set_ne (by omega)]; exact hc2
        · rw [get_set_eq (by simp; omega)]
        · intro p hp; rw [get_set_ne (by omega), get_set_ne (by omega), get_set_ne (by omega)]; exact hcu p hp
        · intro p hp; rw [get_set_ne (by omega), get_set_ne (by omega), get_set_ne (by omega)]; exact hcy p hp
        · rw [get_set_ne (by omega), get_set_ne (by omega), get_set_ne (by omega)]; exact hcm
        · intro i hi
          obtain ⟨y1, y2, y3⟩ := HKI.out i hi
          rw [hw6]
          exact ⟨hold hkl hkT hkM y1, hold hkl hkT hkM y2, hold hkl hkT hkM y3⟩
        · have := cell_other (b' := T) (o' := 3) (u := sumsV wr.heap.size) (bq.cell 0) (by omega)
          rw [hml2]
          simpa using this
        · intro i hi
          have hi2 : i < L := by omega
          have h1 := cell_other (b' := T) (o' := 3) (u := sumsV wr.heap.size) (a5.cell hi2) (by omega)
          have h2 : (marks r)[i] = markF r.fs r.fs.length i := by
            have h3 := markF_end r
            rw [HLT.out] at h3
            simp [← h3]
          rw [Nat.zero_add, h1, h2]
        all_goals (rw [hw6]; omega))
      have HM6 : Hid (MapIs w6 M S) := Lib.hid (by rw [← hw6]; exact m5.other (by omega) _)
      have HF6 : Hid (FrLM w T M w6) := Lib.hid (by rw [← hw6]; exact r5.setT _ _)
      have HT7 := HT6.out.clearUp (FrLM.refl w6 T M) HM6.out 25 0 (by omega)
      have hcl1 := fun ty => clear25 w6 T 4 ty (fun j hj => by rw [HT6.out.up j hj]; rfl) (fun j _ => HT6.out.frozen _)
      rw [Nat.add_zero] at HT7
      generalize w6.setCells T 4 (List.replicate 25 (.int .i64 0)) = w7 at HT7 hcl1
      obtain ⟨HT7, HF7, HM7⟩ := HT7
      have HT8 := HT7.clearWy HF7 HM7 25 0 (by omega)
      have hcl2 := fun ty => clear25 w7 T 29 ty (fun j hj => by rw [HT7.wy hj]; rfl) (fun j _ => HT7.frozen _)
      rw [Nat.add_zero] at HT8
      generalize w7.setCells T 29 (List.replicate 25 (.int .i64 0)) = w8 at HT8 hcl2
      obtain ⟨HT8, HF8, HM8⟩ := HT8
      have hmp := HT8.mp
      obtain ⟨o, hcl3, HM9⟩ := HM8.clear
      have HT9 := (HT8.putM o).same (U' := fun _ => 0) (Y' := fun _ => 0) (fun p hp => by rw [if_pos (by omega)]) (fun p hp => by rw [if_pos (by omega)])
      have HF9 := HF8.putM o
      generalize w8.putObj M o = w9 at HT9 HF9 HM9 hcl3
      have HH := Lib.hid (And.intro (HT9.mono HF9.size) (And.intro HM9 (HF6.out.trans HF9)))
      have hst3 : (store ⟨T, 3, none⟩ (.func (.func 78) #[] #[.pointer (some ⟨wr.heap.size, 0, none⟩)])).run Try.prog w5 = .ok () w6 := by
        rw [run_store Try.prog w5 ⟨T, 3, none⟩ _ .plain rfl]
        simp only [t3, f3, ← hw6]
        rfl
      clear HT7 HF7 HM7 HT8 HF8 HM8 HM9 HT9 HF9 HM6 HF6 HT6 b5 m5 r5 a5 bq hw6
      go_wp2_with fail
      refine (goUp_any T M r ks w9 HH.out.1 HH.out.2.1 HRK.out.1 HRK.out.2).mono ?_
      rintro e w10 ⟨⟨_, rfl⟩, hT10, hM10, hF10⟩
      have HT10 := Lib.hid (hT10.mono hF10.size)
      have HM10 := Lib.hid (And.intro hM10 hF10)
      clear hT10 hM10 hF10
      go_wp2_with fail
      refine (goBack_any T M r ks w10 HT10.out HM10.out.1 HRK.out.1 HRK.out.2).mono ?_
      rintro e w11 ⟨⟨_, rfl⟩, hT11, hM11, hF11⟩
      rw [HLT.out] at hT11
      have HE := Lib.hid (And.intro (hT11.mono hF11.size) (And.intro hM11 (HH.out.2.2.trans (HM10.out.2.trans hF11))))
      clear hT11 hM11 hF11
      go_wp2
      go_end0
      exact ⟨⟨_, rfl⟩, HE.out⟩
end Go.Proofs.Ytnkeikhkafbokaa
