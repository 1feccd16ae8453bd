import Derived.Test.YtjbeoakikdkdaaaSs
import Derived.Test.YtjbeoakikdkdaaaSq
namespace Go.Proofs.Ytjbeoakikdkdaaa
open Go.RowKit Go.Vat Go.Sort Go.Shelf
attribute [local go_sem] Oper.semAt_some

/-! ## The program: the most logs for so many loads -/
/-- The vat stands, whatever its yard is. -/
def KSt (T M : Nat) (w : World) : Prop := ∃ (U0 H0 : Nat → Int) (f0 : SK → Int) (S0 : SK → Prop), PreV w T M U0 H0 ∧ MapIs w M f0 S0
theorem KSt.below {T M : Nat} {w w' : World} (h : KSt T M w) (hb : Below w.heap.size w w') : KSt T M w' := by
  obtain ⟨U0, H0, f0, S0, ⟨⟨cs, l0, s0, h1, h2⟩, h3, h4, h5, h6⟩, h7⟩ := h
  exact ⟨U0, H0, f0, S0, ⟨⟨cs, l0, s0, h1.below hb, h2⟩, h3, Nat.lt_of_lt_of_le h4 hb.size, h5, h6⟩, h7.below hb⟩
theorem KSt.lt {T M : Nat} {w : World} (h : KSt T M w) : T < w.heap.size ∧ M < w.heap.size ∧ T ≠ M := by
  obtain ⟨U0, H0, f0, S0, ⟨⟨cs, l0, s0, h1, h2⟩, h3, h4, h5, h6⟩, h7⟩ := h
  exact ⟨h1.lt, h4, h3⟩
/-- What the closure has. -/
structure EnvK (w : World) (T M vx yx lx : Nat) (y : YardD) (sv : Value) (loads : Int) : Prop where
  v : w.cell? ⟨vx, 0, none⟩ = some (.pointer (some ⟨T, 0, none⟩))
  y0 : w.cell? ⟨yx, 0, none⟩ = some (.int .i64 y.load)
  y1 : w.cell? ⟨yx, 1, none⟩ = some sv
  l : w.cell? ⟨lx, 0, none⟩ = some (.int .i64 loads)
  ne : (vx ≠ T ∧ vx ≠ M) ∧ (yx ≠ T ∧ yx ≠ M) ∧ (lx ≠ T ∧ lx ≠ M)
  logs : PairsAt w sv y.logs
  ln : ∀ b off n c, sv = .slice (some ⟨b, off, none⟩) n c → y.logs ≠ [] → b ≠ T ∧ b ≠ M
theorem cellFM {w W : World} {T M b o : Nat} {v : Value} (h : w.cell? ⟨b, o, none⟩ = some v) (hF : FrLM w T M W) (h1 : b ≠ T) (h2 : b ≠ M) : W.cell? ⟨b, o, none⟩ = some v := (World.cell?_of_block (hF.same b (lt_of_cell h) h1 h2)).trans h
section
variable {w w' : World} {T M vx yx lx : Nat} {y : YardD} {sv : Value} {loads : Int}
theorem EnvK.below (h : EnvK w T M vx yx lx y sv loads) (hb : Below w.heap.size w w') : EnvK w' T M vx yx lx y sv loads :=
  ⟨cellB h.v hb, cellB h.y0 hb, cellB h.y1 hb, cellB h.l hb, h.ne, h.logs.below hb, h.ln⟩
theorem EnvK.fr (h : EnvK w T M vx yx lx y sv loads) (hF : FrLM w T M w') : EnvK w' T M vx yx lx y sv loads := by
  obtain ⟨⟨n1, n2⟩, ⟨n3, n4⟩, n5, n6⟩ := h.ne
  refine ⟨cellFM h.v hF n1 n2, cellFM h.y0 hF n3 n4, cellFM h.y1 hF n3 n4, cellFM h.l hF n5 n6, h.ne, ?_, h.ln⟩
  obtain ⟨a, cap, e, hc⟩ := h.logs
  refine ⟨a, cap, e, fun hne => ?_⟩
  obtain ⟨b, off, ea, hc⟩ := hc hne
  obtain ⟨m1, m2⟩ := h.ln b off _ cap (by rw [e, ea]) hne
  exact ⟨b, off, ea, fun i hi => ⟨cellFM (hc i hi).1 hF m1 m2, cellFM (hc i hi).2 hF m1 m2⟩⟩
end
set_option maxRecDepth 100000 in
set_option maxHeartbeats 16000000 in
theorem enough_any (T M vx yx lx : Nat) (y : YardD) (sv lv : Value) (loads : Int) (ix : List Nat) (w : World) (hE : EnvK w T M vx yx lx y sv loads) (hK : KSt T M w) (hy : y.Ok) (hi : IntsAt w lv (ix.map (Nat.cast : Nat → Int))) (hix : ∀ i ∈ ix, i < y.logs.length) (hil : ix.length ≤ 10) :
    Calls Try.prog 73 #[lv, .pointer (some ⟨vx, 0, none⟩), .pointer (some ⟨yx, 0, none⟩), .pointer (some ⟨lx, 0, none⟩)] w fun e w' => e = .returned (.bool (okK y loads ix)) ∧ KSt T M w' ∧ FrLM w T M w' := by
  obtain ⟨sa, cap, hse⟩ := hE.logs.slice
  subst hse
  have c0 := hE.v
  have c1 := hE.y0
  have c2 := hE.y1
  have HE := Lib.hid hE
  have HK := Lib.hid hK
  have HYD := Lib.hid hy
  have HI := Lib.hid hi
  have HIX := Lib.hid hix
  have HYA := Lib.hid (show YardAt w (.agg #[.int .i64 y.load, .slice sa y.logs.length cap]) y from ⟨_, rfl, hE.logs⟩)
  have hkl := hK.lt
  clear hE hK hy hi hix
  go_enter Try.func73, Try.ntmps73
  go_wp2_with fail
  have y0 : w.drew.cell? ⟨vx, 0, none⟩ = some (.pointer (some ⟨T, 0, none⟩)) := c0
  have y1 : w.drew.cell? ⟨yx, 0, none⟩ = some (.int .i64 y.load) := c1
  have y2 : w.drew.cell? ⟨yx, 1, none⟩ = some (.slice sa y.logs.length cap) := c2
  have bel : Below w.heap.size w w.drew := (Below.refl _ _).drew
  have hya : YardAt w.drew (.agg #[.int .i64 y.load, .slice sa y.logs.length cap]) y := HYA.out.below ((Below.refl _ _).drew)
  have hin : IntsAt w.drew lv (ix.map (Nat.cast : Nat → Int)) := HI.out.below ((Below.refl _ _).drew)
  clear c0 c1 c2 HYA HI
  refine (wp_region_T 4 (fun W' => W'.cell? ⟨vx, 0, none⟩ = some (.pointer (some ⟨T, 0, none⟩)) ∧ W'.cell? ⟨yx, 0, none⟩ = some (.int .i64 y.load) ∧ W'.cell? ⟨yx, 1, none⟩ = some (.slice sa y.logs.length cap)) (by kernel_rfl) (by kernel_rfl) ⟨y0, y1, y2⟩ ?_)
  intro inv hS
  clear y0 y1 y2
  generalize w.drew = V0 at *
  refine wpAnyT_take inv (by kernel_rfl) (by omega) (i := 0) (v := .pointer (some ⟨T, 0, none⟩)) rfl (by kernel_rfl) (by kernel_rfl) (fun _ _ _ h => h) (Or.inl ⟨by kernel_rfl, ?_⟩) (by assumption) ?_
  · rintro W' ⟨q0, q1, q2⟩
    go_simp
  intro inv2
  clear inv
  have inv := inv2
  clear inv2
  simp only [Act.put, List.setIfInBounds_toArray]
  refine wpAnyT_take inv (by kernel_rfl) (by omega) (i := 1) (v := .agg #[.int .i64 y.load, .slice sa y.logs.length cap]) rfl (by kernel_rfl) (by kernel_rfl) (fun _ _ _ h => h) (Or.inl ⟨by kernel_rfl, ?_⟩) (by assumption) ?_
  · rintro W' ⟨q0, q1, q2⟩
    go_simp
  intro inv2
  clear inv
  have inv := inv2
  clear inv2
  simp only [Act.put]
  refine wpAnyT_take inv (by kernel_rfl) (by omega) (i := 2) (v := lv) rfl (by kernel_rfl) (by kernel_rfl) (fun _ _ _ h => h) (Or.inl ⟨by kernel_rfl, ?_⟩) (by assumption) ?_
  · rintro W' ⟨q0, q1, q2⟩
    go_simp
  intro inv2
  clear inv
  have inv := inv2
  clear inv2
  simp only [Act.put]
  refine wpAnyT_ready [3] (by kernel_rfl) (by simp) ?_
  refine AllReadyT.cons rfl (fun K hK => ?_) AllReadyT.nil
  go_simp
  refine (only_any _ lv y ix _ hya HYD.out hin HIX.out (by omega)).mono ?_
  rintro e z1 ⟨so, rfl, hrow, hb⟩
  have HZ := Lib.hid hb.size
  have HZV := Lib.hid bel.size
  refine hK.out _ _ (fun _ => ⟨cellB hS.1 hb, cellB hS.2.1 hb, cellB hS.2.2 hb⟩) (fun _ => ?_)
  replace inv := HeadM.step inv 3 (by kernel_rfl) (by omega)
  clear hK K
  try simp only [Act.put]
  replace hS := And.intro (cellB hS.1 hb) (And.intro (cellB hS.2.1 hb) (cellB hS.2.2 hb))
  replace bel := bel.trans (hb.mono (by have := bel.size; omega))
  replace hya := hya.below hb
  replace hin := hin.below hb
  clear hb
  have HROW := Lib.hid hrow
  clear inv hS
  refine wpAnyT_chain (fuel := 1) rfl (by kernel_rfl) ?_
  simp only [List.drop_succ_cons, List.drop_zero]
  clear hrow hya hin
  have HBEL := Lib.hid bel
  have HK2 := HK.out.below bel
  have HE2 := Lib.hid (HE.out.below bel)
  have hkz := HZ.out
  have hkv := HZV.out
  clear HK HE bel
  obtain ⟨U0, H0, f0, S0, hpre, hmap⟩ := HK2
  have HPRE := Lib.hid hpre
  have HMAP := Lib.hid hmap
  clear hpre hmap
  go_wp2_with fail
  have hln : (onlyL y ix).length = ix.length := by simp [onlyL]
  have HOK := Lib.hid (only_ok HYD.out HIX.out hil)
  refine (put_any T M so ⟨y.load, onlyL y ix⟩ U0 H0 f0 S0 _ (LogsIn.of_row HROW.out hln rfl (by omega) (by omega)) HPRE.out HMAP.out HOK.out).mono ?_
  rintro e w3 ⟨⟨v3, rfl⟩, hL, hF⟩
  have HL := Lib.hid hL
  have HF := Lib.hid hF
  have HE3 := Lib.hid (HE2.out.fr hF)
  have HK3 := Lib.hid (show KSt T M w3 from ⟨_, _, _, _, hL.pre HOK.out, hL.map⟩)
  have HOKV := Lib.hid (show decide (U ⟨y.load, onlyL y ix⟩ 101 ≤ loads) = okK y loads ix from rfl)
  obtain ⟨u, hu⟩ : ∃ u, U ⟨y.load, onlyL y ix⟩ 101 = u := ⟨_, rfl⟩
  have HU := Lib.hid hu
  rw [hu] at HOKV
  clear hL hF HE2 HROW HPRE HMAP hu hln
  go_wp2_with fail
  have x0 := HE3.out.v
  have x1 := HE3.out.l
  have g0 := fun d os => cell_regrown x0 d os
  have g1 := fun d os => cell_regrown x1 d os
  have hcG : ∀ (d : Nat) (os : Array Obj), _ := fun d os => Calls.regrown_of (v := .int .i64 u) ((fewest_any _ T M ⟨y.load, onlyL y ix⟩ so (U ⟨y.load, onlyL y ix⟩) H0 (grow (redrawn w3 d) os) (HL.out.vat.below HL.out.size (below_regrown w3 d os))).mono fun e w' ⟨h1, h2⟩ => ⟨by rw [h1, HU.out], by rw [← h2]; exact Below.refl _ _⟩)
  clear x0 x1
  refine wp_region_quiet_below (by kernel_rfl) (by kernel_rfl) ?_
  repeat (quiet_step ((go_at_call 62; exact hcG _ _)))
  refine wpQuiet_nil ?_
  intro _ hw'
  obtain ⟨⟨dq, osq⟩, hw''⟩ := hw'
  subst hw''
  have hb8 := below_regrown w3 dq osq
  have HK8 := Lib.hid (HK3.out.below hb8)
  have HF8 := Lib.hid (show FrLM w T M (grow (redrawn w3 dq) osq) from ((FrLM.refl w T M).below HBEL.out).trans (HF.out.below hb8))
  clear g0 g1 hcG hb8
  generalize grow (redrawn w3 dq) osq = w8 at *
  go_wp2
  go_ret
  exact ⟨ret_bool HOKV.out, HK8.out, HF8.out⟩
/-- A list of logs whose block is neither that of the vat nor that of its map. -/
def LIn (w : World) (T M : Nat) (v : Value) (ix : List Nat) : Prop := Row w v ix.length 1 ((ix.map (Nat.cast : Nat → Int)).map (Value.int .i64)) ∧ (∀ g o k c, v = .slice (some ⟨g, o, none⟩) k c → g ≠ T ∧ g ≠ M) ∧ (ix = [] → v = .slice none 0 0)
section
variable {w w' : World} {T M : Nat} {v : Value} {ix : List Nat}
theorem LIn.nil (w : World) (T M : Nat) : LIn w T M (.slice none 0 0) [] := ⟨Row.nil _ _, (by intro g o k c h; cases h), fun _ => rfl⟩
theorem LIn.below (h : LIn w T M v ix) (hb : Below w.heap.size w w') : LIn w' T M v ix := ⟨h.1.below hb, h.2⟩
theorem LIn.fr (h : LIn w T M v ix) (hF : FrLM w T M w') : LIn w' T M v ix := by
  refine ⟨?_, h.2⟩
  obtain ⟨h1, ⟨h2, h3⟩ | ⟨g, cap, cur, e, e1, e3, e4⟩⟩ := h.1
  · exact ⟨h1, .inl ⟨h2, h3⟩⟩
  · have := h.2.1 g 0 _ cap e1
    exact ⟨h1, .inr ⟨g, cap, cur, e, e1, (hF.same g e3.lt this.1 this.2).trans e3, e4⟩⟩
theorem LIn.ints (h : LIn w T M v ix) : IntsAt w v (ix.map (Nat.cast : Nat → Int)) := by
  have h1 := h.1
  have e : ix.length = (ix.map (Nat.cast : Nat → Int)).length := by simp
  rw [e] at h1
  exact h1.ints
theorem LIn.slice (h : LIn w T M v ix) : ∃ a c, v = .slice a ix.length c := by
  obtain ⟨a, c, e, _⟩ := h.1.cells
  exact ⟨a, c, e⟩
end
set_option maxRecDepth 100000 in
set_option maxHeartbeats 16000000 in
theorem longest_step (loads : Int) (m nxt T M vx yx lx : Nat) (y : YardD) (sv bv : Value) (begun : List Nat) (w : World) (hE : EnvK w T M vx yx lx y sv loads) (hK : KSt T M w) (hy : y.Ok) (hm : nxt + m = y.logs.length) (hb : LIn w T M bv begun) (hlt : ∀ i ∈ begun, i < nxt) (hbl : begun.length ≤ nxt)
    (ih : ∀ (m' nxt' : Nat) (bv' : Value) (begun' : List Nat) (w' : World), m' < m → EnvK w' T M vx yx lx y sv loads → KSt T M w' → nxt' + m' = y.logs.length → LIn w' T M bv' begun' → (∀ i ∈ begun', i < nxt') → begun'.length ≤ nxt' →
      Calls Try.prog 76 #[bv', .int .i64 (nxt' : Int), .int .i64 (y.logs.length : Int), .func (.func 73) #[] #[.pointer (some ⟨vx, 0, none⟩), .pointer (some ⟨yx, 0, none⟩), .pointer (some ⟨lx, 0, none⟩)]] w' fun e w'' => ∃ v'', e = .returned v'' ∧ LIn w'' T M v'' (lng (okK y loads) y.logs.length m' begun' begun') ∧ KSt T M w'' ∧ FrLM w' T M w'') :
    Calls Try.prog 76 #[bv, .int .i64 (nxt : Int), .int .i64 (y.logs.length : Int), .func (.func 73) #[] #[.pointer (some ⟨vx, 0, none⟩), .pointer (some ⟨yx, 0, none⟩), .pointer (some ⟨lx, 0, none⟩)]] w fun e w' => ∃ v', e = .returned v' ∧ LIn w' T M v' (lng (okK y loads) y.logs.length m begun begun) ∧ KSt T M w' ∧ FrLM w T M w' := by
  obtain ⟨ba, bc, rfl⟩ := hb.slice
  have HE := Lib.hid hE
  have HK := Lib.hid hK
  have HYD := Lib.hid hy
  have HB := Lib.hid hb
  have HLT := Lib.hid hlt
  have HIH := Lib.hid ih
  have hl10 := hy.count
  have hTM := hK.lt
  clear hE hK hy hb hlt ih
  obtain ⟨N, hN⟩ : ∃ N, y.logs.length = N := ⟨_, rfl⟩
  have HN := Lib.hid hN
  obtain ⟨nb, hnb⟩ : ∃ nb, begun.length = nb := ⟨_, rfl⟩
  have HNB := Lib.hid hnb
  rw [hnb] at hbl HB ⊢
  rw [hN] at hm hl10 HIH ⊢
  clear hN hnb
  go_enter Try.func76, Try.ntmps76
  go_wp2_with fail
  go_loopw [9, 10, 11, 12] (fun bv s _ _ wr => ∃ (i : Nat) (bl : List Nat), nxt ≤ i ∧ i ≤ N ∧ s = .int .i64 (i : Int) ∧ LIn wr T M bv bl ∧ lng (okK y loads) N (N - i) begun bl = lng (okK y loads) N m begun begun ∧ bl.length ≤ N ∧ nb ≤ bl.length ∧ KSt T M wr ∧ FrLM w T M wr) (fun _ s _ _ _ => N - (intOf s).toNat)
  case atStart => exact ⟨nxt, begun, Nat.le_refl _, by omega, rfl, HB.out, by rw [show N - nxt = m by omega], by rw [HNB.out]; omega, by rw [HNB.out]; exact Nat.le_refl _, HK.out, FrLM.refl _ _ _⟩
  case round =>
    clear HK
    obtain ⟨i, bl, hi1, hi2, rfl, hbi, hlg, hbll, hnbl, hks, hF⟩ := hrel
    have HLG := Lib.hid hlg
    have HBI := Lib.hid hbi
    obtain ⟨bla, blc, rfl⟩ := hbi.slice
    have HKS := Lib.hid hks
    have HF := Lib.hid hF
    have hTw := hks.lt
    clear hlg hbi hks hF
    have ha1 : IntKind.i64.wrap ((nb : Int) + (N : Int)) = (nb : Int) + (N : Int) := IntWalk.i64_in _ (by omega)
    have ha2 : IntKind.i64.wrap ((nb : Int) + (N : Int) - (i : Int)) = (nb : Int) + (N : Int) - (i : Int) := IntWalk.i64_in _ (by omega)
    by_cases q : nb + (N - i) ≤ bl.length
    · have HE2 := Lib.hid (show lng (okK y loads) N m begun begun = bl by rw [← HLG.out]; exact lng_done (by rw [HNB.out]; exact q))
      have d1 : decide ((nb : Int) + (N : Int) - (i : Int) > (bl.length : Int)) = false := by simp; omega
      have d2 : decide ((bl.length : Int) < (nb : Int) + (N : Int) - (i : Int)) = false := by simp; omega
      clear q
      go_wp2
      go_ret
      exact ⟨_, rfl, by rw [HE2.out]; exact HBI.out, HKS.out, HF.out⟩
    · have hit : i < N := by omega
      have d1 : decide ((nb : Int) + (N : Int) - (i : Int) > (bl.length : Int)) = true := by simp; omega
      have d2 : decide ((bl.length : Int) < (nb : Int) + (N : Int) - (i : Int)) = true := by simp; omega
      have HTK := Lib.hid (lng_take (ok := okK y loads) (N := N) (m := N - (i + 1)) (begun := begun) (best := bl) (by rw [HNB.out]; omega))
      have HSK := Lib.hid (fun h => lng_skip (ok := okK y loads) (N := N) (m := N - (i + 1)) (begun := begun) (best := bl) (.inr h))
      have hnx : N - (N - (i + 1) + 1) = i := by omega
      have HNI := Lib.hid (show N - i = (N - (i + 1)) + 1 by omega)
      rw [hnx] at HTK HSK
      clear q hnx
      have HB1 := Lib.hid (HB.out.fr HF.out)
      go_wp2_with fail
      clear d1 d2 ha1 ha2
      have hrow := HB1.out.1
      rw [HNB.out] at hrow
      refine (grownIB_any _ nb _ (i : Int) _ hrow (by omega)).mono ?_
      rintro e w2 ⟨v2, rfl, hr2, hb2⟩
      have HL2 := Lib.hid (show LIn w2 T M v2 (begun ++ [i]) from ⟨by rw [casts_snoc, List.length_append, List.length_singleton, HNB.out]; exact hr2.1, (fun g o k c e => by have := hr2.2 g o k c e; omega), fun h => by simp at h⟩)
      have HBI2 := Lib.hid (HBI.out.below hb2)
      have HKS2 := Lib.hid (HKS.out.below hb2)
      have HF2 := Lib.hid (HF.out.below hb2)
      have HE2 := Lib.hid (HE.out.fr HF2.out)
      have HIX := Lib.hid (show ∀ q ∈ begun ++ [i], q < y.logs.length from fun q hq => by
        have := HN.out
        rcases List.mem_append.1 hq with h | h
        · have := HLT.out q h
          omega
        · rw [List.mem_singleton.1 h]; omega)
      have HIXL := Lib.hid (show (begun ++ [i]).length ≤ 10 by rw [List.length_append, HNB.out, List.length_singleton]; omega)
      have HBL2 := Lib.hid (show (begun ++ [i]).length = nb + 1 by rw [List.length_append, HNB.out, List.length_singleton])
      clear hrow hr2 hb2 HBI HKS HF HB1
      go_wp2_with fail
      refine (enough_any T M vx yx lx y sv v2 loads (begun ++ [i]) _ HE2.out HKS2.out HYD.out HL2.out.ints HIX.out HIXL.out).mono ?_
      rintro e w3 ⟨rfl, hk3, hF3⟩
      have HKS3 := Lib.hid hk3
      have HL3 := Lib.hid (HL2.out.fr hF3)
      have HBI3 := Lib.hid (HBI2.out.fr hF3)
      have HF3 := Lib.hid (HF2.out.trans hF3)
      have HE3 := Lib.hid (HE2.out.fr hF3)
      clear hk3 hF3 HKS2 HL2 HBI2 HF2 HE2
      cases hok : okK y loads (begun ++ [i]) with
      | false =>
        have HSK2 := Lib.hid (HSK.out hok)
        clear hok
        go_wp2
        go_roundw
        case rel => exact ⟨i + 1, bl, by omega, by omega, by go_num, HBI3.out, by rw [← HLG.out, HNI.out, HSK2.out], hbll, hnbl, HKS3.out, HF3.out⟩
        case measure => simp [intOf] <;> omega
      | true =>
        have HTK2 := Lib.hid (HTK.out hok)
        have ha3 : IntKind.i64.wrap ((i : Int) + 1) = (i : Int) + 1 := IntWalk.i64_in _ (by omega)
        clear hok HTK HSK
        go_wp2_with fail
        clear ha3
        have HC := HIH.out (N - (i + 1)) (i + 1) v2 (begun ++ [i]) w3 (by omega) HE3.out HKS3.out (by omega) HL3.out (fun q hq => by
          rcases List.mem_append.1 hq with h | h
          · have := HLT.out q h
            omega
          · rw [List.mem_singleton.1 h]; omega) (by rw [HBL2.out]; omega)
        rw [show ((i + 1 : Nat) : Int) = (i : Int) + 1 by omega] at HC
        refine HC.mono ?_
        rintro e w4 ⟨vl, rfl, hvl, hk4, hF4⟩
        replace HTK2 := HTK2.out
        obtain ⟨L, hL⟩ : ∃ L, lng (okK y loads) N (N - (i + 1)) (begun ++ [i]) (begun ++ [i]) = L := ⟨_, rfl⟩
        have hLN : L.length ≤ N := by
          rw [← hL]
          exact lng_len _ _ _ (by rw [HBL2.out]; omega) (by rw [HBL2.out]; omega)
        rw [hL] at hvl HTK2
        obtain ⟨lva, lvc, rfl⟩ := hvl.slice
        have HVL := Lib.hid hvl
        have HKS4 := Lib.hid hk4
        have HBI4 := Lib.hid (HBI3.out.fr hF4)
        have HF4 := Lib.hid (HF3.out.trans hF4)
        clear hvl HC hk4 hF4 HKS3 HBI3 HF3 HL3 HE3 hL
        by_cases q3 : bl.length < L.length
        · have d4 : decide ((L.length : Int) > (bl.length : Int)) = true := by simp; omega
          have d5 : decide ((bl.length : Int) < (L.length : Int)) = true := by simp; omega
          have d6 : decide (bl.length < L.length) = true := by simp; omega
          rw [if_pos q3] at HTK2
          replace HTK2 := Lib.hid HTK2
          have hnl : nb ≤ L.length := by omega
          clear q3
          go_wp2
          go_roundw
          case rel => exact ⟨i + 1, L, by omega, by omega, by go_num, HVL.out, by rw [← HLG.out, HNI.out, HTK2.out], hLN, hnl, HKS4.out, HF4.out⟩
          case measure => simp [intOf] <;> omega
        · have d4 : decide ((L.length : Int) > (bl.length : Int)) = false := by simp; omega
          have d5 : decide ((bl.length : Int) < (L.length : Int)) = false := by simp; omega
          have d6 : decide (bl.length < L.length) = false := by simp; omega
          rw [if_neg q3] at HTK2
          replace HTK2 := Lib.hid HTK2
          clear q3
          go_wp2
          go_roundw
          case rel => exact ⟨i + 1, bl, by omega, by omega, by go_num, HBI4.out, by rw [← HLG.out, HNI.out, HTK2.out], hbll, hnbl, HKS4.out, HF4.out⟩
          case measure => simp [intOf] <;> omega
theorem longest_any (loads : Int) (m nxt T M vx yx lx : Nat) (y : YardD) (sv bv : Value) (begun : List Nat) (w : World) (hE : EnvK w T M vx yx lx y sv loads) (hK : KSt T M w) (hy : y.Ok) (hm : nxt + m = y.logs.length) (hb : LIn w T M bv begun) (hlt : ∀ i ∈ begun, i < nxt) (hbl : begun.length ≤ nxt) :
    Calls Try.prog 76 #[bv, .int .i64 (nxt : Int), .int .i64 (y.logs.length : Int), .func (.func 73) #[] #[.pointer (some ⟨vx, 0, none⟩), .pointer (some ⟨yx, 0, none⟩), .pointer (some ⟨lx, 0, none⟩)]] w fun e w' => ∃ v', e = .returned v' ∧ LIn w' T M v' (lng (okK y loads) y.logs.length m begun begun) ∧ KSt T M w' ∧ FrLM w T M w' := by
  induction m using Nat.strongRecOn generalizing nxt bv begun w with
  | _ m ih => exact longest_step loads m nxt T M vx yx lx y sv bv begun w hE hK hy hm hb hlt hbl fun m' nxt' bv' begun' w' h1 h2 h3 h4 h5 h6 h7 => ih m' h1 nxt' bv' begun' w' h2 h3 h4 h5 h6 h7
set_option maxRecDepth 100000 in
set_option maxHeartbeats 1000000 in
theorem Keep_err (v : Value) (loads : Int) (y : YardD) (w : World) (hv : YardAt w v y) (hl : y.logs.length ≤ 1000000) (he : yardErr y ≠ 0) :
    Calls Try.prog 36 #[v, .int .i64 loads] w fun e w' => e = .returned (.tuple #[.slice none 0 0, .int .i64 (yardErr y)]) ∧ Below w.heap.size w w' := by
  obtain ⟨sv, rfl, hp⟩ := hv
  obtain ⟨sa, cap, rfl⟩ := hp.slice
  have HP := Lib.hid hp
  have HER := Lib.hid he
  obtain ⟨E, hE⟩ : ∃ E, yardErr y = E := ⟨_, rfl⟩
  have d1 : (E != 0) = true := by rw [← hE]; simpa using he
  have HE := Lib.hid hE
  clear hp he hE
  rw [HE.out]
  go_enter Try.func36, Try.ntmps36
  go_wp2_with fail
  refine (lay_err _ y _ ⟨_, rfl, HP.out.below (below2 _ _ _)⟩ hl HER.out).mono ?_
  rintro e w1 ⟨rfl, hb⟩
  rw [HE.out]
  go_wp2
  go_ret2
  exact ⟨rfl, bC (after2 hb) (below1 _ _)⟩
set_option maxRecDepth 100000 in
set_option maxHeartbeats 4000000 in
theorem Keep_no (v : Value) (loads : Int) (y : YardD) (w : World) (hv : YardAt w v y) (hy : y.Ok) (hw : okInts 0 10 [loads] = false) :
    Calls Try.prog 36 #[v, .int .i64 loads] w fun e w' => e = .returned (.tuple #[.slice none 0 0, .int .i64 3]) ∧ Below w.heap.size w w' := by
  obtain ⟨sv, rfl, hp⟩ := hv
  obtain ⟨sa, cap, rfl⟩ := hp.slice
  have hB0 := below2 w (.cells #[.int .i64 y.load, .slice sa y.logs.length cap] 24) (.cells #[.int .i64 loads] 2)
  have HV := Lib.hid (show YardAt ((w.alloc (.cells #[.int .i64 y.load, .slice sa y.logs.length cap] 24)).alloc (.cells #[.int .i64 loads] 2)) (.agg #[.int .i64 y.load, .slice sa y.logs.length cap]) y from ⟨_, rfl, hp.below hB0⟩)
  have HYD := Lib.hid hy
  have hl10 := hy.count
  have b2 := Blk.new (w.alloc (.cells #[.int .i64 y.load, .slice sa y.logs.length cap] 24)) (.cells #[.int .i64 loads] 2)
  rw [World.size_alloc] at b2
  have hs0 := hB0.size
  have hz0 : ((w.alloc (.cells #[.int .i64 y.load, .slice sa y.logs.length cap] 24)).alloc (.cells #[.int .i64 loads] 2)).heap.size = w.heap.size + 2 := by simp
  have b0 := (Blk.new w (.cells #[.int .i64 y.load, .slice sa y.logs.length cap] 24)).alloc (.cells #[.int .i64 loads] 2)
  have HW := Lib.hid hw
  clear hw
  clear hp hy
  go_enter Try.func36, Try.ntmps36
  go_wp2_with fail
  generalize (w.alloc (.cells #[.int .i64 y.load, .slice sa y.logs.length cap] 24)).alloc (.cells #[.int .i64 loads] 2) = W0 at *
  refine (lay_ok _ y _ HV.out HYD.out).mono ?_
  rintro e w1 ⟨T, M, n₀, sv, H, rfl, hL, hT, hM, hb1⟩
  have HL := Lib.hid hL
  have HB1 := Lib.hid (bC hB0 hb1)
  replace b2 := b2.below hb1
  replace b0 := b0.below hb1
  clear hL hB0 HV
  have hb3 := b2.cell 0
  simp at hb3
  have hl2 := b2.lt
  have hl0 := b0.lt
  go_wp2_with fail
  clear hb3
  have bvx := Blk.new w1 (.cells #[.pointer (some ⟨T, 0, none⟩)] 70)
  have hbv := below1 w1 (.cells #[.pointer (some ⟨T, 0, none⟩)] 70)
  have HL1 := Lib.hid (HL.out.below hbv)
  have HBB := Lib.hid (bC HB1.out hbv)
  replace b0 := b0.below hbv
  replace b2 := b2.below hbv
  obtain ⟨vx, hvx⟩ : ∃ vx, w1.heap.size = vx := ⟨_, rfl⟩
  have HVX := Lib.hid hvx
  rw [hvx] at bvx ⊢
  have hz2 : (w1.alloc (.cells #[.pointer (some ⟨T, 0, none⟩)] 70)).heap.size = vx + 1 := by simp [hvx]
  have hTL := HL.out.vat.lt
  have hTn := HL.out.size
  clear hbv hvx HL HB1
  generalize w1.alloc (.cells #[.pointer (some ⟨T, 0, none⟩)] 70) = w2 at *
  have hwn := Blk.new w2 (.cells #[.int .i64 loads] 2)
  rw [hz2] at hwn
  have hbn := below1 w2 (.cells #[.int .i64 loads] 2)
  have HL2 := Lib.hid (HL1.out.below hbn)
  have HB2 := Lib.hid (bC HBB.out hbn)
  replace b0 := b0.below hbn
  replace b2 := b2.below hbn
  have bvx2 := bvx.below hbn
  have hvl := bvx.lt
  clear hbn HL1 HBB bvx
  generalize w2.alloc (.cells #[.int .i64 loads] 2) = w3 at *
  refine (within_any 0 10 _ [loads] _ (IntsAt.mk1 (by simpa using hwn.cell 0)) (by simp)).mono ?_
  rintro e w4 ⟨rfl, rfl⟩
  rw [HW.out]
  go_wp2
  go_ret2
  exact ⟨rfl, HB2.out⟩
set_option maxRecDepth 100000 in
set_option maxHeartbeats 4000000 in
theorem Keep_yes (v : Value) (loads : Int) (y : YardD) (w : World) (hv : YardAt w v y) (hy : y.Ok) (hw : okInts 0 10 [loads] = true) :
    Calls Try.prog 36 #[v, .int .i64 loads] w fun e w' => ∃ v', e = .returned (.tuple #[v', .int .i64 0]) ∧ IntsAt w' v' ((keepL y loads).map (Nat.cast : Nat → Int)) ∧ Below w.heap.size w w' := by
  obtain ⟨sv, rfl, hp⟩ := hv
  obtain ⟨sa, cap, rfl⟩ := hp.slice
  have hB0 := below2 w (.cells #[.int .i64 y.load, .slice sa y.logs.length cap] 24) (.cells #[.int .i64 loads] 2)
  have HV := Lib.hid (show YardAt ((w.alloc (.cells #[.int .i64 y.load, .slice sa y.logs.length cap] 24)).alloc (.cells #[.int .i64 loads] 2)) (.agg #[.int .i64 y.load, .slice sa y.logs.length cap]) y from ⟨_, rfl, hp.below hB0⟩)
  have HYD := Lib.hid hy
  have hl10 := hy.count
  have b2 := Blk.new (w.alloc (.cells #[.int .i64 y.load, .slice sa y.logs.length cap] 24)) (.cells #[.int .i64 loads] 2)
  rw [World.size_alloc] at b2
  have hs0 := hB0.size
  have hz0 : ((w.alloc (.cells #[.int .i64 y.load, .slice sa y.logs.length cap] 24)).alloc (.cells #[.int .i64 loads] 2)).heap.size = w.heap.size + 2 := by simp
  have b0 := (Blk.new w (.cells #[.int .i64 y.load, .slice sa y.logs.length cap] 24)).alloc (.cells #[.int .i64 loads] 2)
  have HW := Lib.hid hw
  clear hw
  have HP0 := Lib.hid hp
  clear hp hy
  go_enter Try.func36, Try.ntmps36
  go_wp2_with fail
  generalize (w.alloc (.cells #[.int .i64 y.load, .slice sa y.logs.length cap] 24)).alloc (.cells #[.int .i64 loads] 2) = W0 at *
  refine (lay_ok _ y _ HV.out HYD.out).mono ?_
  rintro e w1 ⟨T, M, n₀, sv, H, rfl, hL, hT, hM, hb1⟩
  have HL := Lib.hid hL
  have HB1 := Lib.hid (bC hB0 hb1)
  replace b2 := b2.below hb1
  replace b0 := b0.below hb1
  clear hL hB0 HV
  have hb3 := b2.cell 0
  simp at hb3
  have hl2 := b2.lt
  have hl0 := b0.lt
  go_wp2_with fail
  clear hb3
  have bvx := Blk.new w1 (.cells #[.pointer (some ⟨T, 0, none⟩)] 70)
  have hbv := below1 w1 (.cells #[.pointer (some ⟨T, 0, none⟩)] 70)
  have HL1 := Lib.hid (HL.out.below hbv)
  have HBB := Lib.hid (bC HB1.out hbv)
  replace b0 := b0.below hbv
  replace b2 := b2.below hbv
  obtain ⟨vx, hvx⟩ : ∃ vx, w1.heap.size = vx := ⟨_, rfl⟩
  have HVX := Lib.hid hvx
  rw [hvx] at bvx ⊢
  have hz2 : (w1.alloc (.cells #[.pointer (some ⟨T, 0, none⟩)] 70)).heap.size = vx + 1 := by simp [hvx]
  have hTL := HL.out.vat.lt
  have hTn := HL.out.size
  clear hbv hvx HL HB1
  generalize w1.alloc (.cells #[.pointer (some ⟨T, 0, none⟩)] 70) = w2 at *
  have hwn := Blk.new w2 (.cells #[.int .i64 loads] 2)
  rw [hz2] at hwn
  have hbn := below1 w2 (.cells #[.int .i64 loads] 2)
  have HL2 := Lib.hid (HL1.out.below hbn)
  have HB2 := Lib.hid (bC HBB.out hbn)
  replace b0 := b0.below hbn
  replace b2 := b2.below hbn
  have bvx2 := bvx.below hbn
  have hvl := bvx.lt
  clear hbn HL1 HBB bvx
  generalize w2.alloc (.cells #[.int .i64 loads] 2) = w3 at *
  refine (within_any 0 10 _ [loads] _ (IntsAt.mk1 (by simpa using hwn.cell 0)) (by simp)).mono ?_
  rintro e w4 ⟨rfl, rfl⟩
  rw [HW.out]
  have y0 := b0.cell 0
  have y1 := b0.cell 1
  simp at y0 y1
  have HPP := Lib.hid (show PairsAt w3 (.slice sa y.logs.length cap) y.logs from HP0.out.below HB2.out)
  have HNE := Lib.hid (show ∀ b off n c, Value.slice sa y.logs.length cap = .slice (some ⟨b, off, none⟩) n c → y.logs ≠ [] → b < w.heap.size from fun b off n c e hne => by
    obtain ⟨a', c', e2, hc⟩ := HP0.out
    obtain ⟨b', off', e3, hc⟩ := hc hne
    rw [e3] at e2
    rw [e2] at e
    cases e
    exact lt_of_cell (hc 0 (by cases hq : y.logs with | nil => exact absurd hq hne | cons _ _ => simp)).1)
  have HK := Lib.hid (show KSt T M w3 from ⟨_, _, _, _, HL2.out.pre HYD.out, HL2.out.map⟩)
  go_wp2_with fail
  have hvx := HVX.out
  have HEE : Hid (EnvK w3 T M vx w.heap.size (w.heap.size + 1) y (.slice sa y.logs.length cap) loads) := Lib.hid ⟨by simpa using bvx2.cell 0, y0, y1, by simpa using b2.cell 0, ⟨by omega, by omega, by omega⟩, HPP.out, fun b off n c e hne => by have := HNE.out b off n c e hne; omega⟩
  refine (longest_any loads y.logs.length 0 T M vx w.heap.size (w.heap.size + 1) y _ (.slice none 0 0) [] _ HEE.out HK.out HYD.out (by omega) (LIn.nil _ _ _) (by simp) (Nat.le_refl _)).mono ?_
  rintro e w5 ⟨v5, rfl, hl5, hk5, hF5⟩
  have HKL := Lib.hid (show lng (okK y loads) y.logs.length y.logs.length [] [] = keepL y loads from rfl)
  rw [HKL.out] at hl5
  have HI5 := Lib.hid hl5.ints
  have HNIL := Lib.hid hl5.2.2
  have hkl : (keepL y loads).length ≤ 10 := by
    have := lng_len (ok := okK y loads) (N := y.logs.length) y.logs.length [] [] (by simp) (by simp)
    rw [HKL.out] at this
    omega
  have HB5 := Lib.hid (HB2.out.trans (hF5.belowN (n₀ := w.heap.size) (by omega) (by omega) HB2.out.size))
  obtain ⟨L, hL⟩ : ∃ L, keepL y loads = L := ⟨_, rfl⟩
  have HL := Lib.hid hL
  rw [hL] at HI5 HNIL hkl
  clear hl5 hk5 hF5 HKL hL
  by_cases hne : L = []
  · have hv5 := HNIL.out hne
    subst hv5
    have HLE := Lib.hid hne
    clear hne
    go_wp2_with fail
    refine (takenN0_any _).mono ?_
    rintro e w6 ⟨v6, rfl, hi6, hb6⟩
    have HE := Lib.hid (And.intro hi6 (bC HB5.out hb6))
    clear hi6 hb6
    go_wp2
    go_ret2
    exact ⟨_, rfl, by rw [HL.out, HLE.out]; exact HE.out.1, HE.out.2⟩
  · have HNN := Lib.hid (show L.map (Nat.cast : Nat → Int) ≠ [] by simpa using hne)
    clear hne
    go_wp2_with fail
    refine (takenN_any _ (L.map (Nat.cast : Nat → Int)) _ HI5.out HNN.out (by simp; omega)).mono ?_
    rintro e w6 ⟨g, gc, rfl, hg, hblk, hb6⟩
    have HE := Lib.hid (And.intro (IntsAt.of_blk (cap := gc) hblk) (bC HB5.out hb6))
    clear hblk hb6
    go_wp2
    go_ret2
    exact ⟨_, rfl, by rw [HL.out]; simpa using HE.out.1, HE.out.2⟩
end Go.Proofs.Ytjbeoakikdkdaaa
