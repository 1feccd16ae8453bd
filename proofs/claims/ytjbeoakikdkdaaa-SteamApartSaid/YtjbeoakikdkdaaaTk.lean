import Derived.Test.YtjbeoakikdkdaaaTa
namespace Go.Proofs.Ytjbeoakikdkdaaa
open Go.RowKit Go.Vat Go.Sort Go.Shelf
attribute [local go_sem] Oper.semAt_some

/-! ## Two yards, the one behind the other one -/
def thL (ls : List (Int × Int)) : List (Int × Int) := ls.map fun l => (l.1 / 3, l.2 / 3)
def fiL (ls : List (Int × Int)) : List (Int × Int) := ls.map fun l => (50 + l.1 / 3, 50 + l.2 / 3)
theorem thL_step {ls : List (Int × Int)} {k : Nat} (h : k < ls.length) : thL (ls.take (k + 1)) = thL (ls.take k) ++ [(ls[k].1 / 3, ls[k].2 / 3)] := by
  unfold thL
  rw [List.take_succ_eq_append_getElem h, List.map_append]
  rfl
theorem fiL_step {ls : List (Int × Int)} {k : Nat} (h : k < ls.length) : fiL (ls.take (k + 1)) = fiL (ls.take k) ++ [(50 + ls[k].1 / 3, 50 + ls[k].2 / 3)] := by
  unfold fiL
  rw [List.take_succ_eq_append_getElem h, List.map_append]
  rfl
theorem pairs_fr {w W : World} {L : Nat} {v : Value} {l : List (Int × Int)} (h : PairsAt w v l) (hne : ∀ b o n c, v = .slice (some ⟨b, o, none⟩) n c → b ≠ L) (hF : FrL w L W) : PairsAt W v l := by
  obtain ⟨a, cap, rfl, hc⟩ := h
  refine ⟨a, cap, rfl, fun hl => ?_⟩
  obtain ⟨b, off, rfl, hd⟩ := hc hl
  have h1 := hne b off _ _ rfl
  exact ⟨b, off, rfl, fun i hi => ⟨cellF (hd i hi).1 hF h1, cellF (hd i hi).2 hF h1⟩⟩
theorem src_pairsN {w : World} {a : Option Addr} {n c : Nat} {l : List (Int × Int)} (h : PairsAt w (.slice a n c) l) (e : l.length = n) : SrcAt w a n 2 (pairCells l) := by
  subst e
  exact src_pairs h
theorem one2' (y z : Int) : ∀ u ∈ ([.int .i64 y, .int .i64 z] : List Value), u.oneCell' = true := by
  intro u hu
  simp only [List.mem_cons, List.not_mem_nil, or_false] at hu
  rcases hu with rfl | rfl <;> rfl
theorem yard_pp {w : World} {a : Int} {sv : Value} {y : YardD} (h : YardAt w (.agg #[.int .i64 a, sv]) y) : PairsAt w sv y.logs := by
  obtain ⟨sv', e, hp⟩ := h
  simp at e
  obtain ⟨_, rfl⟩ := e
  exact hp
theorem pairCells_ap (l k : List (Int × Int)) : pairCells (l ++ k) = pairCells l ++ pairCells k := by simp [pairCells]
theorem th_ok {y : YardD} (hy : y.Ok) : YardD.Ok ⟨y.load, thL y.logs⟩ := ⟨hy.l1, hy.l2, by simp only [thL, List.length_map]; exact hy.count, fun l hl => by
  obtain ⟨k, hk, rfl⟩ := List.mem_map.1 hl
  have := hy.log k hk
  simp only
  omega⟩
theorem fi_ok {y z : YardD} (hy : y.Ok) (hz : z.Ok) : YardD.Ok ⟨y.load, fiL z.logs⟩ := ⟨hy.l1, hy.l2, by simp only [fiL, List.length_map]; exact hz.count, fun l hl => by
  obtain ⟨k, hk, rfl⟩ := List.mem_map.1 hl
  have := hz.log k hk
  simp only
  omega⟩
theorem two_ok {y z : YardD} (hy : y.Ok) (hz : z.Ok) (h : y.logs.length + z.logs.length ≤ 10) : YardD.Ok ⟨y.load, thL y.logs ++ fiL z.logs⟩ := ⟨hy.l1, hy.l2, by simp only [thL, fiL, List.length_append, List.length_map]; exact h, fun l hl => by
  rcases List.mem_append.1 hl with h | h
  · exact (th_ok hy).log l h
  · exact (fi_ok hy hz).log l h⟩
theorem th_lt {y : YardD} (hy : y.Ok) : ∀ l ∈ thL y.logs, l.2 < ((50 : Nat) : Int) := fun l hl => by
  obtain ⟨k, hk, rfl⟩ := List.mem_map.1 hl
  have := hy.log k hk
  simp only
  omega
theorem fi_ge {z : YardD} (hz : z.Ok) : ∀ l ∈ fiL z.logs, ((50 : Nat) : Int) ≤ l.1 := fun l hl => by
  obtain ⟨k, hk, rfl⟩ := List.mem_map.1 hl
  have := hz.log k hk
  simp only
  omega
theorem apart_U {y z : YardD} (hy : y.Ok) (hz : z.Ok) (h : y.logs.length + z.logs.length ≤ 10) : U ⟨y.load, thL y.logs ++ fiL z.logs⟩ 101 = U ⟨y.load, thL y.logs⟩ 101 + U ⟨y.load, fiL z.logs⟩ 101 :=
  U_apart (y := ⟨y.load, thL y.logs⟩) (z := ⟨y.load, fiL z.logs⟩) (w := ⟨y.load, thL y.logs ++ fiL z.logs⟩) (m := 50) (th_ok hy) (fi_ok hy hz) (two_ok hy hz h) rfl rfl (List.Perm.refl _) (th_lt hy) (fi_ge hz) 101
theorem apart_E {y z : YardD} (hy : y.Ok) (hz : z.Ok) (h : y.logs.length + z.logs.length ≤ 10) : earlyL ⟨y.load, thL y.logs ++ fiL z.logs⟩ = earlyL ⟨y.load, thL y.logs⟩ ++ earlyL ⟨y.load, fiL z.logs⟩ :=
  earlyL_apart (y := ⟨y.load, thL y.logs⟩) (z := ⟨y.load, fiL z.logs⟩) (w := ⟨y.load, thL y.logs ++ fiL z.logs⟩) (m := 50) (th_ok hy) (fi_ok hy hz) (two_ok hy hz h) rfl rfl (List.Perm.refl _) (by decide) (th_lt hy) (fi_ge hz)
set_option maxRecDepth 100000 in
set_option maxHeartbeats 16000000 in
theorem SteamApart_any (v zv : Value) (z y : YardD) (w : World) (hv : YardAt w v y) (hz : YardAt w zv z) :
    Calls Try.prog 14 #[v, zv] w fun e w' => e = .returned (.bool true) ∧ Below w.heap.size w w' := by
  obtain ⟨sv, rfl, hp⟩ := hv
  obtain ⟨sa, cap, rfl⟩ := hp.slice
  obtain ⟨tv, rfl, hq⟩ := hz
  obtain ⟨za, zc, rfl⟩ := hq.slice
  have hB0 := below2 w (.cells #[.int .i64 y.load, .slice sa y.logs.length cap] 24) (.cells #[.int .i64 z.load, .slice za z.logs.length zc] 24)
  have HB := Lib.hid hB0
  have B0 := Lib.hid ((Blk.new w (.cells #[.int .i64 y.load, .slice sa y.logs.length cap] 24)).alloc (.cells #[.int .i64 z.load, .slice za z.logs.length zc] 24))
  have B1 := Lib.hid (Blk.new (w.alloc (.cells #[.int .i64 y.load, .slice sa y.logs.length cap] 24)) (.cells #[.int .i64 z.load, .slice za z.logs.length zc] 24))
  rw [World.size_alloc] at B1
  have HV := Lib.hid (show YardAt _ (.agg #[.int .i64 y.load, .slice sa y.logs.length cap]) y from ⟨_, rfl, hp.below hB0⟩)
  have HZ := Lib.hid (show YardAt _ (.agg #[.int .i64 z.load, .slice za z.logs.length zc]) z from ⟨_, rfl, hq.below hB0⟩)
  clear hp hq hB0
  by_cases hyd : y.Ok
  case neg =>
    go_enter Try.func14, Try.ntmps14
    go_wp2_with fail
    generalize (w.alloc (.cells #[.int .i64 y.load, .slice sa y.logs.length cap] 24)).alloc (.cells #[.int .i64 z.load, .slice za z.logs.length zc] 24) = W0 at *
    refine (fine_no (.agg #[.int .i64 y.load, .slice sa y.logs.length cap]) y _ HV.out hyd).mono ?_
    rintro e v1 ⟨rfl, hb⟩
    replace HV := Lib.hid (HV.out.below hb)
    replace HZ := Lib.hid (HZ.out.below hb)
    replace B0 := Lib.hid (B0.out.below hb)
    replace B1 := Lib.hid (B1.out.below hb)
    replace HB := Lib.hid (bC HB.out hb)
    clear hb
    have hun : undef = Value.tuple #[] := rfl
    have B0c0 := B0.out.cell 0
    have B0c1 := B0.out.cell 1
    have B1c0 := B1.out.cell 0
    have B1c1 := B1.out.cell 1
    simp at B0c0 B0c1 B1c0 B1c1
    go_wp2_with fail
    clear B0c0 B0c1 B1c0 B1c1
    clear hun
    refine (Works_any _).mono ?_
    rintro e v2 ⟨rfl, hb⟩
    replace HV := Lib.hid (HV.out.below hb)
    replace HZ := Lib.hid (HZ.out.below hb)
    replace B0 := Lib.hid (B0.out.below hb)
    replace B1 := Lib.hid (B1.out.below hb)
    replace HB := Lib.hid (bC HB.out hb)
    clear hb
    go_wp2
    go_ret
    exact ⟨rfl, HB.out⟩
  have HYD := Lib.hid hyd
  have hl10 := hyd.count
  clear hyd
  by_cases hzd : z.Ok
  case neg =>
    go_enter Try.func14, Try.ntmps14
    go_wp2_with fail
    generalize (w.alloc (.cells #[.int .i64 y.load, .slice sa y.logs.length cap] 24)).alloc (.cells #[.int .i64 z.load, .slice za z.logs.length zc] 24) = W0 at *
    refine (fine_yes (.agg #[.int .i64 y.load, .slice sa y.logs.length cap]) y _ HV.out HYD.out).mono ?_
    rintro e v1 ⟨rfl, hb⟩
    replace HV := Lib.hid (HV.out.below hb)
    replace HZ := Lib.hid (HZ.out.below hb)
    replace B0 := Lib.hid (B0.out.below hb)
    replace B1 := Lib.hid (B1.out.below hb)
    replace HB := Lib.hid (bC HB.out hb)
    clear hb
    have B0c0 := B0.out.cell 0
    have B0c1 := B0.out.cell 1
    have B1c0 := B1.out.cell 0
    have B1c1 := B1.out.cell 1
    simp at B0c0 B0c1 B1c0 B1c1
    go_wp2_with fail
    clear B0c0 B0c1 B1c0 B1c1
    refine (fine_no (.agg #[.int .i64 z.load, .slice za z.logs.length zc]) z _ HZ.out hzd).mono ?_
    rintro e v2 ⟨rfl, hb⟩
    replace HV := Lib.hid (HV.out.below hb)
    replace HZ := Lib.hid (HZ.out.below hb)
    replace B0 := Lib.hid (B0.out.below hb)
    replace B1 := Lib.hid (B1.out.below hb)
    replace HB := Lib.hid (bC HB.out hb)
    clear hb
    have hun : undef = Value.tuple #[] := rfl
    have B0c0 := B0.out.cell 0
    have B0c1 := B0.out.cell 1
    have B1c0 := B1.out.cell 0
    have B1c1 := B1.out.cell 1
    simp at B0c0 B0c1 B1c0 B1c1
    go_wp2_with fail
    clear B0c0 B0c1 B1c0 B1c1
    clear hun
    refine (Works_any _).mono ?_
    rintro e v3 ⟨rfl, hb⟩
    replace HV := Lib.hid (HV.out.below hb)
    replace HZ := Lib.hid (HZ.out.below hb)
    replace B0 := Lib.hid (B0.out.below hb)
    replace B1 := Lib.hid (B1.out.below hb)
    replace HB := Lib.hid (bC HB.out hb)
    clear hb
    go_wp2
    go_ret
    exact ⟨rfl, HB.out⟩
  have HZD := Lib.hid hzd
  have hk10 := hzd.count
  clear hzd
  by_cases hs : 10 < y.logs.length + z.logs.length
  · have s1 : decide ((y.logs.length : Int) + (z.logs.length : Int) > 10) = true := decide_eq_true (by omega)
    have s2 : decide ((10 : Int) < (y.logs.length : Int) + (z.logs.length : Int)) = true := decide_eq_true (by omega)
    have s3 : decide (10 < y.logs.length + z.logs.length) = true := decide_eq_true (by omega)
    go_enter Try.func14, Try.ntmps14
    go_wp2_with fail
    generalize (w.alloc (.cells #[.int .i64 y.load, .slice sa y.logs.length cap] 24)).alloc (.cells #[.int .i64 z.load, .slice za z.logs.length zc] 24) = W0 at *
    refine (fine_yes (.agg #[.int .i64 y.load, .slice sa y.logs.length cap]) y _ HV.out HYD.out).mono ?_
    rintro e v1 ⟨rfl, hb⟩
    replace HV := Lib.hid (HV.out.below hb)
    replace HZ := Lib.hid (HZ.out.below hb)
    replace B0 := Lib.hid (B0.out.below hb)
    replace B1 := Lib.hid (B1.out.below hb)
    replace HB := Lib.hid (bC HB.out hb)
    clear hb
    have B0c0 := B0.out.cell 0
    have B0c1 := B0.out.cell 1
    have B1c0 := B1.out.cell 0
    have B1c1 := B1.out.cell 1
    simp at B0c0 B0c1 B1c0 B1c1
    go_wp2_with fail
    clear B0c0 B0c1 B1c0 B1c1
    refine (fine_yes (.agg #[.int .i64 z.load, .slice za z.logs.length zc]) z _ HZ.out HZD.out).mono ?_
    rintro e v2 ⟨rfl, hb⟩
    replace HV := Lib.hid (HV.out.below hb)
    replace HZ := Lib.hid (HZ.out.below hb)
    replace B0 := Lib.hid (B0.out.below hb)
    replace B1 := Lib.hid (B1.out.below hb)
    replace HB := Lib.hid (bC HB.out hb)
    clear hb
    have B0c0 := B0.out.cell 0
    have B0c1 := B0.out.cell 1
    have B1c0 := B1.out.cell 0
    have B1c1 := B1.out.cell 1
    simp at B0c0 B0c1 B1c0 B1c1
    go_wp2_with fail
    clear B0c0 B0c1 B1c0 B1c1
    refine (Works_any _).mono ?_
    rintro e v3 ⟨rfl, hb⟩
    replace HV := Lib.hid (HV.out.below hb)
    replace HZ := Lib.hid (HZ.out.below hb)
    replace B0 := Lib.hid (B0.out.below hb)
    replace B1 := Lib.hid (B1.out.below hb)
    replace HB := Lib.hid (bC HB.out hb)
    clear hb
    go_wp2
    go_ret
    exact ⟨rfl, HB.out⟩
  have s1 : decide ((y.logs.length : Int) + (z.logs.length : Int) > 10) = false := decide_eq_false (by omega)
  have s2 : decide ((10 : Int) < (y.logs.length : Int) + (z.logs.length : Int)) = false := decide_eq_false (by omega)
  have s3 : decide (10 < y.logs.length + z.logs.length) = false := decide_eq_false (by omega)
  go_enter Try.func14, Try.ntmps14
  go_wp2_with fail
  generalize (w.alloc (.cells #[.int .i64 y.load, .slice sa y.logs.length cap] 24)).alloc (.cells #[.int .i64 z.load, .slice za z.logs.length zc] 24) = W0 at *
  refine (fine_yes (.agg #[.int .i64 y.load, .slice sa y.logs.length cap]) y _ HV.out HYD.out).mono ?_
  rintro e v1 ⟨rfl, hb⟩
  replace HV := Lib.hid (HV.out.below hb)
  replace HZ := Lib.hid (HZ.out.below hb)
  replace B0 := Lib.hid (B0.out.below hb)
  replace B1 := Lib.hid (B1.out.below hb)
  replace HB := Lib.hid (bC HB.out hb)
  clear hb
  have B0c0 := B0.out.cell 0
  have B0c1 := B0.out.cell 1
  have B1c0 := B1.out.cell 0
  have B1c1 := B1.out.cell 1
  simp at B0c0 B0c1 B1c0 B1c1
  go_wp2_with fail
  clear B0c0 B0c1 B1c0 B1c1
  refine (fine_yes (.agg #[.int .i64 z.load, .slice za z.logs.length zc]) z _ HZ.out HZD.out).mono ?_
  rintro e v2 ⟨rfl, hb⟩
  replace HV := Lib.hid (HV.out.below hb)
  replace HZ := Lib.hid (HZ.out.below hb)
  replace B0 := Lib.hid (B0.out.below hb)
  replace B1 := Lib.hid (B1.out.below hb)
  replace HB := Lib.hid (bC HB.out hb)
  clear hb
  have hz0 : w.heap.size < v2.heap.size := B0.out.lt
  have hz1 : w.heap.size < v2.heap.size + 1 := by omega
  have B0c0 := B0.out.cell 0
  have B0c1 := B0.out.cell 1
  have B1c0 := B1.out.cell 0
  have B1c1 := B1.out.cell 1
  simp at B0c0 B0c1 B1c0 B1c1
  go_wp2_with fail
  clear B0c0 B0c1 B1c0 B1c1
  clear s1 s2 s3 hz0 hz1
  have hs10 : y.logs.length + z.logs.length ≤ 10 := by omega
  have HPY := Lib.hid (fun k (hk : k < y.logs.length) => PairsAt.get0 (yard_pp HV.out) hk)
  have HPZ := Lib.hid (fun k (hk : k < z.logs.length) => PairsAt.get0 (yard_pp HZ.out) hk)
  have hb := (below2 v2 (.cells #[.int .i64 y.load, .slice none 0 0] 24) (.cells #[.int .i64 y.load, .slice none 0 0] 24)).trans ((below1 ((v2.alloc (.cells #[.int .i64 y.load, .slice none 0 0] 24)).alloc (.cells #[.int .i64 y.load, .slice none 0 0] 24)) (.cells #[.int .i64 y.load, .slice none 0 0] 24)).mono (by simp; omega))
  have G1 := Lib.hid (((Blk.new v2 (.cells #[.int .i64 y.load, .slice none 0 0] 24)).alloc (.cells #[.int .i64 y.load, .slice none 0 0] 24)).alloc (.cells #[.int .i64 y.load, .slice none 0 0] 24))
  have G2 := Lib.hid ((Blk.new (v2.alloc (.cells #[.int .i64 y.load, .slice none 0 0] 24)) (.cells #[.int .i64 y.load, .slice none 0 0] 24)).alloc (.cells #[.int .i64 y.load, .slice none 0 0] 24))
  have G3 := Lib.hid (Blk.new ((v2.alloc (.cells #[.int .i64 y.load, .slice none 0 0] 24)).alloc (.cells #[.int .i64 y.load, .slice none 0 0] 24)) (.cells #[.int .i64 y.load, .slice none 0 0] 24))
  rw [World.size_alloc] at G2
  rw [World.size_alloc, World.size_alloc] at G3
  have HSZ := Lib.hid (show (((v2.alloc (.cells #[.int .i64 y.load, .slice none 0 0] 24)).alloc (.cells #[.int .i64 y.load, .slice none 0 0] 24)).alloc (.cells #[.int .i64 y.load, .slice none 0 0] 24)).heap.size = v2.heap.size + 3 by simp)
  have HCL := Lib.hid (show w.heap.size + 1 < v2.heap.size from B1.out.lt)
  have HWC := Lib.hid hb
  clear hb hs
  generalize ((v2.alloc (.cells #[.int .i64 y.load, .slice none 0 0] 24)).alloc (.cells #[.int .i64 y.load, .slice none 0 0] 24)).alloc (.cells #[.int .i64 y.load, .slice none 0 0] 24) = Wz at *
  obtain ⟨L, hL⟩ : ∃ L, v2.heap.size = L := ⟨_, rfl⟩
  have HLC := Lib.hid hL
  rw [hL] at G1 G2 G3 HSZ HCL ⊢
  clear hL
  replace HV := Lib.hid (HV.out.below HWC.out)
  replace HZ := Lib.hid (HZ.out.below HWC.out)
  replace B0 := Lib.hid (B0.out.below HWC.out)
  replace B1 := Lib.hid (B1.out.below HWC.out)
  replace HB := Lib.hid (bC HB.out HWC.out)
  have HLE := Lib.hid (show Below w.heap.size w Wz ∧ w.heap.size ≤ L from ⟨HB.out, by have := HCL.out; omega⟩)
  obtain ⟨M, hM⟩ : ∃ M, L + 1 = M := ⟨_, rfl⟩
  obtain ⟨K, hK⟩ : ∃ K, M + 1 = K := ⟨_, rfl⟩
  rw [hM] at G2 G3 ⊢
  rw [hK] at G3 ⊢
  have HMK := Lib.hid (show L + 1 = M ∧ M + 1 = K from ⟨hM, hK⟩)
  clear hM hK
  have HCW := Lib.hid HLC.out
  have HCB := Lib.hid HWC.out
  clear HLC HWC
  go_loopw [8] (fun i wr => ∃ (k : Nat) (s : Value), k ≤ y.logs.length ∧ i = .int .i64 k ∧ Blk wr L (.cells #[.int .i64 y.load, s] 24) ∧ wr.ownsRow Wz.heap.size 27 2 s k (pairCells (thL (y.logs.take k))) ∧ FrL Wz L wr) (fun i _ => y.logs.length - (intOf i).toNat)
  case atStart => exact ⟨0, _, Nat.zero_le _, rfl, G1.out, by simpa [thL, pairCells] using owns_nil _ _ _ _, FrL.of_below (Below.refl _ _)⟩
  case round =>
    clear G1
    obtain ⟨k, s, hk, rfl, hbL, hown, hF⟩ := hrel
    obtain ⟨ra, rc, rfl⟩ := owns_slice hown
    have HOWN := Lib.hid hown
    have HF := Lib.hid hF
    have HBL := Lib.hid hbL
    have hzL := hbL.lt
    have hfz := hF.size
    have HXX := Lib.hid (B0.out.fr' hF (by have := HMK.out; have := HCL.out; omega))
    have x1 := HXX.out.cell 1
    simp at x1
    have cL1 := hbL.cell 1
    simp at cL1
    clear hown hbL hF
    by_cases hlt : k < y.logs.length
    · obtain ⟨pb, off, rfl, hpw, hc, hd⟩ := HPY.out k hlt
      have hpl : pb ≠ L := by have := HMK.out; have := HCL.out; have := HCW.out; omega
      replace hc := cellF (cellB hc HCB.out) HF.out hpl
      replace hd := cellF (cellB hd HCB.out) HF.out hpl
      have hlg := HYD.out.log _ (List.getElem_mem hlt)
      have HST := Lib.hid (thL_step hlt)
      obtain ⟨l1, hl1⟩ : ∃ x, y.logs[k].1 = x := ⟨_, rfl⟩
      obtain ⟨l2, hl2⟩ : ∃ x, y.logs[k].2 = x := ⟨_, rfl⟩
      rw [hl1] at hc hlg HST
      rw [hl2] at hd hlg HST
      obtain ⟨g0, g1, g2⟩ := hlg
      have q3 : (k : Int) < (y.logs.length : Int) := by omega
      clear hl1 hl2 hpl hpw
      go_wp2_with fail
      have y0 : wr.drew.cell? ⟨L, 1, none⟩ = some (.slice ra k rc) := cL1
      have y1 : wr.drew.cell? ⟨w.heap.size, 1, none⟩ = some (.slice (some ⟨pb, off, none⟩) y.logs.length cap) := x1
      have y2 : wr.drew.cell? ⟨pb, off + k * 2, none⟩ = some (.int .i64 l1) := hc
      have y3 : wr.drew.cell? ⟨pb, off + k * 2 + 1, none⟩ = some (.int .i64 l2) := hd
      have own : wr.drew.ownsRow Wz.heap.size 27 2 (.slice ra k rc) k (pairCells (thL (y.logs.take k))) := HOWN.out
      have BL : Blk wr.drew L (.cells #[.int .i64 y.load, .slice ra k rc] 24) := HBL.out
      have FF : FrL Wz L wr.drew := HF.out.below ((Below.refl _ _).drew)
      clear HOWN HBL HF HXX cL1 x1 hc hd hzL hfz
      refine (wp_region_T 18 (fun W' => W'.cell? ⟨L, 1, none⟩ = some (.slice ra k rc) ∧ W'.cell? ⟨w.heap.size, 1, none⟩ = some (.slice (some ⟨pb, off, none⟩) y.logs.length cap) ∧ W'.cell? ⟨pb, off + k * 2, none⟩ = some (.int .i64 l1) ∧ W'.cell? ⟨pb, off + k * 2 + 1, none⟩ = some (.int .i64 l2)) (by kernel_rfl) (by kernel_rfl) ⟨y0, y1, y2, y3⟩ ?_)
      intro inv hS
      clear y0 y1 y2 y3
      generalize wr.drew = V0 at *
      refine wpAnyT_take inv (by kernel_rfl) (by omega) (i := 0) (v := .pointer (some ⟨L, 1, none⟩)) rfl (by kernel_rfl) (by kernel_rfl) (fun _ _ _ h => h) (Or.inl ⟨by kernel_rfl, ?_⟩) (by assumption) ?_
      · rintro W' ⟨q0, q1, q2, q3⟩
        go_simp
      intro inv2
      clear inv
      have inv := inv2
      clear inv2
      simp only [Act.put, List.setIfInBounds_toArray]
      refine wpAnyT_take inv (by kernel_rfl) (by omega) (i := 1) (v := .slice ra k rc) rfl (by kernel_rfl) (by kernel_rfl) (fun _ _ _ h => h) (Or.inl ⟨by kernel_rfl, ?_⟩) (by assumption) ?_
      · rintro W' ⟨q0, q1, q2, q3⟩
        go_simp
      intro inv2
      clear inv
      have inv := inv2
      clear inv2
      simp only [Act.put]
      refine wpAnyT_take inv (by kernel_rfl) (by omega) (i := 2) (v := .pointer (some ⟨w.heap.size, 1, none⟩)) rfl (by kernel_rfl) (by kernel_rfl) (fun _ _ _ h => h) (Or.inl ⟨by kernel_rfl, ?_⟩) (by assumption) ?_
      · rintro W' ⟨q0, q1, q2, q3⟩
        go_simp
      intro inv2
      clear inv
      have inv := inv2
      clear inv2
      simp only [Act.put]
      refine wpAnyT_take inv (by kernel_rfl) (by omega) (i := 3) (v := .slice (some ⟨pb, off, none⟩) y.logs.length cap) rfl (by kernel_rfl) (by kernel_rfl) (fun _ _ _ h => h) (Or.inl ⟨by kernel_rfl, ?_⟩) (by assumption) ?_
      · rintro W' ⟨q0, q1, q2, q3⟩
        go_simp
      intro inv2
      clear inv
      have inv := inv2
      clear inv2
      simp only [Act.put]
      refine wpAnyT_take inv (by kernel_rfl) (by omega) (i := 4) (v := .int .i64 (k : Int)) rfl (by kernel_rfl) (by kernel_rfl) (fun _ _ _ h => h) (Or.inl ⟨by kernel_rfl, ?_⟩) (by assumption) ?_
      · rintro W' ⟨q0, q1, q2, q3⟩
        go_simp
      intro inv2
      clear inv
      have inv := inv2
      clear inv2
      simp only [Act.put]
      refine wpAnyT_take inv (by kernel_rfl) (by omega) (i := 5) (v := .pointer (some ⟨pb, off + k * 2, none⟩)) rfl (by kernel_rfl) (by kernel_rfl) (fun _ _ _ h => h) (Or.inl ⟨by kernel_rfl, ?_⟩) (by assumption) ?_
      · rintro W' ⟨q0, q1, q2, q3⟩
        go_simp
      intro inv2
      clear inv
      have inv := inv2
      clear inv2
      simp only [Act.put]
      refine wpAnyT_take inv (by kernel_rfl) (by omega) (i := 6) (v := .pointer (some ⟨pb, off + k * 2, none⟩)) rfl (by kernel_rfl) (by kernel_rfl) (fun _ _ _ h => h) (Or.inl ⟨by kernel_rfl, ?_⟩) (by assumption) ?_
      · rintro W' ⟨q0, q1, q2, q3⟩
        go_simp
      intro inv2
      clear inv
      have inv := inv2
      clear inv2
      simp only [Act.put]
      refine wpAnyT_take inv (by kernel_rfl) (by omega) (i := 7) (v := .int .i64 l1) rfl (by kernel_rfl) (by kernel_rfl) (fun _ _ _ h => h) (Or.inl ⟨by kernel_rfl, ?_⟩) (by assumption) ?_
      · rintro W' ⟨q0, q1, q2, q3⟩
        go_simp
      intro inv2
      clear inv
      have inv := inv2
      clear inv2
      simp only [Act.put]
      refine wpAnyT_take inv (by kernel_rfl) (by omega) (i := 8) (v := .int .i64 (l1 / 3)) rfl (by kernel_rfl) (by kernel_rfl) (fun _ _ _ h => h) (Or.inl ⟨by kernel_rfl, ?_⟩) (by assumption) ?_
      · rintro W' ⟨q0, q1, q2, q3⟩
        go_simp
        rw [Int.tdiv_eq_ediv_of_nonneg (by omega)]
        exact IntWalk.i64_in _ (by omega)
      intro inv2
      clear inv
      have inv := inv2
      clear inv2
      simp only [Act.put]
      refine wpAnyT_take inv (by kernel_rfl) (by omega) (i := 9) (v := .pointer (some ⟨w.heap.size, 1, none⟩)) rfl (by kernel_rfl) (by kernel_rfl) (fun _ _ _ h => h) (Or.inl ⟨by kernel_rfl, ?_⟩) (by assumption) ?_
      · rintro W' ⟨q0, q1, q2, q3⟩
        go_simp
      intro inv2
      clear inv
      have inv := inv2
      clear inv2
      simp only [Act.put]
      refine wpAnyT_take inv (by kernel_rfl) (by omega) (i := 10) (v := .slice (some ⟨pb, off, none⟩) y.logs.length cap) rfl (by kernel_rfl) (by kernel_rfl) (fun _ _ _ h => h) (Or.inl ⟨by kernel_rfl, ?_⟩) (by assumption) ?_
      · rintro W' ⟨q0, q1, q2, q3⟩
        go_simp
      intro inv2
      clear inv
      have inv := inv2
      clear inv2
      simp only [Act.put]
      refine wpAnyT_take inv (by kernel_rfl) (by omega) (i := 11) (v := .int .i64 (k : Int)) rfl (by kernel_rfl) (by kernel_rfl) (fun _ _ _ h => h) (Or.inl ⟨by kernel_rfl, ?_⟩) (by assumption) ?_
      · rintro W' ⟨q0, q1, q2, q3⟩
        go_simp
      intro inv2
      clear inv
      have inv := inv2
      clear inv2
      simp only [Act.put]
      refine wpAnyT_take inv (by kernel_rfl) (by omega) (i := 12) (v := .pointer (some ⟨pb, off + k * 2, none⟩)) rfl (by kernel_rfl) (by kernel_rfl) (fun _ _ _ h => h) (Or.inl ⟨by kernel_rfl, ?_⟩) (by assumption) ?_
      · rintro W' ⟨q0, q1, q2, q3⟩
        go_simp
      intro inv2
      clear inv
      have inv := inv2
      clear inv2
      simp only [Act.put]
      refine wpAnyT_take inv (by kernel_rfl) (by omega) (i := 13) (v := .pointer (some ⟨pb, off + k * 2 + 1, none⟩)) rfl (by kernel_rfl) (by kernel_rfl) (fun _ _ _ h => h) (Or.inl ⟨by kernel_rfl, ?_⟩) (by assumption) ?_
      · rintro W' ⟨q0, q1, q2, q3⟩
        go_simp
      intro inv2
      clear inv
      have inv := inv2
      clear inv2
      simp only [Act.put]
      refine wpAnyT_take inv (by kernel_rfl) (by omega) (i := 14) (v := .int .i64 l2) rfl (by kernel_rfl) (by kernel_rfl) (fun _ _ _ h => h) (Or.inl ⟨by kernel_rfl, ?_⟩) (by assumption) ?_
      · rintro W' ⟨q0, q1, q2, q3⟩
        go_simp
      intro inv2
      clear inv
      have inv := inv2
      clear inv2
      simp only [Act.put]
      refine wpAnyT_take inv (by kernel_rfl) (by omega) (i := 15) (v := .int .i64 (l2 / 3)) rfl (by kernel_rfl) (by kernel_rfl) (fun _ _ _ h => h) (Or.inl ⟨by kernel_rfl, ?_⟩) (by assumption) ?_
      · rintro W' ⟨q0, q1, q2, q3⟩
        go_simp
        rw [Int.tdiv_eq_ediv_of_nonneg (by omega)]
        exact IntWalk.i64_in _ (by omega)
      intro inv2
      clear inv
      have inv := inv2
      clear inv2
      simp only [Act.put]
      refine wpAnyT_ready [16] (by kernel_rfl) (by simp) ?_
      refine AllReadyT.cons rfl (fun K hK => ?_) AllReadyT.nil
      go_simp
      refine (to_any (l1 / 3) (l2 / 3) _).mono ?_
      rintro e z1 ⟨rfl, hb⟩
      refine hK.out _ _ (fun _ => ⟨cellB hS.1 hb, cellB hS.2.1 hb, cellB hS.2.2.1 hb, cellB hS.2.2.2 hb⟩) (fun _ => ?_)
      replace inv := HeadM.step inv 16 (by kernel_rfl) (by omega)
      clear hK K
      try simp only [Act.put]
      replace hS := And.intro (cellB hS.1 hb) (And.intro (cellB hS.2.1 hb) (And.intro (cellB hS.2.2.1 hb) (cellB hS.2.2.2 hb)))
      replace own := owns_below own hb
      replace BL := BL.below hb
      replace FF := FF.below hb
      clear hb
      refine wpAnyT_ready [17] (by kernel_rfl) (by simp) ?_
      refine AllReadyT.cons rfl (fun K hK => ?_) AllReadyT.nil
      go_simp
      have hA := below1 z1 (.cells #[.int .i64 (l1 / 3), .int .i64 (l2 / 3)] 27)
      refine hK.out _ _ (fun _ => ⟨cellB hS.1 hA, cellB hS.2.1 hA, cellB hS.2.2.1 hA, cellB hS.2.2.2 hA⟩) (fun _ => ?_)
      clear hK K hS inv
      try simp only [Act.put]
      have bN := Blk.new z1 (.cells #[.int .i64 (l1 / 3), .int .i64 (l2 / 3)] 27)
      replace own := owns_below own hA
      replace BL := BL.below hA
      replace FF := FF.below hA
      obtain ⟨bx, hbx⟩ : ∃ bx, z1.heap.size = bx := ⟨_, rfl⟩
      rw [hbx] at bN ⊢
      clear hA hbx
      generalize z1.alloc (.cells #[.int .i64 (l1 / 3), .int .i64 (l2 / 3)] 27) = V9 at *
      refine wpAnyT_chain (fuel := 3) rfl (by kernel_rfl) ?_
      simp only [List.drop_succ_cons, List.drop_zero]
      go_wp2_with (at_builtin; refine wp_appR rfl (.tmp 61) (.tmp 77) rfl _ _ _ _ rfl own _ _ _ _ rfl bN (by omega) (Below.refl _ _) (by have := FF.size; omega) ?_; intro a2 c2 w3 own3 bel3 gr3; have BL3 := Blk.grown BL own (by decide) gr3; have FF3 := FF.grown own gr3 (Nat.le_refl _); have o1 := BL3.cell 1; have of := BL3.frozen 1; have ol := BL3.lt; simp at o1)
      go_roundw
      case rel => exact ⟨k + 1, _, by omega, by go_num, BL3.set (j := 1) (.slice a2 (k + 1) c2), by rw [HST.out, pairCells_snoc]; exact owns_set own3 BL3 (by decide) 1 _, FF3.set 1 _⟩
      case measure => simp [intOf] <;> omega
    · obtain rfl : k = y.logs.length := by omega
      rw [List.take_length] at HOWN
      clear hzL hfz HXX hk hlt
      have HX := Lib.hid (show PairsAt wr (.slice ra y.logs.length rc) (thL y.logs) from Row.pairsN (Row.of_owns HOWN.out) (by simp [thL]))
      have HXN := Lib.hid (fun b o n c (e : Value.slice ra y.logs.length rc = .slice (some ⟨b, o, none⟩) n c) => owns_base HOWN.out e)
      have BX := Lib.hid HBL.out
      replace G2 := Lib.hid (G2.out.fr' HF.out (by have := HMK.out; omega))
      replace G3 := Lib.hid (G3.out.fr' HF.out (by have := HMK.out; omega))
      replace B1 := Lib.hid (B1.out.fr' HF.out (by have := HCL.out; omega))
      replace HCB := Lib.hid (HCB.out.trans (HF.out.under (B := v2.heap.size) (by have := HCW.out; have := HSZ.out; omega) (by have := HCW.out; omega)))
      have HB1 := Lib.hid (HLE.out.1.trans (HF.out.under (B := w.heap.size) (by have := HLE.out.2; have := HSZ.out; omega) HLE.out.2))
      have HS1 := Lib.hid (show L + 3 ≤ wr.heap.size from by have := HF.out.size; have := HSZ.out; omega)
      clear HV HZ B0 HB HLE HOWN HBL HF HPY
      generalize wr = w1 at *
      go_wp2_with fail
      clear x1 cL1
      go_loopw [9] (fun i wr => ∃ (k : Nat) (s : Value), k ≤ z.logs.length ∧ i = .int .i64 k ∧ Blk wr M (.cells #[.int .i64 y.load, s] 24) ∧ wr.ownsRow w1.heap.size 27 2 s k (pairCells (fiL (z.logs.take k))) ∧ FrL w1 M wr) (fun i _ => z.logs.length - (intOf i).toNat)
      case atStart => exact ⟨0, _, Nat.zero_le _, rfl, G2.out, by simpa [fiL, pairCells] using owns_nil _ _ _ _, FrL.of_below (Below.refl _ _)⟩
      case round =>
        clear G2
        obtain ⟨k, s, hk, rfl, hbL, hown, hF⟩ := hrel
        obtain ⟨rb, rd, rfl⟩ := owns_slice hown
        have HOWN := Lib.hid hown
        have HF := Lib.hid hF
        have HBL := Lib.hid hbL
        have hzL := hbL.lt
        have hfz := hF.size
        have HXX := Lib.hid (B1.out.fr' hF (by have := HMK.out; have := HCL.out; omega))
        have x1 := HXX.out.cell 1
        simp at x1
        have cL1 := hbL.cell 1
        simp at cL1
        clear hown hbL hF
        by_cases hlt : k < z.logs.length
        · obtain ⟨pb, off, rfl, hpw, hc, hd⟩ := HPZ.out k hlt
          have hpl : pb ≠ M := by have := HMK.out; have := HCL.out; have := HCW.out; omega
          replace hc := cellF (cellB hc HCB.out) HF.out hpl
          replace hd := cellF (cellB hd HCB.out) HF.out hpl
          have hlg := HZD.out.log _ (List.getElem_mem hlt)
          have HST := Lib.hid (fiL_step hlt)
          obtain ⟨l1, hl1⟩ : ∃ x, z.logs[k].1 = x := ⟨_, rfl⟩
          obtain ⟨l2, hl2⟩ : ∃ x, z.logs[k].2 = x := ⟨_, rfl⟩
          rw [hl1] at hc hlg HST
          rw [hl2] at hd hlg HST
          obtain ⟨g0, g1, g2⟩ := hlg
          have q3 : (k : Int) < (z.logs.length : Int) := by omega
          clear hl1 hl2 hpl hpw
          go_wp2_with fail
          have y0 : wr.drew.cell? ⟨M, 1, none⟩ = some (.slice rb k rd) := cL1
          have y1 : wr.drew.cell? ⟨w.heap.size + 1, 1, none⟩ = some (.slice (some ⟨pb, off, none⟩) z.logs.length zc) := x1
          have y2 : wr.drew.cell? ⟨pb, off + k * 2, none⟩ = some (.int .i64 l1) := hc
          have y3 : wr.drew.cell? ⟨pb, off + k * 2 + 1, none⟩ = some (.int .i64 l2) := hd
          have own : wr.drew.ownsRow w1.heap.size 27 2 (.slice rb k rd) k (pairCells (fiL (z.logs.take k))) := HOWN.out
          have BL : Blk wr.drew M (.cells #[.int .i64 y.load, .slice rb k rd] 24) := HBL.out
          have FF : FrL w1 M wr.drew := HF.out.below ((Below.refl _ _).drew)
          clear HOWN HBL HF HXX cL1 x1 hc hd hzL hfz
          refine (wp_region_T 20 (fun W' => W'.cell? ⟨M, 1, none⟩ = some (.slice rb k rd) ∧ W'.cell? ⟨w.heap.size + 1, 1, none⟩ = some (.slice (some ⟨pb, off, none⟩) z.logs.length zc) ∧ W'.cell? ⟨pb, off + k * 2, none⟩ = some (.int .i64 l1) ∧ W'.cell? ⟨pb, off + k * 2 + 1, none⟩ = some (.int .i64 l2)) (by kernel_rfl) (by kernel_rfl) ⟨y0, y1, y2, y3⟩ ?_)
          intro inv hS
          clear y0 y1 y2 y3
          generalize wr.drew = V0 at *
          refine wpAnyT_take inv (by kernel_rfl) (by omega) (i := 0) (v := .pointer (some ⟨M, 1, none⟩)) rfl (by kernel_rfl) (by kernel_rfl) (fun _ _ _ h => h) (Or.inl ⟨by kernel_rfl, ?_⟩) (by assumption) ?_
          · rintro W' ⟨q0, q1, q2, q3⟩
            go_simp
          intro inv2
          clear inv
          have inv := inv2
          clear inv2
          simp only [Act.put, List.setIfInBounds_toArray]
          refine wpAnyT_take inv (by kernel_rfl) (by omega) (i := 1) (v := .slice rb k rd) rfl (by kernel_rfl) (by kernel_rfl) (fun _ _ _ h => h) (Or.inl ⟨by kernel_rfl, ?_⟩) (by assumption) ?_
          · rintro W' ⟨q0, q1, q2, q3⟩
            go_simp
          intro inv2
          clear inv
          have inv := inv2
          clear inv2
          simp only [Act.put]
          refine wpAnyT_take inv (by kernel_rfl) (by omega) (i := 2) (v := .pointer (some ⟨w.heap.size + 1, 1, none⟩)) rfl (by kernel_rfl) (by kernel_rfl) (fun _ _ _ h => h) (Or.inl ⟨by kernel_rfl, ?_⟩) (by assumption) ?_
          · rintro W' ⟨q0, q1, q2, q3⟩
            go_simp
          intro inv2
          clear inv
          have inv := inv2
          clear inv2
          simp only [Act.put]
          refine wpAnyT_take inv (by kernel_rfl) (by omega) (i := 3) (v := .slice (some ⟨pb, off, none⟩) z.logs.length zc) rfl (by kernel_rfl) (by kernel_rfl) (fun _ _ _ h => h) (Or.inl ⟨by kernel_rfl, ?_⟩) (by assumption) ?_
          · rintro W' ⟨q0, q1, q2, q3⟩
            go_simp
          intro inv2
          clear inv
          have inv := inv2
          clear inv2
          simp only [Act.put]
          refine wpAnyT_take inv (by kernel_rfl) (by omega) (i := 4) (v := .int .i64 (k : Int)) rfl (by kernel_rfl) (by kernel_rfl) (fun _ _ _ h => h) (Or.inl ⟨by kernel_rfl, ?_⟩) (by assumption) ?_
          · rintro W' ⟨q0, q1, q2, q3⟩
            go_simp
          intro inv2
          clear inv
          have inv := inv2
          clear inv2
          simp only [Act.put]
          refine wpAnyT_take inv (by kernel_rfl) (by omega) (i := 5) (v := .pointer (some ⟨pb, off + k * 2, none⟩)) rfl (by kernel_rfl) (by kernel_rfl) (fun _ _ _ h => h) (Or.inl ⟨by kernel_rfl, ?_⟩) (by assumption) ?_
          · rintro W' ⟨q0, q1, q2, q3⟩
            go_simp
          intro inv2
          clear inv
          have inv := inv2
          clear inv2
          simp only [Act.put]
          refine wpAnyT_take inv (by kernel_rfl) (by omega) (i := 6) (v := .pointer (some ⟨pb, off + k * 2, none⟩)) rfl (by kernel_rfl) (by kernel_rfl) (fun _ _ _ h => h) (Or.inl ⟨by kernel_rfl, ?_⟩) (by assumption) ?_
          · rintro W' ⟨q0, q1, q2, q3⟩
            go_simp
          intro inv2
          clear inv
          have inv := inv2
          clear inv2
          simp only [Act.put]
          refine wpAnyT_take inv (by kernel_rfl) (by omega) (i := 7) (v := .int .i64 l1) rfl (by kernel_rfl) (by kernel_rfl) (fun _ _ _ h => h) (Or.inl ⟨by kernel_rfl, ?_⟩) (by assumption) ?_
          · rintro W' ⟨q0, q1, q2, q3⟩
            go_simp
          intro inv2
          clear inv
          have inv := inv2
          clear inv2
          simp only [Act.put]
          refine wpAnyT_take inv (by kernel_rfl) (by omega) (i := 8) (v := .int .i64 (l1 / 3)) rfl (by kernel_rfl) (by kernel_rfl) (fun _ _ _ h => h) (Or.inl ⟨by kernel_rfl, ?_⟩) (by assumption) ?_
          · rintro W' ⟨q0, q1, q2, q3⟩
            go_simp
            rw [Int.tdiv_eq_ediv_of_nonneg (by omega)]
            exact IntWalk.i64_in _ (by omega)
          intro inv2
          clear inv
          have inv := inv2
          clear inv2
          simp only [Act.put]
          refine wpAnyT_take inv (by kernel_rfl) (by omega) (i := 9) (v := .int .i64 (50 + l1 / 3)) rfl (by kernel_rfl) (by kernel_rfl) (fun _ _ _ h => h) (Or.inl ⟨by kernel_rfl, ?_⟩) (by assumption) ?_
          · rintro W' ⟨q0, q1, q2, q3⟩
            go_simp
            exact IntWalk.i64_in _ (by omega)
          intro inv2
          clear inv
          have inv := inv2
          clear inv2
          simp only [Act.put]
          refine wpAnyT_take inv (by kernel_rfl) (by omega) (i := 10) (v := .pointer (some ⟨w.heap.size + 1, 1, none⟩)) rfl (by kernel_rfl) (by kernel_rfl) (fun _ _ _ h => h) (Or.inl ⟨by kernel_rfl, ?_⟩) (by assumption) ?_
          · rintro W' ⟨q0, q1, q2, q3⟩
            go_simp
          intro inv2
          clear inv
          have inv := inv2
          clear inv2
          simp only [Act.put]
          refine wpAnyT_take inv (by kernel_rfl) (by omega) (i := 11) (v := .slice (some ⟨pb, off, none⟩) z.logs.length zc) rfl (by kernel_rfl) (by kernel_rfl) (fun _ _ _ h => h) (Or.inl ⟨by kernel_rfl, ?_⟩) (by assumption) ?_
          · rintro W' ⟨q0, q1, q2, q3⟩
            go_simp
          intro inv2
          clear inv
          have inv := inv2
          clear inv2
          simp only [Act.put]
          refine wpAnyT_take inv (by kernel_rfl) (by omega) (i := 12) (v := .int .i64 (k : Int)) rfl (by kernel_rfl) (by kernel_rfl) (fun _ _ _ h => h) (Or.inl ⟨by kernel_rfl, ?_⟩) (by assumption) ?_
          · rintro W' ⟨q0, q1, q2, q3⟩
            go_simp
          intro inv2
          clear inv
          have inv := inv2
          clear inv2
          simp only [Act.put]
          refine wpAnyT_take inv (by kernel_rfl) (by omega) (i := 13) (v := .pointer (some ⟨pb, off + k * 2, none⟩)) rfl (by kernel_rfl) (by kernel_rfl) (fun _ _ _ h => h) (Or.inl ⟨by kernel_rfl, ?_⟩) (by assumption) ?_
          · rintro W' ⟨q0, q1, q2, q3⟩
            go_simp
          intro inv2
          clear inv
          have inv := inv2
          clear inv2
          simp only [Act.put]
          refine wpAnyT_take inv (by kernel_rfl) (by omega) (i := 14) (v := .pointer (some ⟨pb, off + k * 2 + 1, none⟩)) rfl (by kernel_rfl) (by kernel_rfl) (fun _ _ _ h => h) (Or.inl ⟨by kernel_rfl, ?_⟩) (by assumption) ?_
          · rintro W' ⟨q0, q1, q2, q3⟩
            go_simp
          intro inv2
          clear inv
          have inv := inv2
          clear inv2
          simp only [Act.put]
          refine wpAnyT_take inv (by kernel_rfl) (by omega) (i := 15) (v := .int .i64 l2) rfl (by kernel_rfl) (by kernel_rfl) (fun _ _ _ h => h) (Or.inl ⟨by kernel_rfl, ?_⟩) (by assumption) ?_
          · rintro W' ⟨q0, q1, q2, q3⟩
            go_simp
          intro inv2
          clear inv
          have inv := inv2
          clear inv2
          simp only [Act.put]
          refine wpAnyT_take inv (by kernel_rfl) (by omega) (i := 16) (v := .int .i64 (l2 / 3)) rfl (by kernel_rfl) (by kernel_rfl) (fun _ _ _ h => h) (Or.inl ⟨by kernel_rfl, ?_⟩) (by assumption) ?_
          · rintro W' ⟨q0, q1, q2, q3⟩
            go_simp
            rw [Int.tdiv_eq_ediv_of_nonneg (by omega)]
            exact IntWalk.i64_in _ (by omega)
          intro inv2
          clear inv
          have inv := inv2
          clear inv2
          simp only [Act.put]
          refine wpAnyT_take inv (by kernel_rfl) (by omega) (i := 17) (v := .int .i64 (50 + l2 / 3)) rfl (by kernel_rfl) (by kernel_rfl) (fun _ _ _ h => h) (Or.inl ⟨by kernel_rfl, ?_⟩) (by assumption) ?_
          · rintro W' ⟨q0, q1, q2, q3⟩
            go_simp
            exact IntWalk.i64_in _ (by omega)
          intro inv2
          clear inv
          have inv := inv2
          clear inv2
          simp only [Act.put]
          refine wpAnyT_ready [18] (by kernel_rfl) (by simp) ?_
          refine AllReadyT.cons rfl (fun K hK => ?_) AllReadyT.nil
          go_simp
          refine (to_any (50 + l1 / 3) (50 + l2 / 3) _).mono ?_
          rintro e z1 ⟨rfl, hb⟩
          refine hK.out _ _ (fun _ => ⟨cellB hS.1 hb, cellB hS.2.1 hb, cellB hS.2.2.1 hb, cellB hS.2.2.2 hb⟩) (fun _ => ?_)
          replace inv := HeadM.step inv 18 (by kernel_rfl) (by omega)
          clear hK K
          try simp only [Act.put]
          replace hS := And.intro (cellB hS.1 hb) (And.intro (cellB hS.2.1 hb) (And.intro (cellB hS.2.2.1 hb) (cellB hS.2.2.2 hb)))
          replace own := owns_below own hb
          replace BL := BL.below hb
          replace FF := FF.below hb
          clear hb
          refine wpAnyT_ready [19] (by kernel_rfl) (by simp) ?_
          refine AllReadyT.cons rfl (fun K hK => ?_) AllReadyT.nil
          go_simp
          have hA := below1 z1 (.cells #[.int .i64 (50 + l1 / 3), .int .i64 (50 + l2 / 3)] 27)
          refine hK.out _ _ (fun _ => ⟨cellB hS.1 hA, cellB hS.2.1 hA, cellB hS.2.2.1 hA, cellB hS.2.2.2 hA⟩) (fun _ => ?_)
          clear hK K hS inv
          try simp only [Act.put]
          have bN := Blk.new z1 (.cells #[.int .i64 (50 + l1 / 3), .int .i64 (50 + l2 / 3)] 27)
          replace own := owns_below own hA
          replace BL := BL.below hA
          replace FF := FF.below hA
          obtain ⟨bx, hbx⟩ : ∃ bx, z1.heap.size = bx := ⟨_, rfl⟩
          rw [hbx] at bN ⊢
          clear hA hbx
          generalize z1.alloc (.cells #[.int .i64 (50 + l1 / 3), .int .i64 (50 + l2 / 3)] 27) = V9 at *
          refine wpAnyT_chain (fuel := 3) rfl (by kernel_rfl) ?_
          simp only [List.drop_succ_cons, List.drop_zero]
          go_wp2_with (at_builtin; refine wp_appR rfl (.tmp 88) (.tmp 106) rfl _ _ _ _ rfl own _ _ _ _ rfl bN (by omega) (Below.refl _ _) (by have := FF.size; omega) ?_; intro a2 c2 w3 own3 bel3 gr3; have BL3 := Blk.grown BL own (by decide) gr3; have FF3 := FF.grown own gr3 (Nat.le_refl _); have o1 := BL3.cell 1; have of := BL3.frozen 1; have ol := BL3.lt; simp at o1)
          go_roundw
          case rel => exact ⟨k + 1, _, by omega, by go_num, BL3.set (j := 1) (.slice a2 (k + 1) c2), by rw [HST.out, pairCells_snoc]; exact owns_set own3 BL3 (by decide) 1 _, FF3.set 1 _⟩
          case measure => simp [intOf] <;> omega
        · obtain rfl : k = z.logs.length := by omega
          rw [List.take_length] at HOWN
          clear hzL hfz HXX hk hlt
          have HZ := Lib.hid (show PairsAt wr (.slice rb z.logs.length rd) (fiL z.logs) from Row.pairsN (Row.of_owns HOWN.out) (by simp [fiL]))
          have HZN := Lib.hid (fun b o n c (e : Value.slice rb z.logs.length rd = .slice (some ⟨b, o, none⟩) n c) => owns_base HOWN.out e)
          have BZ := Lib.hid HBL.out
          replace HX := Lib.hid (pairs_fr HX.out (fun b o n c e => by have := HXN.out b o n c e; have := HSZ.out; have := HMK.out; omega) HF.out)
          replace BX := Lib.hid (BX.out.fr' HF.out (by have := HMK.out; omega))
          replace G3 := Lib.hid (G3.out.fr' HF.out (by have := HMK.out; omega))
          have HB := Lib.hid (HB1.out.trans (HF.out.under (B := w.heap.size) (by have := HCL.out; have := HS1.out; omega) (by have := HCL.out; have := HMK.out; omega)))
          obtain ⟨tj, hjf, hy0, hy1, hy2⟩ := info_parts infoAR
          have HJF := Lib.hid hjf
          have HY0 := Lib.hid hy0
          have HY1 := Lib.hid hy1
          have HY2 := Lib.hid hy2
          clear B1 HCB HB1 HOWN HBL HF HPZ hjf hy0 hy1 hy2
          generalize wr = w2 at *
          go_upto_region 14 with (fail)
          clear x1 cL1
          have hq0 := BX.out.cell 1
          have hq1 := BZ.out.cell 1
          have hxl : (thL y.logs).length = y.logs.length := by simp [thL]
          have hzl : (fiL z.logs).length = z.logs.length := by simp [fiL]
          have HXL := Lib.hid hxl
          have HZL := Lib.hid hzl
          simp at hq0 hq1
          clear hxl hzl
          refine wp_region_T 7 (fun W' => W'.cell? ⟨L, 1, none⟩ = some (.slice ra y.logs.length rc) ∧ W'.cell? ⟨M, 1, none⟩ = some (.slice rb z.logs.length rd)) (by kernel_rfl) (by kernel_rfl) ⟨hq0, hq1⟩ ?_
          intro inv hS
          have BL := Lib.hid (show Below w2.heap.size w2 w2.drew from (Below.refl _ _).drew)
          generalize w2.drew = V0 at *
          refine wpAnyT_take inv (by kernel_rfl) (by omega) (i := 1) (v := .pointer (some ⟨L, 1, none⟩)) rfl (by kernel_rfl) (by kernel_rfl) (fun _ _ _ h => h) (Or.inl ⟨by kernel_rfl, ?_⟩) (by assumption) ?_
          · rintro W' ⟨q0, q1⟩
            go_simp
          intro inv2
          clear inv
          have inv := inv2
          clear inv2
          simp only [Act.put, List.setIfInBounds_toArray]
          refine wpAnyT_take inv (by kernel_rfl) (by omega) (i := 2) (v := .slice ra y.logs.length rc) rfl (by kernel_rfl) (by kernel_rfl) (fun _ _ _ h => h) (Or.inl ⟨by kernel_rfl, ?_⟩) (by assumption) ?_
          · rintro W' ⟨q0, q1⟩
            go_simp
          intro inv2
          clear inv
          have inv := inv2
          clear inv2
          simp only [Act.put]
          refine wpAnyT_take inv (by kernel_rfl) (by omega) (i := 4) (v := .pointer (some ⟨M, 1, none⟩)) rfl (by kernel_rfl) (by kernel_rfl) (fun _ _ _ h => h) (Or.inl ⟨by kernel_rfl, ?_⟩) (by assumption) ?_
          · rintro W' ⟨q0, q1⟩
            go_simp
          intro inv2
          clear inv
          have inv := inv2
          clear inv2
          simp only [Act.put]
          refine wpAnyT_take inv (by kernel_rfl) (by omega) (i := 5) (v := .slice rb z.logs.length rd) rfl (by kernel_rfl) (by kernel_rfl) (fun _ _ _ h => h) (Or.inl ⟨by kernel_rfl, ?_⟩) (by assumption) ?_
          · rintro W' ⟨q0, q1⟩
            go_simp
          intro inv2
          clear inv
          have inv := inv2
          clear inv2
          simp only [Act.put]
          refine wpAnyT_ready [0] (by kernel_rfl) (by simp) ?_
          refine AllReadyT.cons rfl (fun K hK => ?_) AllReadyT.nil
          go_simp
          refine (ranges_any _ _).mono ?_
          rintro e V1 ⟨rfl, rfl⟩
          have OWN := Lib.hid (owns_nil V0 w2.heap.size 27 2)
          refine hK.out _ _ (fun _ => ⟨cellB hq0 BL.out, cellB hq1 BL.out⟩) (fun _ => ?_)
          clear hK K
          replace inv := HeadM.step inv 0 (by kernel_rfl) (by omega)
          clear hS
          have hS : V0.cell? ⟨L, 1, none⟩ = some (.slice ra y.logs.length rc) ∧ V0.cell? ⟨M, 1, none⟩ = some (.slice rb z.logs.length rd) := ⟨cellB hq0 BL.out, cellB hq1 BL.out⟩
          try simp only [Act.put]
          refine wpAnyT_ready [3] (by kernel_rfl) (by simp) ?_
          refine AllReadyT.cons rfl (fun K hK => ?_) AllReadyT.nil
          refine Eq.mpr (if_pos ?_) ?_
          · rfl
          have hs8 := BL.out.size
          refine wp_append_src _ _ _ 22 rfl w2.heap.size 27 tj (.agg #[.int .i64 0, .int .i64 0]) 2 16 undAR HJF.out HY0.out HY1.out HY2.out rfl (by decide) _ _ _ rfl OWN.out ra y.logs.length rc (pairCells (thL y.logs)) rfl (src_pairsN (HX.out.below BL.out) HXL.out) (fun u hu => pairCells_one hu) (by unfold maxLen; omega) (by omega) hs8 ?_
          intro vo1 V2 own gr _
          replace BL := Lib.hid (below_owns OWN.out gr BL.out hs8)
          clear OWN
          rw [Nat.zero_add, List.nil_append] at own
          obtain ⟨xa1, xc1, rfl⟩ := owns_slice own
          have OWN := Lib.hid own
          clear own gr hs8
          refine hK.out _ _ (fun _ => ⟨cellB hq0 BL.out, cellB hq1 BL.out⟩) (fun _ => ?_)
          clear hK K
          replace inv := HeadM.step inv 3 (by kernel_rfl) (by omega)
          clear hS
          have hS : V2.cell? ⟨L, 1, none⟩ = some (.slice ra y.logs.length rc) ∧ V2.cell? ⟨M, 1, none⟩ = some (.slice rb z.logs.length rd) := ⟨cellB hq0 BL.out, cellB hq1 BL.out⟩
          try simp only [Act.put]
          refine wpAnyT_ready [6] (by kernel_rfl) (by simp) ?_
          refine AllReadyT.cons rfl (fun K hK => ?_) AllReadyT.nil
          refine Eq.mpr (if_pos ?_) ?_
          · rfl
          have hs8 := BL.out.size
          refine wp_append_src _ _ _ 22 rfl w2.heap.size 27 tj (.agg #[.int .i64 0, .int .i64 0]) 2 16 undAR HJF.out HY0.out HY1.out HY2.out rfl (by decide) _ _ _ rfl OWN.out rb z.logs.length rd (pairCells (fiL z.logs)) rfl (src_pairsN (HZ.out.below BL.out) HZL.out) (fun u hu => pairCells_one hu) (by unfold maxLen; omega) (by omega) hs8 ?_
          intro vo2 V3 own gr _
          replace BL := Lib.hid (below_owns OWN.out gr BL.out hs8)
          clear OWN
          obtain ⟨xa2, xc2, rfl⟩ := owns_slice own
          have OWN := Lib.hid own
          clear own gr hs8
          refine hK.out _ _ (fun _ => ⟨cellB hq0 BL.out, cellB hq1 BL.out⟩) (fun _ => ?_)
          clear hK K
          replace inv := HeadM.step inv 6 (by kernel_rfl) (by omega)
          clear hS
          have hS : V3.cell? ⟨L, 1, none⟩ = some (.slice ra y.logs.length rc) ∧ V3.cell? ⟨M, 1, none⟩ = some (.slice rb z.logs.length rd) := ⟨cellB hq0 BL.out, cellB hq1 BL.out⟩
          try simp only [Act.put]
          refine wpAnyT_chain (fuel := 2) rfl (by kernel_rfl) ?_
          simp only [List.drop_succ_cons, List.drop_zero]
          clear inv hS hq0 hq1
          have HG := Lib.hid (G3.out.below BL.out)
          have x0 := HG.out.cell 0
          have x1 := HG.out.cell 1
          have xf := HG.out.frozen 1
          have xl := HG.out.lt
          simp at x0 x1
          go_upto_region 15 with (fail)
          clear x0 x1 xf xl
          have HF3 := Lib.hid ((FrL.of_below (L := K) BL.out).set 1 (.slice xa2 (y.logs.length + z.logs.length) xc2))
          have GX := Lib.hid (BX.out.fr' HF3.out (by have := HMK.out; omega))
          have GZ := Lib.hid (BZ.out.fr' HF3.out (by have := HMK.out; omega))
          have GW := Lib.hid (HG.out.set (j := 1) (.slice xa2 (y.logs.length + z.logs.length) xc2))
          have YX := Lib.hid (show YardAt _ (.agg #[.int .i64 y.load, .slice ra y.logs.length rc]) ⟨y.load, thL y.logs⟩ from ⟨_, rfl, pairs_fr HX.out (fun b o n c e => by have := HXN.out b o n c e; have := HSZ.out; have := HMK.out; omega) HF3.out⟩)
          have YZ := Lib.hid (show YardAt _ (.agg #[.int .i64 y.load, .slice rb z.logs.length rd]) ⟨y.load, fiL z.logs⟩ from ⟨_, rfl, pairs_fr HZ.out (fun b o n c e => by have := HZN.out b o n c e; have := HS1.out; have := HMK.out; omega) HF3.out⟩)
          have YW := Lib.hid (show YardAt _ (.agg #[.int .i64 y.load, .slice xa2 (y.logs.length + z.logs.length) xc2]) ⟨y.load, thL y.logs ++ fiL z.logs⟩ from ⟨_, rfl, Row.pairsN (n := y.logs.length + z.logs.length) (by rw [pairCells_ap]; exact Row.of_owns (owns_set OWN.out HG.out (by decide) 1 (.slice xa2 (y.logs.length + z.logs.length) xc2))) (by simp [thL, fiL])⟩)
          have HBW := Lib.hid (HB.out.trans (HF3.out.under (B := w.heap.size) HB.out.size (by have := HMK.out; have := HCL.out; omega)))
          have HOX := Lib.hid (th_ok HYD.out)
          have HOZ := Lib.hid (fi_ok HYD.out HZD.out)
          have HOW := Lib.hid (two_ok HYD.out HZD.out hs10)
          have HUA := Lib.hid (apart_U HYD.out HZD.out hs10)
          have HEA := Lib.hid (apart_E HYD.out HZD.out hs10)
          have HL1 := Lib.hid (U_len HOX.out 101)
          have HL2 := Lib.hid (U_len HOZ.out 101)
          have HN1 := Lib.hid (U_nonneg ⟨y.load, thL y.logs⟩ 101)
          have HN2 := Lib.hid (U_nonneg ⟨y.load, fiL z.logs⟩ 101)
          have HX1 := Lib.hid (earlyL_length HOX.out)
          have HX2 := Lib.hid (earlyL_length HOZ.out)
          obtain ⟨AX, hAX⟩ : ∃ A : YardD, ⟨y.load, thL y.logs⟩ = A := ⟨_, rfl⟩
          obtain ⟨AZ, hAZ⟩ : ∃ A : YardD, ⟨y.load, fiL z.logs⟩ = A := ⟨_, rfl⟩
          obtain ⟨AW, hAW⟩ : ∃ A : YardD, ⟨y.load, thL y.logs ++ fiL z.logs⟩ = A := ⟨_, rfl⟩
          have hax : AX.logs.length ≤ 10 := by rw [← hAX]; show (thL y.logs).length ≤ 10; simp [thL]; omega
          have haz : AZ.logs.length ≤ 10 := by rw [← hAZ]; show (fiL z.logs).length ≤ 10; simp [fiL]; omega
          rw [hAX] at YX HOX HUA HEA HL1 HN1 HX1
          rw [hAZ] at YZ HOZ HUA HEA HL2 HN2 HX2
          rw [hAW] at YW HOW HUA HEA
          clear HF3 HX HZ BX BZ G3 HG HXN HZN HSZ HCL HCW HS1 HB OWN BL HMK HXL HZL hAX hAZ hAW
          generalize V3.setCell ⟨K, 1, none⟩ (.slice xa2 (y.logs.length + z.logs.length) xc2) = v90 at *
          have HB := Lib.hid HBW.out
          clear HBW
          obtain ⟨FX, hFX⟩ : ∃ F, U AX 101 = F := ⟨_, rfl⟩
          obtain ⟨FZ, hFZ⟩ : ∃ F, U AZ 101 = F := ⟨_, rfl⟩
          obtain ⟨FW, hFW⟩ : ∃ F, U AW 101 = F := ⟨_, rfl⟩
          obtain ⟨EX, hEX⟩ : ∃ F, earlyL AX = F := ⟨_, rfl⟩
          obtain ⟨EZ, hEZ⟩ : ∃ F, earlyL AZ = F := ⟨_, rfl⟩
          obtain ⟨EW, hEW⟩ : ∃ F, earlyL AW = F := ⟨_, rfl⟩
          rw [hFX] at HUA HL1 HN1 HX1
          rw [hFZ] at HUA HL2 HN2 HX2
          rw [hFW] at HUA
          rw [hEX] at HEA HX1
          rw [hEZ] at HEA HX2
          rw [hEW] at HEA
          have H1 := Lib.hid hFX
          have H2 := Lib.hid hFZ
          have H3 := Lib.hid hFW
          have H4 := Lib.hid hEX
          have H5 := Lib.hid hEZ
          have H6 := Lib.hid hEW
          clear hFX hFZ hFW hEX hEZ hEW
          have GXc0 := GX.out.cell 0
          have GXc1 := GX.out.cell 1
          have GZc0 := GZ.out.cell 0
          have GZc1 := GZ.out.cell 1
          have GWc0 := GW.out.cell 0
          have GWc1 := GW.out.cell 1
          simp at GXc0 GXc1 GZc0 GZc1 GWc0 GWc1
          go_wp2_with fail
          clear GXc0 GXc1 GZc0 GZc1 GWc0 GWc1
          refine (fewest_law (.agg #[.int .i64 y.load, .slice ra y.logs.length rc]) AX _ YX.out HOX.out).mono ?_
          rintro e v91 ⟨vh0, xs0, rfl, hi, hf, hn, hb⟩
          replace YX := Lib.hid (YX.out.below hb)
          replace YZ := Lib.hid (YZ.out.below hb)
          replace YW := Lib.hid (YW.out.below hb)
          replace GX := Lib.hid (GX.out.below hb)
          replace GZ := Lib.hid (GZ.out.below hb)
          replace GW := Lib.hid (GW.out.below hb)
          replace HB := Lib.hid (bC HB.out hb)
          clear hb
          clear hi hf hn
          rw [H1.out]
          have GXc0 := GX.out.cell 0
          have GXc1 := GX.out.cell 1
          have GZc0 := GZ.out.cell 0
          have GZc1 := GZ.out.cell 1
          have GWc0 := GW.out.cell 0
          have GWc1 := GW.out.cell 1
          simp at GXc0 GXc1 GZc0 GZc1 GWc0 GWc1
          go_wp2_with fail
          clear GXc0 GXc1 GZc0 GZc1 GWc0 GWc1
          refine (fewest_law (.agg #[.int .i64 y.load, .slice rb z.logs.length rd]) AZ _ YZ.out HOZ.out).mono ?_
          rintro e v92 ⟨vh1, xs1, rfl, hi, hf, hn, hb⟩
          replace YX := Lib.hid (YX.out.below hb)
          replace YZ := Lib.hid (YZ.out.below hb)
          replace YW := Lib.hid (YW.out.below hb)
          replace GX := Lib.hid (GX.out.below hb)
          replace GZ := Lib.hid (GZ.out.below hb)
          replace GW := Lib.hid (GW.out.below hb)
          replace HB := Lib.hid (bC HB.out hb)
          clear hb
          clear hi hf hn
          rw [H2.out]
          have GXc0 := GX.out.cell 0
          have GXc1 := GX.out.cell 1
          have GZc0 := GZ.out.cell 0
          have GZc1 := GZ.out.cell 1
          have GWc0 := GW.out.cell 0
          have GWc1 := GW.out.cell 1
          simp at GXc0 GXc1 GZc0 GZc1 GWc0 GWc1
          go_wp2_with fail
          clear GXc0 GXc1 GZc0 GZc1 GWc0 GWc1
          refine (fewest_law (.agg #[.int .i64 y.load, .slice xa2 (y.logs.length + z.logs.length) xc2]) AW _ YW.out HOW.out).mono ?_
          rintro e v93 ⟨vh2, xs2, rfl, hi, hf, hn, hb⟩
          replace YX := Lib.hid (YX.out.below hb)
          replace YZ := Lib.hid (YZ.out.below hb)
          replace YW := Lib.hid (YW.out.below hb)
          replace GX := Lib.hid (GX.out.below hb)
          replace GZ := Lib.hid (GZ.out.below hb)
          replace GW := Lib.hid (GW.out.below hb)
          replace HB := Lib.hid (bC HB.out hb)
          clear hb
          clear hi hf hn
          rw [H3.out]
          have GXc0 := GX.out.cell 0
          have GXc1 := GX.out.cell 1
          have GZc0 := GZ.out.cell 0
          have GZc1 := GZ.out.cell 1
          have GWc0 := GW.out.cell 0
          have GWc1 := GW.out.cell 1
          simp at GXc0 GXc1 GZc0 GZc1 GWc0 GWc1
          go_wp2_with fail
          clear GXc0 GXc1 GZc0 GZc1 GWc0 GWc1
          refine (Early_ok (.agg #[.int .i64 y.load, .slice ra y.logs.length rc]) AX _ YX.out HOX.out).mono ?_
          rintro e v94 ⟨vv, rfl, hi, hb⟩
          replace YX := Lib.hid (YX.out.below hb)
          replace YZ := Lib.hid (YZ.out.below hb)
          replace YW := Lib.hid (YW.out.below hb)
          replace GX := Lib.hid (GX.out.below hb)
          replace GZ := Lib.hid (GZ.out.below hb)
          replace GW := Lib.hid (GW.out.below hb)
          replace HB := Lib.hid (bC HB.out hb)
          clear hb
          rw [H4.out] at hi
          obtain ⟨ea, eac, rfl⟩ := hi.slice
          have HI0 := Lib.hid hi
          clear hi
          have GXc0 := GX.out.cell 0
          have GXc1 := GX.out.cell 1
          have GZc0 := GZ.out.cell 0
          have GZc1 := GZ.out.cell 1
          have GWc0 := GW.out.cell 0
          have GWc1 := GW.out.cell 1
          simp at GXc0 GXc1 GZc0 GZc1 GWc0 GWc1
          go_wp2_with fail
          clear GXc0 GXc1 GZc0 GZc1 GWc0 GWc1
          refine (Early_ok (.agg #[.int .i64 y.load, .slice rb z.logs.length rd]) AZ _ YZ.out HOZ.out).mono ?_
          rintro e v95 ⟨vv, rfl, hi, hb⟩
          replace YX := Lib.hid (YX.out.below hb)
          replace YZ := Lib.hid (YZ.out.below hb)
          replace YW := Lib.hid (YW.out.below hb)
          replace HI0 := Lib.hid (HI0.out.below hb)
          replace GX := Lib.hid (GX.out.below hb)
          replace GZ := Lib.hid (GZ.out.below hb)
          replace GW := Lib.hid (GW.out.below hb)
          replace HB := Lib.hid (bC HB.out hb)
          clear hb
          rw [H5.out] at hi
          obtain ⟨eb, ebc, rfl⟩ := hi.slice
          have HI1 := Lib.hid hi
          clear hi
          have GXc0 := GX.out.cell 0
          have GXc1 := GX.out.cell 1
          have GZc0 := GZ.out.cell 0
          have GZc1 := GZ.out.cell 1
          have GWc0 := GW.out.cell 0
          have GWc1 := GW.out.cell 1
          simp at GXc0 GXc1 GZc0 GZc1 GWc0 GWc1
          go_wp2_with fail
          clear GXc0 GXc1 GZc0 GZc1 GWc0 GWc1
          refine (Early_ok (.agg #[.int .i64 y.load, .slice xa2 (y.logs.length + z.logs.length) xc2]) AW _ YW.out HOW.out).mono ?_
          rintro e v96 ⟨vv, rfl, hi, hb⟩
          replace YX := Lib.hid (YX.out.below hb)
          replace YZ := Lib.hid (YZ.out.below hb)
          replace YW := Lib.hid (YW.out.below hb)
          replace HI0 := Lib.hid (HI0.out.below hb)
          replace HI1 := Lib.hid (HI1.out.below hb)
          replace GX := Lib.hid (GX.out.below hb)
          replace GZ := Lib.hid (GZ.out.below hb)
          replace GW := Lib.hid (GW.out.below hb)
          replace HB := Lib.hid (bC HB.out hb)
          clear hb
          rw [H6.out] at hi
          obtain ⟨ec, ecc, rfl⟩ := hi.slice
          have HI2 := Lib.hid hi
          clear hi
          have hua := HUA.out
          have hfb : FX + FZ ≤ 20 := by have := HL1.out; have := HL2.out; omega
          have hfn : 0 ≤ FX + FZ := by have := HN1.out; have := HN2.out; omega
          have e1 : (FW == FX + FZ) = true := by rw [hua]; simp
          have e2 : decide (FW = FX + FZ) = true := decide_eq_true hua
          have e3 : IntKind.i64.wrap (FX + FZ) = FX + FZ := IntWalk.i64_in _ (by omega)
          have hx10 : EX.length ≤ 10 := by have := HX1.out; have := HL1.out; omega
          have hz10 : EZ.length ≤ 10 := by have := HX2.out; have := HL2.out; omega
          obtain ⟨ti, hif, hi0, hi1, hi2⟩ := info_parts infoA64
          have HIF := Lib.hid hif
          have HI_0 := Lib.hid hi0
          have HI_1 := Lib.hid hi1
          have HI_2 := Lib.hid hi2
          have HEQ := Lib.hid (show decide (EW = EX ++ EZ) = true from decide_eq_true HEA.out)
          clear hua hif hi0 hi1 hi2
          have GXc0 := GX.out.cell 0
          have GXc1 := GX.out.cell 1
          have GZc0 := GZ.out.cell 0
          have GZc1 := GZ.out.cell 1
          have GWc0 := GW.out.cell 0
          have GWc1 := GW.out.cell 1
          simp at GXc0 GXc1 GZc0 GZc1 GWc0 GWc1
          have bl0 := Below.refl v96.heap.size v96
          have own0 := owns_nil v96 v96.heap.size 2 1
          go_wp2_with fail
          refine (longs_any _ _).mono ?_
          rintro e v97 ⟨rfl, rfl⟩
          go_wp2_with (first | (at_builtin; refine wpList_step (fun K hK => ?_); refine Eq.mpr (if_pos ?_) ?_; (· rfl); refine wp_append_src _ (.tmp 178) (.tmp 179) 25 rfl v96.heap.size 2 ti (.int .i64 0) 1 8 undA64 HIF.out HI_0.out HI_1.out HI_2.out rfl (by decide) _ _ _ rfl own0 ea EX.length eac (EX.map (Value.int .i64)) rfl (src_ints HI0.out) (src_ones _) (by unfold maxLen; omega) (by omega) bl0.size ?_; intro q1 w1 own1 gr1 _; have bl1 := below_owns own0 gr1 bl0 bl0.size; refine hK _ _ ?_; clear hK K) | (at_builtin; refine wpList_step (fun K hK => ?_); refine Eq.mpr (if_pos ?_) ?_; (· rfl); refine wp_append_src _ (.tmp 180) (.tmp 181) 25 rfl v96.heap.size 2 ti (.int .i64 0) 1 8 undA64 HIF.out HI_0.out HI_1.out HI_2.out rfl (by decide) _ _ _ rfl own1 eb EZ.length ebc (EZ.map (Value.int .i64)) rfl (src_ints (HI1.out.below bl1)) (src_ones _) (by unfold maxLen; omega) (by omega) bl1.size ?_; intro q2 w2 own2 gr2 _; have bl2 := below_owns own1 gr2 bl1 bl1.size; refine hK _ _ ?_; clear hK K))
          have HIC := Lib.hid (show IntsAt w2 q2 (EX ++ EZ) from by
            have h := Row.of_owns own2
            rw [show 0 + EX.length + EZ.length = (EX ++ EZ).length by simp, List.nil_append, ← List.map_append] at h
            exact h.ints)
          have HIW := Lib.hid (HI2.out.below bl2)
          have HBL := Lib.hid (bC HB.out bl2)
          have hwl : EW.length ≤ 1000 := by have := HEA.out; rw [this, List.length_append]; omega
          clear own0 own1 own2 gr1 gr2 bl0 bl1 bl2 GXc0 GXc1 GZc0 GZc1 GWc0 GWc1 e1 e2 e3
          refine (Longs_any _ _ EW (EX ++ EZ) _ HIW.out HIC.out hwl).mono ?_
          rintro e v98 ⟨rfl, hb⟩
          rw [HEQ.out]
          have HBQ := Lib.hid (bC HBL.out hb)
          clear hb
          go_wp2_with fail
          refine (Works_any _).mono ?_
          rintro e v99 ⟨rfl, hb⟩
          have HBR := Lib.hid (bC HBQ.out hb)
          clear hb
          go_wp2
          go_ret
          exact ⟨rfl, HBR.out⟩
end Go.Proofs.Ytjbeoakikdkdaaa
