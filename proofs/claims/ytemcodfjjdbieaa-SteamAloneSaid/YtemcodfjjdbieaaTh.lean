import Derived.Test.YtemcodfjjdbieaaTa
namespace Go.Proofs.Ytemcodfjjdbieaa
open Go.RowKit Go.Vat Go.Sort Go.Shelf
attribute [local go_sem] Oper.semAt_some

/-! ## One log in a load, and all in one -/
theorem YardAt.re {w : World} {a : Int} {sv : Value} {y : YardD} (h : YardAt w (.agg #[.int .i64 a, sv]) y) (m : Int) : YardAt w (.agg #[.int .i64 m, sv]) ⟨m, y.logs⟩ := by
  obtain ⟨sv', e, hp⟩ := h
  simp at e
  obtain ⟨rfl, rfl⟩ := e
  exact ⟨_, rfl, hp⟩
theorem many_bd (ls : List (Int × Int)) : ∀ h : Nat, 0 ≤ (manyS ls h).1 ∧ (manyS ls h).1 ≤ h
  | 0 => by simp [manyS]
  | h + 1 => by
    have := many_bd ls h
    rw [manyS]
    split
    · simp only
      omega
    · omega
theorem any_next {P : Int × Int → Bool} {ls : List (Int × Int)} {i : Nat} (hi : i < ls.length) : (ls.take (i + 1)).any P = ((ls.take i).any P || P ls[i]) := by
  rw [List.take_succ_eq_append_getElem hi, List.any_append]
  simp
theorem yard_pairs {w : World} {a : Int} {sv : Value} {y : YardD} (h : YardAt w (.agg #[.int .i64 a, sv]) y) : PairsAt w sv y.logs := by
  obtain ⟨sv', e, hp⟩ := h
  simp at e
  obtain ⟨_, rfl⟩ := e
  exact hp
set_option maxRecDepth 100000 in
set_option maxHeartbeats 16000000 in
theorem SteamAlone_any (v : Value) (y : YardD) (w : World) (hv : YardAt w v y) :
    Calls Try.prog 15 #[v] w fun e w' => e = .returned (.bool true) ∧ Below w.heap.size w w' := by
  obtain ⟨sv, rfl, hp⟩ := hv
  obtain ⟨sa, cap, rfl⟩ := hp.slice
  have hB0 := below1 w (.cells #[.int .i64 y.load, .slice sa y.logs.length cap] 24)
  have B0 := Lib.hid (Blk.new w (.cells #[.int .i64 y.load, .slice sa y.logs.length cap] 24))
  have HB := Lib.hid hB0
  have HV := Lib.hid (show YardAt _ (.agg #[.int .i64 y.load, .slice sa y.logs.length cap]) y from ⟨_, rfl, hp.below hB0⟩)
  clear hp hB0
  by_cases hyd : y.Ok
  case neg =>
    go_enter Try.func15, Try.ntmps15
    go_wp2_with fail
    generalize w.alloc (.cells #[.int .i64 y.load, .slice sa y.logs.length cap] 24) = W0 at *
    refine (fine_no (.agg #[.int .i64 y.load, .slice sa y.logs.length cap]) y _ HV.out hyd).mono ?_
    rintro e v1 ⟨rfl, hb⟩
    replace HV := Lib.hid (HV.out.below hb)
    replace B0 := Lib.hid (B0.out.below hb)
    replace HB := Lib.hid (bC HB.out hb)
    clear hb
    have B0c0 := B0.out.cell 0
    have B0c1 := B0.out.cell 1
    simp at B0c0 B0c1
    go_wp2_with fail
    clear B0c0 B0c1
    refine (Works_any _).mono ?_
    rintro e v2 ⟨rfl, hb⟩
    replace HV := Lib.hid (HV.out.below hb)
    replace B0 := Lib.hid (B0.out.below hb)
    replace HB := Lib.hid (bC HB.out hb)
    clear hb
    go_wp2
    go_ret
    exact ⟨rfl, HB.out⟩
  have HYD := Lib.hid hyd
  have hl10 := hyd.count
  clear hyd
  go_enter Try.func15, Try.ntmps15
  go_wp2_with fail
  generalize w.alloc (.cells #[.int .i64 y.load, .slice sa y.logs.length cap] 24) = W0 at *
  refine (fine_yes (.agg #[.int .i64 y.load, .slice sa y.logs.length cap]) y _ HV.out HYD.out).mono ?_
  rintro e v1 ⟨rfl, hb⟩
  replace HV := Lib.hid (HV.out.below hb)
  replace B0 := Lib.hid (B0.out.below hb)
  replace HB := Lib.hid (bC HB.out hb)
  clear hb
  have B0c0 := B0.out.cell 0
  have B0c1 := B0.out.cell 1
  simp at B0c0 B0c1
  go_wp2_with fail
  clear B0c0 B0c1
  have HT := Lib.hid (show YardD.Ok ⟨10, y.logs⟩ from ⟨by show (1 : Int) ≤ 10; omega, Int.le_refl _, HYD.out.count, HYD.out.log⟩)
  have HO1 := Lib.hid (show YardD.Ok ⟨1, y.logs⟩ from ⟨Int.le_refl _, by show (1 : Int) ≤ 10; omega, HYD.out.count, HYD.out.log⟩)
  have HU1 := Lib.hid (U_one HT.out)
  have HU2 := Lib.hid (U_ten HT.out 101).1
  have HBD := Lib.hid (many_bd y.logs)
  have HS0 := Lib.hid (show manyS y.logs 0 = (0, -1) from rfl)
  have HSS := Lib.hid (fun h => (show manyS y.logs (h + 1) = if y.logs.any (fun l => decide (l.2 = (h : Int)) && decide (l.1 > (manyS y.logs h).2)) = true then ((manyS y.logs h).1 + 1, (h : Int)) else manyS y.logs h from rfl))
  obtain ⟨S, hS⟩ : ∃ S, manyS y.logs = S := ⟨_, rfl⟩
  rw [hS] at HU2 HBD HS0 HSS
  clear hS
  refine (fewest_law (.agg #[.int .i64 1, .slice sa y.logs.length cap]) ⟨1, y.logs⟩ _ (HV.out.re 1) HO1.out).mono ?_
  rintro e v2 ⟨vh1, xs1, rfl, hi0, hf0, hn0, hb⟩
  replace HV := Lib.hid (HV.out.below hb)
  replace B0 := Lib.hid (B0.out.below hb)
  replace HB := Lib.hid (bC HB.out hb)
  clear hb
  clear hi0 hf0 hn0
  rw [HU1.out]
  have B0c0 := B0.out.cell 0
  have B0c1 := B0.out.cell 1
  simp at B0c0 B0c1
  go_wp2_with fail
  clear B0c0 B0c1
  refine (fewest_law (.agg #[.int .i64 10, .slice sa y.logs.length cap]) ⟨10, y.logs⟩ _ (HV.out.re 10) HT.out).mono ?_
  rintro e v3 ⟨vh2, xs2, rfl, hi0, hf0, hn0, hb⟩
  replace HV := Lib.hid (HV.out.below hb)
  replace B0 := Lib.hid (B0.out.below hb)
  replace HB := Lib.hid (bC HB.out hb)
  clear hb
  clear hi0 hf0 hn0
  rw [HU2.out]
  obtain ⟨TT, hTT⟩ : ∃ TT, (S 101).1 = TT := ⟨_, rfl⟩
  rw [hTT]
  have HTT := Lib.hid hTT
  clear hTT
  have B0c0 := B0.out.cell 0
  have B0c1 := B0.out.cell 1
  simp at B0c0 B0c1
  go_wp2_with fail
  have HP := Lib.hid (fun k (hk : k < y.logs.length) => PairsAt.get0 (yard_pairs HV.out) hk)
  go_loopw [9, 10, 11, 12, 13] (fun m e s _ _ wr => ∃ h : Nat, h ≤ 101 ∧ s = .int .i64 h ∧ m = .int .i64 (S h).1 ∧ e = .int .i64 (S h).2 ∧ wr = v3) (fun _ _ s _ _ _ => 101 - (intOf s).toNat)
  case atStart => exact ⟨0, by omega, rfl, by rw [HS0.out], by rw [HS0.out], rfl⟩
  case round =>
    obtain ⟨h, hh, rfl, rfl, rfl, hw⟩ := hrel
    subst hw
    have hbd := HBD.out h
    have HN := Lib.hid (HSS.out h)
    obtain ⟨mv, hmv⟩ : ∃ m, (S h).1 = m := ⟨_, rfl⟩
    obtain ⟨ev, hev⟩ : ∃ e, (S h).2 = e := ⟨_, rfl⟩
    rw [hmv] at hbd
    rw [hev, hmv] at HN
    rw [hmv, hev]
    have HMV := Lib.hid hmv
    have HEV := Lib.hid hev
    clear hmv hev
    by_cases hlt : h ≤ 100
    · have d1 : decide ((h : Int) ≤ 100) = true := decide_eq_true (by omega)
      obtain ⟨P, hP⟩ : ∃ P : Int × Int → Bool, (fun l => decide (l.2 = (h : Int)) && decide (l.1 > ev)) = P := ⟨_, rfl⟩
      rw [hP] at HN
      have HPV := Lib.hid (fun l : Int × Int => congrFun hP l)
      have HA0 := Lib.hid (show (y.logs.take 0).any P = false from rfl)
      clear hP
      go_wp2_with fail
      clear d1
      go_loopw [12, 13] (fun t s w2 => ∃ i : Nat, i ≤ y.logs.length ∧ s = .int .i64 i ∧ t = .bool ((y.logs.take i).any P) ∧ w2 = wr) (fun _ s _ => y.logs.length - (intOf s).toNat)
      case atStart => exact ⟨0, Nat.zero_le _, rfl, by rw [HA0.out], rfl⟩
      case round =>
        obtain ⟨i, hi, rfl, rfl, hw⟩ := hrel
        subst hw
        by_cases hit : i < y.logs.length
        · obtain ⟨pb, off, rfl, hpw, hc, hd⟩ := HP.out i hit
          have HNX := Lib.hid (any_next (P := P) hit)
          have HPX := Lib.hid (HPV.out y.logs[i])
          obtain ⟨l1, hl1⟩ : ∃ x, y.logs[i].1 = x := ⟨_, rfl⟩
          obtain ⟨l2, hl2⟩ : ∃ x, y.logs[i].2 = x := ⟨_, rfl⟩
          simp only [hl1, hl2] at HPX
          rw [hl1] at hc
          rw [hl2] at hd
          obtain ⟨b, hb⟩ : ∃ b, (y.logs.take i).any P = b := ⟨_, rfl⟩
          rw [hb] at HNX ⊢
          have hii : (i : Int) < (y.logs.length : Int) := by omega
          clear hl1 hl2 hb
          cases b
          · have HNX2 := Lib.hid (HNX.out.trans (by rw [Bool.false_or, ← HPX.out]))
            by_cases q : l2 = (h : Int)
            · have f1 : (l2 == (h : Int)) = true := by simpa using q
              have f2 : decide (l2 = (h : Int)) = true := by simpa using q
              rw [f2] at HNX2
              subst q
              by_cases q2 : ev < l1
              · have f3 : decide (l1 > ev) = true := decide_eq_true q2
                have f4 : decide (ev < l1) = true := decide_eq_true q2
                rw [f3] at HNX2
                clear q2
                go_wp2_with fail
                go_roundw
                case rel => exact ⟨i + 1, by omega, by go_num, by rw [HNX2.out]; rfl, by trivial⟩
                case measure => simp [intOf] <;> omega
              · have f3 : decide (l1 > ev) = false := decide_eq_false q2
                have f4 : decide (ev < l1) = false := decide_eq_false q2
                rw [f3] at HNX2
                clear q2
                go_wp2_with fail
                go_roundw
                case rel => exact ⟨i + 1, by omega, by go_num, by rw [HNX2.out]; rfl, by trivial⟩
                case measure => simp [intOf] <;> omega
            · have f1 : (l2 == (h : Int)) = false := by simpa using q
              have f2 : decide (l2 = (h : Int)) = false := by simpa using q
              rw [f2] at HNX2
              clear q
              go_wp2_with fail
              go_roundw
              case rel => exact ⟨i + 1, by omega, by go_num, by rw [HNX2.out]; rfl, by trivial⟩
              case measure => simp [intOf] <;> omega
          · have HNX2 := Lib.hid (HNX.out.trans (Bool.true_or _))
            have hun : undef = Value.tuple #[] := rfl
            go_wp2_with fail
            clear hun
            go_roundw
            case rel => exact ⟨i + 1, by omega, by go_num, by rw [HNX2.out], by trivial⟩
            case measure => simp [intOf] <;> omega
        · obtain rfl : i = y.logs.length := by omega
          have HTL := Lib.hid (show (y.logs.take y.logs.length).any P = y.logs.any P by rw [List.take_length])
          obtain ⟨b, hb⟩ : ∃ b, y.logs.any P = b := ⟨_, rfl⟩
          rw [HTL.out, hb]
          rw [hb] at HN
          have u1 : IntKind.i64.wrap (mv + 1) = mv + 1 := IntWalk.i64_in _ (by omega)
          clear hb HTL
          cases b
          · have HN2 := Lib.hid (HN.out.trans (if_neg (by decide)))
            go_wp2_with fail
            go_roundw
            case rel => exact ⟨h + 1, by omega, by go_num, by rw [HN2.out, HMV.out], by rw [HN2.out, HEV.out], by trivial⟩
            case measure => simp [intOf] <;> omega
          · have HN2 := Lib.hid (HN.out.trans (if_pos rfl))
            go_wp2_with fail
            go_roundw
            case rel => exact ⟨h + 1, by omega, by go_num, by rw [HN2.out], by rw [HN2.out], by trivial⟩
            case measure => simp [intOf] <;> omega
    · obtain rfl : h = 101 := by omega
      have d1 : decide (((101 : Nat) : Int) ≤ 100) = false := by decide
      have HTM := Lib.hid (show mv = TT from HMV.out.symm.trans HTT.out)
      obtain ⟨rfl⟩ := HTM.out
      go_wp2_with fail
      refine (Works_any _).mono ?_
      rintro e vq ⟨rfl, hb⟩
      have HBQ := Lib.hid (bC HB.out hb)
      clear hb
      go_wp2
      go_ret
      exact ⟨rfl, HBQ.out⟩
end Go.Proofs.Ytemcodfjjdbieaa
