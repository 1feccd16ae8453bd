import Derived.Test.YtjbeoakikdkdaaaSh
import Derived.ChangeKeysEq
import Derived.Deep.MidRow
import Derived.Lib.SliceRun
namespace Go.Proofs.Ytjbeoakikdkdaaa
open Go.RowKit Go.Vat Go.Sort Go.Shelf
attribute [local go_sem] Oper.semAt_some

/-! ## The program: the loads of hours -/
theorem eqItems_ints {P : Program} {e : TypeId} (he : P.plainKey e = true) (hu : P.underlying e = some (.int .i64)) (d : Nat) (xs ys : Array Value) (f g : Nat → Int) (w : World) : ∀ is : List Nat, (∀ i ∈ is, xs[i]? = some (.int .i64 (f i)) ∧ ys[i]? = some (.int .i64 (g i))) →
    (Op.eqItems (d + 1) e 1 xs ys is).run P w = .ok (is.all fun i => f i == g i) w
  | [], _ => by simp [Op.eqItems]
  | i :: is, h => by
    obtain ⟨h1, h2⟩ := h i List.mem_cons_self
    have p1 : (part e xs (i * 1)).run P w = .ok (.int .i64 (f i)) w := run_part_plain w he (by rw [Nat.mul_one]; exact h1)
    have p2 : (part e ys (i * 1)).run P w = .ok (.int .i64 (g i)) w := run_part_plain w he (by rw [Nat.mul_one]; exact h2)
    have p3 := run_equalIn_int (P := P) w d e .i64 .i64 (f i) (g i) hu
    have ih := eqItems_ints he hu d xs ys f g w is (fun j hj => h j (List.mem_cons_of_mem _ hj))
    simp only [Op.eqItems, Sem.run_bind, p1, p2, p3, Result.andThen_ok, List.all_cons]
    cases hb : (f i == g i) with
    | false => simp
    | true => simpa using ih
def csU (U : Nat → Int) : List Value := (List.range 101).map fun p => .int .i64 (U p)
theorem csU_get (U : Nat → Int) {j : Nat} (hj : j < 101) : (csU U)[j]? = some (.int .i64 (U j)) := by
  unfold csU
  rw [List.getElem?_map, List.getElem?_range hj]
  rfl
theorem eqc (U : Nat → Int) (w : World) : (Op.equalIn 10000 76 (.agg (csU U).toArray) (.agg (csU fun _ => 0).toArray)).run Try.prog w = .ok ((List.range 101).all fun i => U i == 0) w := by
  have hi : (Try.prog.info? 2).isSome = true := by kernel_rfl
  obtain ⟨i, hi⟩ := Option.isSome_iff_exists.1 hi
  have hc : Try.prog.cellsOf 2 = 1 := by kernel_rfl
  rw [run_equalIn_array w 9999 (t := 76) (e := 2) (n := 101) (i := i) _ _ (by kernel_rfl) hi, hc]
  refine eqItems_ints (by kernel_rfl) (by kernel_rfl) 9998 _ _ U (fun _ => 0) w _ fun j hj => ?_
  have hj := List.mem_range.1 hj
  rw [List.getElem?_toArray, List.getElem?_toArray, csU_get U hj, csU_get _ hj]
  exact ⟨rfl, rfl⟩
theorem zsc : (csU fun _ => 0).toArray = Try.zeroCells76 := by kernel_rfl
theorem eqZc (U : Nat → Int) (w : World) : (Op.equalIn 10000 76 (.agg (csU U).toArray) (.agg Try.zeroCells76)).run Try.prog w = .ok ((List.range 101).all fun i => U i == 0) w := by
  rw [← zsc]
  exact eqc U w
theorem rangec {w : World} {n₀ T M : Nat} {y : YardD} {u : Value} {U H : Nat → Int} (h : VatAt w n₀ T M y u U H) : w.rangeAt T 105 (csU H) := fun j v hj => by
  have hj2 : j < 101 := by
    have := (List.getElem?_eq_some_iff.1 hj).1
    simpa [csU] using this
  rw [csU_get H hj2] at hj
  cases hj
  exact h.hv hj2
theorem undc : Try.prog.underlying 76 = some (.array 101 2) := by kernel_rfl
theorem idxc {ca : Array Value} {k : Nat} {g : Int} (hk : k < 101) (h : ca[k]? = some (.int .i64 g)) (w : World) : (Instr.index 76 (.agg ca) (.int .i64 k)).run Try.prog w = .ok (.int .i64 g) w := by
  have hs : ∀ w, (sizeOf 2).run Try.prog w = .ok 1 w := fun w => by kernel_rfl
  have he : Try.prog.plainKey 2 = true := by kernel_rfl
  have hp : (part 2 ca k).run Try.prog w = .ok (.int .i64 g) w := run_part_plain w he h
  unfold Instr.index
  simp only [asIntOf, Sem.run_bind, Sem.run_pure, Result.andThen_ok, run_underlying undc]
  rw [if_pos ⟨by omega, by omega⟩]
  simp only [Sem.run_bind, hs, Result.andThen_ok, Int.toNat_natCast, Nat.mul_one, hp]
theorem infc (U : Nat → Int) : (Try.prog.info? 76).map (·.size) = some (csU U).length := by
  have e : (csU U).length = 101 := by simp [csU]
  have h : (Try.prog.info? 76).map (·.size) = some 101 := by kernel_rfl
  exact h.trans (congrArg some e.symm)
/-- Numbers that are cleared. -/
theorem VatAt.clearHv {w : World} {n₀ T M : Nat} {y : YardD} {u : Value} {U H : Nat → Int} (h : VatAt w n₀ T M y u U H) {w0 : World} (hF : FrLM w0 T M w) : ∀ (m p : Nat), p + m ≤ 101 →
    VatAt (w.setCells T (105 + p) (List.replicate m (.int .i64 0))) n₀ T M y u U (fun q => if p ≤ q ∧ q < p + m then 0 else H q) ∧ FrLM w0 T M (w.setCells T (105 + p) (List.replicate m (.int .i64 0))) := by
  intro m
  induction m generalizing w H with
  | zero =>
    intro p hp
    refine ⟨?_, hF⟩
    have e : (fun q => if p ≤ q ∧ q < p + 0 then 0 else H q) = H := by funext q; rw [if_neg (by omega)]
    rw [e]
    exact h
  | succ m ih =>
    intro p hp
    rw [List.replicate_succ, World.setCells]
    have h1 := ih (h.setHv (p := p) (by omega) 0) (hF.setT _ _) (p + 1) (by omega)
    rw [show 105 + (p + 1) = 105 + p + 1 by omega] at h1
    refine ⟨?_, h1.2⟩
    have e : (fun q => if p ≤ q ∧ q < p + (m + 1) then 0 else H q) = fun q => if p + 1 ≤ q ∧ q < p + 1 + m then 0 else updF H p 0 q := by
      funext q
      unfold updF
      by_cases c1 : q = p
      · subst c1; rw [if_pos (by omega), if_neg (by omega), if_pos rfl]
      · by_cases c2 : p ≤ q ∧ q < p + (m + 1)
        · rw [if_pos c2, if_pos (by omega)]
        · rw [if_neg c2, if_neg (by omega), if_neg c1]
    rw [e]
    exact h1.1
theorem clearc (W : World) (T o : Nat) (ty : TypeId) (hc : ∀ j, j < 101 → (W.cell? ⟨T, o + j, none⟩).isSome = true) (hf : ∀ j, j < 101 → W.frozen? ⟨T, o + j, none⟩ = false) :
    (Builtin.clear_ #[25] ty #[.slice (some ⟨T, o, none⟩) 101 101]).run Try.prog W = .ok (.tuple #[]) (W.setCells T o (List.replicate 101 (.int .i64 0))) :=
  Lib.run_clear_slice W 25 2 ty (.int .i64 0) Try.underlying25 (fun w => by kernel_rfl) rfl rfl T o 101 101 (by omega) hc hf
/-- How many of the first hours are each one. -/
def Hc (xs : List Int) (k h : Nat) : Int := ((xs.take k).count (h : Int) : Int)
theorem Hc_zero (xs : List Int) : Hc xs 0 = fun _ => 0 := by funext h; simp [Hc]
theorem Hc_step {xs : List Int} {k h : Nat} (hk : k < xs.length) (hh : xs[k] = (h : Int)) : updF (Hc xs k) h (Hc xs k h + 1) = Hc xs (k + 1) := by
  funext q
  unfold updF Hc
  rw [List.take_succ_eq_append_getElem hk, List.count_append, hh, List.count_singleton]
  by_cases e : q = h
  · subst e; rw [if_pos rfl, if_pos (by simp)]; omega
  · rw [if_neg e, if_neg (by simp; omega)]; omega
theorem Hc_bd (xs : List Int) (k h : Nat) : 0 ≤ Hc xs k h ∧ Hc xs k h ≤ xs.length := by
  unfold Hc
  have h1 := List.count_le_length (a := (h : Int)) (l := xs.take k)
  have h2 := List.length_take_le k xs
  have h3 : (xs.take k).length ≤ xs.length := by rw [List.length_take]; omega
  omega
theorem N_zero {m : Int} (hm : 1 ≤ m) {xs : List Int} : ∀ {k : Nat}, (∀ h, h < k → Hc xs xs.length h = 0) → N m xs k = 0
  | 0, _ => rfl
  | k + 1, h => by
    have h1 := h k (by omega)
    unfold Hc at h1
    rw [List.take_length] at h1
    rw [N, N_zero hm fun j hj => h j (by omega), h1, up_zero hm]
    rfl
set_option maxRecDepth 100000 in
set_option maxHeartbeats 8000000 in
theorem loads_any (n₀ T M : Nat) (y : YardD) (u : Value) (U H : Nat → Int) (v : Value) (xs : List Int) (w : World) (hV : VatAt w n₀ T M y u U H) (hy : y.Ok) (hn : n₀ ≤ w.heap.size) (hv : IntsAt w v xs) (hl : xs.length ≤ 10) (hx : ∀ x ∈ xs, 0 ≤ x ∧ x ≤ 100)
    (hne : ∀ b off n c, v = .slice (some ⟨b, off, none⟩) n c → xs ≠ [] → b ≠ T ∧ b ≠ M) :
    Calls Try.prog 55 #[.pointer (some ⟨T, 0, none⟩), v] w fun e w' => e = .returned (.int .i64 (N y.load xs 101)) ∧ FrLM w T M w' := by
  obtain ⟨sa, cap, rfl⟩ := hv.slice
  have HYD := Lib.hid hy
  have HXS := Lib.hid (show ∀ k (h : k < xs.length), ∃ b off, sa = some ⟨b, off, none⟩ ∧ (b ≠ T ∧ b ≠ M ∧ b < w.heap.size) ∧ w.cell? ⟨b, off + k, none⟩ = some (.int .i64 xs[k]) from fun k h => by
    obtain ⟨b, off, e, hc⟩ := hv.at.2 k h
    have h1 := hne b off _ _ (by rw [e]) (by intro e0; subst e0; exact absurd h (Nat.not_lt_zero _))
    exact ⟨b, off, e, ⟨h1.1, h1.2, lt_of_cell hc⟩, hc⟩)
  have HX := Lib.hid (show ∀ k (h : k < xs.length), ∃ f : Nat, xs[k] = (f : Int) ∧ f ≤ 100 from fun k h => by
    have := hx xs[k] (List.getElem_mem h)
    exact ⟨xs[k].toNat, by omega, by omega⟩)
  have hTl := hV.lt
  have hclr := clearc w T 105 0 (fun j hj => by rw [hV.hv hj]; rfl) (fun j _ => hV.frozen _)
  have h0 := hV.clearHv (FrLM.refl w T M) 101 0 (by omega)
  rw [Nat.add_zero] at h0
  obtain ⟨zl, hzl⟩ : ∃ zl, List.replicate 101 (Value.int .i64 0) = zl := ⟨_, rfl⟩
  rw [hzl] at hclr h0
  clear hzl
  have HV0 := Lib.hid (h0.1.same (U' := U) (H' := Hc xs 0) (fun _ _ => rfl) (fun p hp => by rw [Hc_zero]; rw [if_pos (by omega)]))
  have HF0 := Lib.hid h0.2
  clear hV hy hv hx hne h0
  go_enter Try.func55, Try.ntmps55
  go_wp2_with fail
  clear hclr
  generalize w.setCells T 105 zl = W0 at *
  go_loopw [6, 16] (fun _ i wr => ∃ k : Nat, k ≤ xs.length ∧ i = .int .i64 k ∧ VatAt wr n₀ T M y u U (Hc xs k) ∧ FrLM w T M wr) (fun _ i _ => xs.length - (intOf i).toNat)
  case atStart => exact ⟨0, Nat.zero_le _, rfl, HV0.out, HF0.out⟩
  case round =>
    clear HV0 HF0
    obtain ⟨k, hk, rfl, hvr, hfr⟩ := hrel
    have HVR := Lib.hid hvr
    have HFR := Lib.hid hfr
    have hTw := hvr.lt.1
    have hfs := hfr.size
    by_cases hlt : k < xs.length
    · obtain ⟨b, off, hsa, ⟨hb1, hb2, hb3⟩, c0⟩ := HXS.out k hlt
      subst hsa
      obtain ⟨fv, hfv, hf100⟩ := HX.out k hlt
      rw [hfv] at c0
      have c0 : wr.cell? ⟨b, off + k, none⟩ = some (.int .i64 fv) := (World.cell?_of_block (hfr.same b hb3 hb1 hb2)).trans c0
      have HST := Lib.hid (Hc_step hlt hfv)
      have hcb := Hc_bd xs k fv
      have e0 := hvr.hv (p := fv) (by omega)
      obtain ⟨cv, hcv⟩ : ∃ c, Hc xs k fv = c := ⟨_, rfl⟩
      rw [hcv] at e0 hcb
      have HCV := Lib.hid hcv
      obtain ⟨hc0, hc1⟩ := hcb
      have ww : IntKind.i64.wrap (cv + 1) = cv + 1 := IntWalk.i64_in _ (by omega)
      have i1 : (fv : Int) < 101 := by omega
      have g0 := fun d os => cell_regrown e0 d os
      have g1 := fun d os => cell_regrown c0 d os
      clear hvr hfr hcv hfv e0
      go_wp2_with fail
      refine wp_region_tail 9 (by kernel_rfl) (by kernel_rfl) ?_
      repeat (quiet_step (fail))
      refine wpQuiet_nil ?_
      intro _ hw'
      obtain ⟨⟨dq, osq⟩, hw''⟩ := hw'
      subst hw''
      simp only [List.drop_succ_cons, List.drop_zero]
      have hb8 := below_regrown wr dq osq
      have HV8 := Lib.hid (HVR.out.below (by have := HFR.out.size; omega) hb8)
      have HF8 := Lib.hid (HFR.out.below hb8)
      clear g0 g1 c0 hb8
      generalize grow (redrawn wr dq) osq = w9 at *
      have e1 := HV8.out.hv (p := fv) (by omega)
      have e2 := HV8.out.frozen (105 + fv)
      have e3 := HV8.out.lt.1
      go_wp2
      go_roundw
      case rel => exact ⟨k + 1, by omega, by go_num, by rw [← HST.out, HCV.out]; exact HV8.out.setHv (by omega) _, HF8.out.setT _ _⟩
      case measure => simp [intOf] <;> omega
    · obtain rfl : k = xs.length := by omega
      obtain ⟨G, hG⟩ : ∃ G, Hc xs xs.length = G := ⟨_, rfl⟩
      have HG := Lib.hid hG
      rw [hG] at hvr HVR
      have hq := fun w => eqZc G w
      have hq4 := Lib.hid (rangec hvr)
      obtain ⟨z, hz⟩ : ∃ z, ((List.range 101).all fun i => G i == 0) = z := ⟨_, rfl⟩
      rw [hz] at hq
      have HZ := Lib.hid hz
      clear hvr hfr hG hz
      cases z with
      | true =>
        have HN := Lib.hid (show N y.load xs 101 = 0 from N_zero HYD.out.l1 fun h hh => by
          have h2 := List.all_eq_true.1 HZ.out h (List.mem_range.2 hh)
          rw [HG.out]
          simpa using h2)
        go_wp2_with (refine wpList_load_mid rfl 76 (.tmp 33) rfl T 105 (by simp [Act.eval]) (csU G) _ hq4.out undc rfl (infc G) ?_)
        go_ret
        exact ⟨ret_int HN.out.symm, HFR.out⟩
      | false =>
        go_wp2_with (first | (refine wpList_load_mid rfl 76 (.tmp 33) rfl T 105 (by simp [Act.eval]) (csU G) _ hq4.out undc rfl (infc G) ?_) | (refine wpList_load_mid rfl 76 (.tmp 40) rfl T 105 (by simp [Act.eval]) (csU G) _ hq4.out undc rfl (infc G) ?_))
        clear hq hq4
        obtain ⟨ca, hca⟩ : ∃ ca, (csU G).toArray = ca := ⟨_, rfl⟩
        have HCA := Lib.hid (fun (k : Nat) (hk : k < 101) => show ca[k]? = some (.int .i64 (G k)) by rw [← hca, List.getElem?_toArray]; exact csU_get G hk)
        have hcs : ca.size = 101 := by rw [← hca]; simp [csU]
        rw [hca]
        clear hca
        have HVG := HVR
        have hbN := N_le_count HYD.out.l1 xs
        go_loopw [7, 9, 42] (fun s _ i wq => ∃ k : Nat, k ≤ 101 ∧ i = .int .i64 k ∧ s = .int .i64 (N y.load xs k) ∧ VatAt wq n₀ T M y u U G ∧ FrLM w T M wq) (fun _ _ i _ => 101 - (intOf i).toNat)
        case atStart => exact ⟨0, by omega, rfl, rfl, HVG.out, HFR.out⟩
        case round =>
          clear HVR HVG HFR
          obtain ⟨k, hk, rfl, rfl, hv2, hf2⟩ := hrel
          have HV2 := Lib.hid hv2
          have HF2 := Lib.hid hf2
          have hN0 := N_mono HYD.out.l1 xs (a := 0) (b := k) (by omega)
          have hNb := hbN k
          rw [show N y.load xs 0 = 0 from rfl] at hN0
          by_cases hlt2 : k < 101
          · have d1 : decide ((k : Int) < 101) = true := by simp; omega
            have hck := HCA.out k hlt2
            have hGb := Hc_bd xs xs.length k
            rw [HG.out] at hGb
            have HNS := Lib.hid (show N y.load xs (k + 1) = N y.load xs k + up (G k) y.load by rw [N, ← HG.out]; unfold Hc; rw [List.take_length])
            obtain ⟨gk, hgk⟩ : ∃ g, G k = g := ⟨_, rfl⟩
            rw [hgk] at hck hGb HNS
            have hub := up_le_self (n := gk) HYD.out.l1 (by omega)
            have hu0 := up_nonneg (n := gk) HYD.out.l1 (by omega)
            obtain ⟨nn, hnn⟩ : ∃ n, N y.load xs k = n := ⟨_, rfl⟩
            rw [hnn] at hN0 hNb ⊢
            have HNN := Lib.hid hnn
            obtain ⟨uv, huv⟩ : ∃ v, up gk y.load = v := ⟨_, rfl⟩
            rw [huv] at hub hu0
            have HUV := Lib.hid huv
            have ww : IntKind.i64.wrap (nn + uv) = nn + uv := IntWalk.i64_in _ (by omega)
            have hix := fun w => idxc hlt2 hck w
            clear hnn huv hgk hv2 hf2 hck
            go_wp2_with fail
            refine (loadsFor_any n₀ T M y u U G gk _ HV2.out HYD.out (by omega) (by omega)).mono ?_
            rintro e w5 ⟨rfl, hb5⟩
            rw [HUV.out]
            have HV5 := Lib.hid (HV2.out.below (by have := HF2.out.size; omega) hb5)
            have HF5 := Lib.hid (HF2.out.below hb5)
            clear hb5
            go_wp2
            go_roundw
            case rel => exact ⟨k + 1, by omega, by go_num, by rw [HNS.out, HNN.out, HUV.out], HV5.out, HF5.out⟩
            case measure => simp [intOf] <;> omega
          · obtain rfl : k = 101 := by omega
            have d1 : decide (((101 : Nat) : Int) < 101) = false := by decide
            clear hv2 hf2
            obtain ⟨nn, hnn⟩ : ∃ n, N y.load xs 101 = n := ⟨_, rfl⟩
            have HNN := Lib.hid hnn
            rw [hnn]
            clear hnn hNb hN0 hbN
            go_wp2
            go_ret
            exact ⟨ret_int HNN.out.symm, HF2.out⟩
end Go.Proofs.Ytjbeoakikdkdaaa

namespace Go.Proofs.Ytjbeoakikdkdaaa
open Go.RowKit Go.Vat Go.Sort Go.Shelf
attribute [local go_sem] Oper.semAt_some

/-! ## The program: right hours -/
def fitB : List Int → List (Int × Int) → Bool
  | x :: xs, l :: ls => (decide (l.1 ≤ x) && decide (x ≤ l.2)) && fitB xs ls
  | _, _ => true
theorem fitB_fit : ∀ {xs : List Int} {ls : List (Int × Int)}, xs.length = ls.length → (fitB xs ls = true ↔ fit xs ls)
  | [], [], _ => by simp [fitB, fit]
  | [], _ :: _, h => by simp at h
  | _ :: _, [], h => by simp at h
  | x :: xs, l :: ls, h => by
    have ih := fitB_fit (xs := xs) (ls := ls) (by simpa using h)
    rw [fitB, fit, Bool.and_eq_true, ih]
    simp
theorem fitB_drop {xs : List Int} {ls : List (Int × Int)} {k : Nat} (h : k < xs.length) (h' : k < ls.length) : fitB (xs.drop k) (ls.drop k) = ((decide (ls[k].1 ≤ xs[k]) && decide (xs[k] ≤ ls[k].2)) && fitB (xs.drop (k + 1)) (ls.drop (k + 1))) := by
  rw [List.drop_eq_getElem_cons h, List.drop_eq_getElem_cons h', fitB]
def hoursErr0 (y : YardD) (xs : List Int) : Int := if xs.length ≠ y.logs.length then 15 else if fitB xs y.logs = true then 0 else 19
def hoursErr (y : YardD) (xs : List Int) : Int := if yardErr y ≠ 0 then yardErr y else hoursErr0 y xs
def hoursV (y : YardD) (xs : List Int) : Int := if hoursErr y xs = 0 then N y.load xs 101 else 0
theorem hoursErr_ok {y : YardD} (hy : y.Ok) (xs : List Int) : hoursErr y xs = hoursErr0 y xs := by
  unfold hoursErr
  rw [if_neg (by rw [yardErr_of hy]; simp)]
theorem hoursV_no {y : YardD} {xs : List Int} (h : hoursErr y xs ≠ 0) : hoursV y xs = 0 := if_neg h
theorem hoursErr_zero {y : YardD} {xs : List Int} (h : hoursErr y xs = 0) : y.Ok ∧ fit xs y.logs := by
  unfold hoursErr at h
  split at h
  · contradiction
  · rename_i h1
    refine ⟨yardErr_zero (Classical.not_not.1 h1), ?_⟩
    unfold hoursErr0 at h
    split at h
    · cases h
    · rename_i h2
      split at h
      · rename_i h3
        exact (fitB_fit (Classical.not_not.1 h2)).1 h3
      · cases h
theorem hours_of {y : YardD} (hy : y.Ok) {xs : List Int} (h : fit xs y.logs) : hoursErr y xs = 0 ∧ hoursV y xs = N y.load xs 101 := by
  have he : hoursErr y xs = 0 := by
    rw [hoursErr_ok hy]
    unfold hoursErr0
    rw [if_neg (by simpa using fit_length h), if_pos ((fitB_fit (fit_length h)).2 h)]
  exact ⟨he, by unfold hoursV; rw [if_pos he]⟩
set_option maxRecDepth 100000 in
set_option maxHeartbeats 1000000 in
theorem CheckHours_err (v : Value) (hv0 : Value) (y : YardD) (w : World) (hv : YardAt w v y) (hl : y.logs.length ≤ 1000000) (he : yardErr y ≠ 0) :
    Calls Try.prog 19 #[v, hv0] w fun e w' => e = .returned (.tuple #[.int .i64 0, .int .i64 (yardErr y)]) ∧ Below w.heap.size w w' := by
  obtain ⟨sv, rfl, hp⟩ := hv
  obtain ⟨sa, cap, rfl⟩ := hp.slice
  have HP := Lib.hid hp
  have HER := Lib.hid he
  obtain ⟨E, hE⟩ : ∃ E, yardErr y = E := ⟨_, rfl⟩
  have d1 : (E != 0) = true := by rw [← hE]; simpa using he
  have HE := Lib.hid hE
  clear hp he hE
  rw [HE.out]
  go_enter Try.func19, Try.ntmps19
  go_wp2_with fail
  refine (lay_err _ y _ ⟨_, rfl, HP.out.below (below1 _ _)⟩ hl HER.out).mono ?_
  rintro e w1 ⟨rfl, hb⟩
  rw [HE.out]
  go_wp2
  go_ret2
  exact ⟨rfl, after1 hb⟩
set_option maxRecDepth 100000 in
set_option maxHeartbeats 4000000 in
theorem CheckHours_15 (v : Value) (xv0 : Value) (y : YardD) (w : World) (hv : YardAt w v y) (hy : y.Ok) (xs : List Int) (hx : IntsAt w xv0 xs) (hne : xs.length ≠ y.logs.length) :
    Calls Try.prog 19 #[v, xv0] w fun e w' => e = .returned (.tuple #[.int .i64 0, .int .i64 15]) ∧ Below w.heap.size w w' := by
  obtain ⟨sv, rfl, hp⟩ := hv
  obtain ⟨sa, cap, rfl⟩ := hp.slice
  have hB0 := below1 w (.cells #[.int .i64 y.load, .slice sa y.logs.length cap] 24)
  have HV := Lib.hid (show YardAt (w.alloc (.cells #[.int .i64 y.load, .slice sa y.logs.length cap] 24)) (.agg #[.int .i64 y.load, .slice sa y.logs.length cap]) y from ⟨_, rfl, hp.below hB0⟩)
  have HYD := Lib.hid hy
  have hl10 := hy.count
  obtain ⟨xa, xc, rfl⟩ := hx.slice
  clear hx
  have d1 : ((xs.length : Int) != (y.logs.length : Int)) = true := by simp; omega
  have d2 : (xs.length != y.logs.length) = true := by simpa using hne
  clear hp hy
  go_enter Try.func19, Try.ntmps19
  go_wp2_with fail
  generalize w.alloc (.cells #[.int .i64 y.load, .slice sa y.logs.length cap] 24) = W0 at *
  refine (lay_ok _ y _ HV.out HYD.out).mono ?_
  rintro e w1 ⟨T, M, n₀, sv, H, rfl, hL, hT, hM, hb1⟩
  have HL := Lib.hid hL
  have HB1 := Lib.hid (bC hB0 hb1)
  clear hL hB0 HV
  obtain ⟨la, lc, hse⟩ := HL.out.vat.logs.slice
  subst hse
  have c1 := HL.out.vat.sl
  have hTl := HL.out.vat.lt
  go_wp2
  go_ret2
  exact ⟨rfl, HB1.out⟩
set_option maxRecDepth 100000 in
set_option maxHeartbeats 4000000 in
theorem CheckHours_0 (v : Value) (xv0 : Value) (y : YardD) (w : World) (hv : YardAt w v y) (hy : y.Ok) (xs : List Int) (hx : IntsAt w xv0 xs) (he : xs.length = y.logs.length) (PV PE : Int) (hok : fitB xs y.logs = true → PV = N y.load xs 101 ∧ PE = 0) (hno : fitB xs y.logs = false → PV = 0 ∧ PE = 19) :
    Calls Try.prog 19 #[v, xv0] w fun e w' => e = .returned (.tuple #[.int .i64 PV, .int .i64 PE]) ∧ Below w.heap.size w w' := by
  obtain ⟨sv, rfl, hp⟩ := hv
  obtain ⟨sa, cap, rfl⟩ := hp.slice
  have hB0 := below1 w (.cells #[.int .i64 y.load, .slice sa y.logs.length cap] 24)
  have HV := Lib.hid (show YardAt (w.alloc (.cells #[.int .i64 y.load, .slice sa y.logs.length cap] 24)) (.agg #[.int .i64 y.load, .slice sa y.logs.length cap]) y from ⟨_, rfl, hp.below hB0⟩)
  have HYD := Lib.hid hy
  have hl10 := hy.count
  obtain ⟨xa, xc, rfl⟩ := hx.slice
  have HX0 := Lib.hid hx
  have HX := Lib.hid (hx.below hB0)
  clear hx
  have HOK := Lib.hid hok
  have HNO := Lib.hid hno
  have HLE := Lib.hid he
  have d1 : ((xs.length : Int) != (y.logs.length : Int)) = false := by simp; omega
  have d2 : (xs.length != y.logs.length) = false := by simpa using he
  have hxl : xs.length ≤ 10 := by have := hy.count; omega
  clear hok hno he
  clear hp hy
  go_enter Try.func19, Try.ntmps19
  go_wp2_with fail
  have HW0 := Lib.hid (show w.heap.size < (w.alloc (.cells #[.int .i64 y.load, .slice sa y.logs.length cap] 24)).heap.size by simp)
  generalize w.alloc (.cells #[.int .i64 y.load, .slice sa y.logs.length cap] 24) = W0 at *
  refine (lay_ok _ y _ HV.out HYD.out).mono ?_
  rintro e w1 ⟨T, M, n₀, sv, H, rfl, hL, hT, hM, hb1⟩
  have HL := Lib.hid hL
  have HB1 := Lib.hid (bC hB0 hb1)
  clear hL hB0 HV
  obtain ⟨la, lc, hse⟩ := HL.out.vat.logs.slice
  subst hse
  have c1 := HL.out.vat.sl
  have hTl := HL.out.vat.lt
  have HX1 := Lib.hid (HX.out.below hb1)
  have HXA := Lib.hid HX1.out.at.2
  have HF0 := Lib.hid (show W0.heap.size ≤ T ∧ W0.heap.size ≤ M from ⟨hT, hM⟩)
  have hW0 : w.heap.size < W0.heap.size := HW0.out
  clear HX hb1
  go_wp2_with fail
  clear c1
  go_loopw [8, 9, 33] (fun _ _ i wr => ∃ k : Nat, k ≤ y.logs.length ∧ i = .int .i64 k ∧ fitB xs y.logs = fitB (xs.drop k) (y.logs.drop k) ∧ Below w1.heap.size w1 wr) (fun _ _ i _ => y.logs.length - (intOf i).toNat)
  case atStart => exact ⟨0, Nat.zero_le _, rfl, rfl, Below.refl _ _⟩
  case round =>
    obtain ⟨k, hk, rfl, hpf, hB⟩ := hrel
    have HPF := Lib.hid hpf
    have HB := Lib.hid hB
    have HLw := Lib.hid (HL.out.below hB)
    by_cases hlt : k < y.logs.length
    · have hkx : k < xs.length := by have := HLE.out; omega
      obtain ⟨xb, xoff, hxa, x0⟩ := HXA.out k hkx
      subst hxa
      obtain ⟨lb, off, hla, ⟨hb1, hb2, hb3⟩, c0, c1⟩ := HLw.out.vat.logs.get k hlt
      subst hla
      have x0 := cellB x0 hB
      have HD := Lib.hid (fitB_drop hkx hlt)
      obtain ⟨lo, hlo⟩ : ∃ x, y.logs[k].1 = x := ⟨_, rfl⟩
      obtain ⟨hi, hhi⟩ : ∃ x, y.logs[k].2 = x := ⟨_, rfl⟩
      obtain ⟨xv, hxv⟩ : ∃ x, xs[k] = x := ⟨_, rfl⟩
      rw [hlo] at c0
      rw [hhi] at c1
      rw [hxv] at x0
      have HN := Lib.hid (And.intro hlo (And.intro hhi hxv))
      have bX := Blk.new wr (.cells #[.int .i64 lo, .int .i64 hi] 27)
      have hBx := below1 wr (.cells #[.int .i64 lo, .int .i64 hi] 27)
      have HBx := Lib.hid (bC HB.out hBx)
      have y0 := cellB x0 hBx
      clear hpf hB hlo hhi hxv
      go_wp2_with fail
      clear c0 c1 x0 hBx
      generalize wr.alloc (.cells #[.int .i64 lo, .int .i64 hi] 27) = w3 at *
      have z0 := bX.cell 0
      have z1 := bX.cell 1
      simp at z0 z1
      refine wp_region_T 9 (fun W' => W'.cell? ⟨wr.heap.size, 0, none⟩ = some (.int .i64 lo) ∧ W'.cell? ⟨wr.heap.size, 1, none⟩ = some (.int .i64 hi) ∧ W'.cell? ⟨xb, xoff + k, none⟩ = some (.int .i64 xv)) (by kernel_rfl) (by kernel_rfl) ⟨z0, z1, y0⟩ ?_
      intro inv hS
      have HBd := Lib.hid (show Below w1.heap.size w1 w3.drew from HBx.out.drew)
      clear z0 z1 y0 bX HBx
      generalize w3.drew = V0 at *
      refine wpAnyT_take inv (by kernel_rfl) (by omega) (i := 0) (v := .pointer (some ⟨wr.heap.size, 0, none⟩)) rfl (by kernel_rfl) (by kernel_rfl) (fun _ _ _ h => h) (Or.inl ⟨by kernel_rfl, ?_⟩) (by assumption) ?_
      · rintro W' ⟨q0, q1, q2⟩
        go_simp
      intro inv2
      clear inv
      have inv := inv2
      clear inv2
      simp only [Act.put, List.setIfInBounds_toArray]
      refine wpAnyT_take inv (by kernel_rfl) (by omega) (i := 1) (v := .int .i64 lo) rfl (by kernel_rfl) (by kernel_rfl) (fun _ _ _ h => h) (Or.inl ⟨by kernel_rfl, ?_⟩) (by assumption) ?_
      · rintro W' ⟨q0, q1, q2⟩
        go_simp
      intro inv2
      clear inv
      have inv := inv2
      clear inv2
      simp only [Act.put]
      refine wpAnyT_take inv (by kernel_rfl) (by omega) (i := 2) (v := .pointer (some ⟨wr.heap.size, 1, none⟩)) rfl (by kernel_rfl) (by kernel_rfl) (fun _ _ _ h => h) (Or.inl ⟨by kernel_rfl, ?_⟩) (by assumption) ?_
      · rintro W' ⟨q0, q1, q2⟩
        go_simp
      intro inv2
      clear inv
      have inv := inv2
      clear inv2
      simp only [Act.put]
      refine wpAnyT_take inv (by kernel_rfl) (by omega) (i := 3) (v := .int .i64 hi) rfl (by kernel_rfl) (by kernel_rfl) (fun _ _ _ h => h) (Or.inl ⟨by kernel_rfl, ?_⟩) (by assumption) ?_
      · rintro W' ⟨q0, q1, q2⟩
        go_simp
      intro inv2
      clear inv
      have inv := inv2
      clear inv2
      simp only [Act.put]
      refine wpAnyT_take inv (by kernel_rfl) (by omega) (i := 4) (v := .slice (some ⟨xb, xoff, none⟩) xs.length xc) rfl (by kernel_rfl) (by kernel_rfl) (fun _ _ _ h => h) (Or.inl ⟨by kernel_rfl, ?_⟩) (by assumption) ?_
      · rintro W' ⟨q0, q1, q2⟩
        go_simp
      intro inv2
      clear inv
      have inv := inv2
      clear inv2
      simp only [Act.put]
      refine wpAnyT_take inv (by kernel_rfl) (by omega) (i := 5) (v := .int .i64 (k : Int)) rfl (by kernel_rfl) (by kernel_rfl) (fun _ _ _ h => h) (Or.inl ⟨by kernel_rfl, ?_⟩) (by assumption) ?_
      · rintro W' ⟨q0, q1, q2⟩
        go_simp
      intro inv2
      clear inv
      have inv := inv2
      clear inv2
      simp only [Act.put]
      refine wpAnyT_take inv (by kernel_rfl) (by omega) (i := 6) (v := .pointer (some ⟨xb, xoff + k, none⟩)) rfl (by kernel_rfl) (by kernel_rfl) (fun _ _ _ h => h) (Or.inl ⟨by kernel_rfl, ?_⟩) (by assumption) ?_
      · rintro W' ⟨q0, q1, q2⟩
        go_simp
      intro inv2
      clear inv
      have inv := inv2
      clear inv2
      simp only [Act.put]
      refine wpAnyT_take inv (by kernel_rfl) (by omega) (i := 7) (v := .int .i64 xv) rfl (by kernel_rfl) (by kernel_rfl) (fun _ _ _ h => h) (Or.inl ⟨by kernel_rfl, ?_⟩) (by assumption) ?_
      · rintro W' ⟨q0, q1, q2⟩
        go_simp
      intro inv2
      clear inv
      have inv := inv2
      clear inv2
      simp only [Act.put]
      refine wpAnyT_ready [8] (by kernel_rfl) (by simp) ?_
      refine AllReadyT.cons rfl (fun K hK => ?_) AllReadyT.nil
      go_simp
      have hA := below1 V0 (.cells #[.int .i64 xv] 2)
      refine hK.out _ _ (fun _ => ⟨cellB hS.1 hA, cellB hS.2.1 hA, cellB hS.2.2 hA⟩) (fun _ => ?_)
      clear hK K hS inv
      try simp only [Act.put]
      refine wpAnyT_chain (fuel := 2) rfl (by kernel_rfl) ?_
      simp only [List.drop_succ_cons, List.drop_zero]
      have n0 := (Blk.new V0 (.cells #[.int .i64 xv] 2)).cell 0
      have HB4 := Lib.hid (bC HBd.out hA)
      clear hA HBd
      generalize hvs : V0.heap.size = vs at *
      generalize V0.alloc (.cells #[.int .i64 xv] 2) = V4 at *
      simp at n0
      go_wp2_with fail
      refine (within_any lo hi _ [xv] _ (IntsAt.mk1 n0) (by simp)).mono ?_
      rintro e w5 ⟨rfl, rfl⟩
      have HO := Lib.hid (show okInts lo hi [xv] = (decide (lo ≤ xv) && decide (xv ≤ hi)) by simp [okInts])
      cases hq : okInts lo hi [xv] with
      | false =>
        have HF := Lib.hid (HNO.out (by rw [HPF.out, HD.out, HN.out.1, HN.out.2.1, HN.out.2.2, ← HO.out, hq]; rfl))
        obtain ⟨rfl, rfl⟩ := HF.out
        clear hq HF n0
        go_wp2
        go_ret2
        exact ⟨rfl, bC HB1.out HB4.out⟩
      | true =>
        have HG := Lib.hid (show fitB (xs.drop k) (y.logs.drop k) = fitB (xs.drop (k + 1)) (y.logs.drop (k + 1)) by
          rw [HD.out, HN.out.1, HN.out.2.1, HN.out.2.2, ← HO.out, hq]; rfl)
        clear hq n0
        go_wp2
        go_roundw
        case rel => exact ⟨k + 1, by omega, by go_num, by rw [HPF.out, HG.out], HB4.out⟩
        case measure => simp [intOf] <;> omega
    · obtain rfl : k = y.logs.length := by omega
      have hft : fitB xs y.logs = true := by rw [HPF.out, List.drop_length, List.drop_of_length_le (by have := HLE.out; omega)]; rfl
      obtain ⟨h1, rfl⟩ := HOK.out hft
      have HV1 := Lib.hid h1
      have hf := (fitB_fit HLE.out).1 hft
      have HBD := Lib.hid (show ∀ x ∈ xs, 0 ≤ x ∧ x ≤ 100 from fun x hx => by
        obtain ⟨i, hi, rfl⟩ := List.mem_iff_getElem.1 hx
        have hil : i < y.logs.length := by have := HLE.out; omega
        have h2 := fit_get hf i hi hil
        have h3 := HYD.out.log _ (List.getElem_mem hil)
        omega)
      have HNE := Lib.hid (show ∀ b off n c, Value.slice xa xs.length xc = .slice (some ⟨b, off, none⟩) n c → xs ≠ [] → b ≠ T ∧ b ≠ M from by
        intro b off n c e hne
        cases e
        obtain ⟨b', off', e', hc⟩ := HX0.out.at.2 0 (by cases xs with | nil => exact absurd rfl hne | cons _ _ => simp)
        cases e'
        have := lt_of_cell hc
        have := HF0.out
        omega)
      have HX2 := Lib.hid (HX1.out.below hB)
      clear hft h1 hf hpf hB
      go_wp2_with fail
      refine (loads_any n₀ T M y _ (U y) H _ xs _ HLw.out.vat HYD.out HLw.out.size HX2.out hxl HBD.out HNE.out).mono ?_
      rintro e w6 ⟨rfl, hF⟩
      rw [← HV1.out]
      have HBF := Lib.hid ((HB1.out.trans (HB.out.mono HB1.out.size)).trans (hF.belowN (n₀ := w.heap.size) (by omega) (by omega) (by have := HB1.out.size; have := HB.out.size; omega)))
      clear hF
      go_wp2
      go_ret2
      exact ⟨rfl, HBF.out⟩
/-- What CheckHours answers for a valid yard. -/
theorem CheckHours_ok (v xv0 : Value) (y : YardD) (xs : List Int) (w : World) (hv : YardAt w v y) (hy : y.Ok) (hx : IntsAt w xv0 xs) :
    Calls Try.prog 19 #[v, xv0] w fun e w' => e = .returned (.tuple #[.int .i64 (hoursV y xs), .int .i64 (hoursErr y xs)]) ∧ Below w.heap.size w w' := by
  have he := hoursErr_ok hy xs
  by_cases h1 : xs.length = y.logs.length
  · have h2 : hoursErr y xs = if fitB xs y.logs = true then 0 else 19 := by rw [he]; unfold hoursErr0; rw [if_neg (by simpa using h1)]
    refine CheckHours_0 v xv0 y w hv hy xs hx h1 _ _ (fun h => ?_) (fun h => ?_)
    · rw [h, if_pos rfl] at h2
      exact ⟨by unfold hoursV; rw [if_pos h2], h2⟩
    · rw [h, if_neg (by simp)] at h2
      exact ⟨hoursV_no (by rw [h2]; decide), h2⟩
  · have h2 : hoursErr y xs = 15 := by rw [he]; unfold hoursErr0; rw [if_pos h1]
    rw [hoursV_no (by rw [h2]; decide), h2]
    exact CheckHours_15 v xv0 y w hv hy xs hx h1
end Go.Proofs.Ytjbeoakikdkdaaa
