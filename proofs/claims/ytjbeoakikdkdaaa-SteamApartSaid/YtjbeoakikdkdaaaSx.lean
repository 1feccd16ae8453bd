import Derived.Test.YtjbeoakikdkdaaaSd
import Derived.Test.YtjbeoakikdkdaaaRows
import Derived.ProofKit
import Derived.LaidMore
import Derived.OpenShut
import Derived.Stop.Joined
import Derived.Carry
import Derived.Lib.SmallJoins
import Derived.Deep.Slices
import Derived.Deep.Fields
import Derived.ChangeSame
namespace Go.Proofs.Ytjbeoakikdkdaaa
open Go.ChangeShapes Go.WideShapes Go.ChangeAt Go.WideMaps Go.WideElems Go.RowKit Go.Deep Go.Joins Go.Vat

/-! ## What the rows share -/
theorem own : ownKnob Try.prog.godebug = none := by kernel_rfl
theorem uU16 : Try.prog.underlying 62 = some (.int .u16) := by kernel_rfl
theorem uInt : Try.prog.underlying 3 = some (.int .i64) := by kernel_rfl
theorem uI64 : Try.prog.underlying 2 = some (.int .i64) := by kernel_rfl
theorem uU8 : Try.prog.underlying 5 = some (.int .u8) := by kernel_rfl
theorem u8min : IntKind.u8.min = 0 := by kernel_rfl
theorem u8max : IntKind.u8.max = 255 := by kernel_rfl
theorem u8_wf {n : Int} (h : (Lit.int .u8 n).wf = true) : 0 ≤ n ∧ n ≤ 255 := by
  simp [Lit.wf] at h
  have e1 := u8min
  have e2 := u8max
  omega

/-! ## Arguments that are opened -/
section
variable {H : Type} {enc : TypeId × Value → H}
theorem list_of {α : Type} {P : Nat → α → Prop} : ∀ (n : Nat), (∀ i, i < n → ∃ x, P i x) → ∃ l : List α, l.length = n ∧ ∀ i (h : i < l.length), P i l[i]
  | 0, _ => ⟨[], rfl, fun i h => absurd h (Nat.not_lt_zero _)⟩
  | n + 1, h => by
    obtain ⟨l, hl, hp⟩ := list_of n (fun i hi => h i (by omega))
    obtain ⟨x, hx⟩ := h n (by omega)
    refine ⟨l ++ [x], by simp [hl], fun i hi => ?_⟩
    by_cases e : i < l.length
    · rw [List.getElem_append_left e]; exact hp i e
    · have : i = n := by simp at hi; omega
      subst this
      rw [List.getElem_append_right (by omega)]
      simp only [hl, Nat.sub_self, List.getElem_cons_zero]
      exact hx
theorem add_cell {W : World} {a : Addr} {v : Value} {i : Nat} (hs : a.spot = none) (h : W.cell? (a.add i) = some v) : W.cell? ⟨a.block, a.off + i, none⟩ = some v := by
  obtain ⟨b, o, s⟩ := a
  simp only at hs
  subst hs
  by_cases h0 : i = 0
  · subst h0; simpa [Addr.add] using h
  · simpa [Addr.add, h0] using h
theorem kints_of_trod {k : IntKind} {t e : TypeId} (ut : Try.prog.underlying t = some (.slice e)) (ue : Try.prog.underlying e = some (.int k)) (uc : Try.prog.cellsOf e = 1)
    {W : World} {held : Bool} {n : Nat} {v : Value} {y : DataW H × List MemPlace} (h : DataW.trod enc Try.prog W 0 (fun _ => true) held n t [v] = some y) :
    ∃ l : List Int, (∃ a cap, v = .slice a l.length cap ∧ l.length ≤ cap ∧ (l ≠ [] → ∃ b off, a = some ⟨b, off, none⟩ ∧ ∀ i (h : i < l.length), W.cell? ⟨b, off + i, none⟩ = some (.int k l[i]))) ∧ ∀ x ∈ l, (Lit.int k x).wf = true := by
  rcases open_ints ut ue uc h with ⟨h1, _⟩ | ⟨a, len, cap, zs, h1, _, h3, _, h5, _, h7, h8⟩
  · obtain rfl : v = .slice none 0 0 := by simpa using h1
    exact ⟨[], ⟨none, 0, rfl, Nat.le_refl _, fun h => absurd rfl h⟩, fun x hx => absurd hx List.not_mem_nil⟩
  · obtain rfl : v = .slice (some a) len cap := by simpa using h1
    simp only [if_true] at h5
    have hlen : (zs.take len).length = len := by simp; omega
    refine ⟨zs.take len, ⟨some a, cap, by rw [hlen], by omega, fun hne => ?_⟩, fun x hx => h8 x (List.mem_of_mem_take hx)⟩
    have hl : 0 < len := by
      rcases Nat.eq_zero_or_pos len with h | h
      · subst h; exact absurd (List.take_zero) hne
      · exact h
    have hsp : a.spot = none := by
      have := h7 0 (by omega)
      simpa [Addr.add] using World.cell?_spot this
    refine ⟨a.block, a.off, by cases a; simp_all, fun i hi => ?_⟩
    rw [hlen] at hi
    have := add_cell hsp (h7 i (by omega))
    rw [this]
    simp [List.getD_eq_getElem?_getD, List.getElem?_eq_getElem (show i < zs.length by omega)]
theorem ints_of_trod {t e : TypeId} (ut : Try.prog.underlying t = some (.slice e)) (ue : Try.prog.underlying e = some (.int .i64)) (uc : Try.prog.cellsOf e = 1)
    {W : World} {held : Bool} {n : Nat} {v : Value} {y : DataW H × List MemPlace} (h : DataW.trod enc Try.prog W 0 (fun _ => true) held n t [v] = some y) : ∃ l : List Int, IntsAt W v l ∧ ∀ a n c, v = .slice a n c → n ≤ c := by
  obtain ⟨l, ⟨a, cap, rfl, hc, hx⟩, _⟩ := kints_of_trod ut ue uc h
  refine ⟨l, ⟨a, cap, rfl, hx⟩, fun a' n' c' e' => ?_⟩
  cases e'
  exact hc
theorem spot_of {a : Addr} {i : Nat} (hsp : a.spot = none) : (a.add i).spot = none ∧ (a.add i).block = a.block ∧ (a.add i).off = a.off + i := by
  unfold Addr.add
  split
  · rename_i h; exact ⟨hsp, rfl, by rw [h]; rfl⟩
  · exact ⟨by simp, rfl, rfl⟩
theorem uRange : ∃ f0 f1 : Field, Try.prog.underlying 27 = some (.struct #[f0, f1]) ∧ f0.type = 2 ∧ f1.type = 2 ∧ oneCellFields Try.prog #[f0, f1] = true := ⟨_, _, Try.underlying27, rfl, rfl, by kernel_rfl⟩
theorem uYard : ∃ f0 f1 : Field, Try.prog.underlying 24 = some (.struct #[f0, f1]) ∧ f0.type = 2 ∧ f1.type = 22 ∧ oneCellFields Try.prog #[f0, f1] = true := ⟨_, _, Try.underlying24, rfl, rfl, by kernel_rfl⟩
set_option maxRecDepth 100000 in
theorem pairs_of_trod {W : World} {held : Bool} {n : Nat} {v : Value} {y : DataW H × List MemPlace} (h : DataW.trod enc Try.prog W 0 (fun _ => true) held n 22 [v] = some y) : ∃ l : List (Int × Int), PairsAt W v l := by
  obtain ⟨f0, f1, hu, t0, t1, hone⟩ := uRange
  have hC : Try.prog.cellsOf 27 = 2 := by kernel_rfl
  rcases open_slice (show Try.prog.underlying 22 = some (.slice 27) by kernel_rfl) h with ⟨h1, _⟩ | ⟨a, len, cap, m, n', D, Pl, h1, _, h3, _, h5, _, h7⟩
  · obtain rfl : v = .slice none 0 0 := by simpa using h1
    exact ⟨[], none, 0, rfl, fun h => absurd rfl h⟩
  · obtain rfl : v = .slice (some a) len cap := by simpa using h1
    simp only [if_true] at h5
    rw [hC] at h7
    have hel : ∀ i, i < len → ∃ p : Int × Int, W.cell? (a.add (i * 2)) = some (.int .i64 p.1) ∧ W.cell? ((a.add (i * 2)).add 1) = some (.int .i64 p.2) := by
      intro i hi
      obtain ⟨cs', hc, ht⟩ := h7 i (by omega)
      obtain ⟨ys, n'', _, _, hlen, hyl, hf⟩ := DataW.trod_struct hu ht
      obtain ⟨_, hcl, hat⟩ := World.cells?_some hc
      obtain ⟨k0, k1, rfl⟩ : ∃ k0 k1, cs' = [k0, k1] := by
        match cs', hcl with
        | [x, y], _ => exact ⟨x, y, rfl⟩
      obtain ⟨o0, q0⟩ := hone_of hone 0 f0 rfl
      obtain ⟨o1, q1⟩ := hone_of hone 1 f1 rfl
      have g0 := hf 0 f0 rfl
      have g1 := hf 1 f1 rfl
      rw [o0, q0, t0] at g0
      rw [o1, q1, t1] at g1
      have hy0 : ys[0]? = some (ys[0]'(by simp at hyl; omega)) := List.getElem?_eq_getElem _
      have hy1 : ys[1]? = some (ys[1]'(by simp at hyl; omega)) := List.getElem?_eq_getElem _
      obtain ⟨z0, e0, _, _⟩ := DataW.trod_int uI64 (show DataW.trod _ Try.prog W 0 _ held n'' 2 _ = some _ from g0.trans hy0)
      obtain ⟨z1, e1, _, _⟩ := DataW.trod_int uI64 (show DataW.trod _ Try.prog W 0 _ held n'' 2 _ = some _ from g1.trans hy1)
      have c0 := hat 0 (by omega)
      have c1 := hat 1 (by omega)
      simp at e0 e1
      subst e0 e1
      exact ⟨(z0, z1), by simpa [Addr.add] using c0, by simpa using c1⟩
    obtain ⟨l, hl, hp⟩ := list_of len hel
    refine ⟨l, some a, cap, by rw [hl], fun hne => ?_⟩
    have h0 : 0 < len := by
      rcases Nat.eq_zero_or_pos len with h | h
      · exact absurd (List.length_eq_zero_iff.1 (hl.trans h)) hne
      · exact h
    have hsp : a.spot = none := by
      have := (hp 0 (by omega)).1
      simpa [Addr.add] using World.cell?_spot this
    refine ⟨a.block, a.off, by cases a; simp_all, fun i hi => ?_⟩
    obtain ⟨c0, c1⟩ := hp i hi
    obtain ⟨s2, hb, ho⟩ := spot_of (i := i * 2) hsp
    have d1 := add_cell s2 c1
    rw [hb, ho] at d1
    exact ⟨add_cell hsp c0, d1⟩
set_option maxRecDepth 100000 in
theorem yard_of_trod {W : World} {base : Nat} {held : Bool} {v : Value} {d : DataW H} {p : List MemPlace} (hv : Value.okWide Try.prog W .any base 24 v) (h : DataW.Trod enc Try.prog W 0 (fun _ => true) held 24 v d p) : ∃ y : YardD, YardAt W v y := by
  obtain ⟨f0, f1, hu, t0, t1, hone⟩ := uYard
  obtain ⟨v0, v1, y0, y1, n, rfl, _, _, g0, g1⟩ := open_agg2 hu hone (by kernel_rfl) hv h
  rw [t0] at g0
  rw [t1] at g1
  obtain ⟨z0, e0, _, _⟩ := DataW.trod_int uI64 g0
  simp at e0
  subst e0
  obtain ⟨l1, hl1⟩ := pairs_of_trod g1
  exact ⟨⟨z0, l1⟩, _, rfl, hl1⟩
set_option maxRecDepth 100000 in
theorem range_of_trod {W : World} {base : Nat} {held : Bool} {v : Value} {d : DataW H} {p : List MemPlace} (hv : Value.okWide Try.prog W .any base 27 v) (h : DataW.Trod enc Try.prog W 0 (fun _ => true) held 27 v d p) : ∃ r : Int × Int, v = .agg #[.int .i64 r.1, .int .i64 r.2] := by
  obtain ⟨f0, f1, hu, t0, t1, hone⟩ := uRange
  obtain ⟨v0, v1, y0, y1, n, rfl, _, _, g0, g1⟩ := open_agg2 hu hone (by kernel_rfl) hv h
  rw [t0] at g0
  rw [t1] at g1
  obtain ⟨z0, e0, _, _⟩ := DataW.trod_int uI64 g0
  obtain ⟨z1, e1, _, _⟩ := DataW.trod_int uI64 g1
  simp at e0 e1
  subst e0 e1
  exact ⟨(z0, z1), rfl⟩
set_option maxRecDepth 100000 in
theorem ranges_of_trod {W : World} {base : Nat} {held : Bool} {v : Value} {d : DataW H} {p : List MemPlace} (hv : Value.okWide Try.prog W .any base 22 v) (h : DataW.Trod enc Try.prog W 0 (fun _ => true) held 22 v d p) : ∃ g : List (Int × Int), PairsAt W v g := by
  obtain ⟨a0, l0, c0, rfl⟩ := okWide_slice (show Try.prog.underlying 22 = some (.slice 27) by kernel_rfl) hv
  obtain ⟨fuel, hf⟩ := h
  exact pairs_of_trod hf
set_option maxRecDepth 100000 in
theorem longs_of_trod {W : World} {base : Nat} {held : Bool} {v : Value} {d : DataW H} {p : List MemPlace} (hv : Value.okWide Try.prog W .any base 25 v) (h : DataW.Trod enc Try.prog W 0 (fun _ => true) held 25 v d p) : ∃ l : List Int, IntsAt W v l ∧ ∀ a n c, v = .slice a n c → n ≤ c := by
  obtain ⟨a0, l0, c0, rfl⟩ := okWide_slice (show Try.prog.underlying 25 = some (.slice 2) by kernel_rfl) hv
  obtain ⟨fuel, hf⟩ := h
  exact ints_of_trod (show Try.prog.underlying 25 = some (.slice 2) by kernel_rfl) uI64 (by kernel_rfl) hf
set_option maxRecDepth 100000 in
theorem u8s_of_trod {W : World} {base : Nat} {held : Bool} {v : Value} {d : DataW H} {p : List MemPlace} (hv : Value.okWide Try.prog W .any base 49 v) (h : DataW.Trod enc Try.prog W 0 (fun _ => true) held 49 v d p) : ∃ l : List Int, U8At W v l ∧ ∀ x ∈ l, 0 ≤ x ∧ x ≤ 255 := by
  obtain ⟨a0, l0, c0, rfl⟩ := okWide_slice (show Try.prog.underlying 49 = some (.slice 5) by kernel_rfl) hv
  obtain ⟨fuel, hf⟩ := h
  obtain ⟨l, ⟨a, cap, e, _, hx⟩, hw⟩ := kints_of_trod (show Try.prog.underlying 49 = some (.slice 5) by kernel_rfl) uU8 (by kernel_rfl) (show DataW.trod enc Try.prog W 0 (fun _ => true) held fuel 49 [_] = some _ from hf)
  exact ⟨l, ⟨a, cap, e, hx⟩, fun x h => u8_wf (hw x h)⟩
set_option maxRecDepth 100000 in
theorem num_of_trod {W : World} {base : Nat} {held : Bool} {v : Value} {d : DataW H} {p : List MemPlace} (hv : Value.okWide Try.prog W .any base 2 v) (h : DataW.Trod enc Try.prog W 0 (fun _ => true) held 2 v d p) : ∃ n : Int, v = .int .i64 n ∧ (Lit.int .i64 n).wf = true := by
  obtain ⟨n, rfl, _, _, hw⟩ := open_int uI64 hv h
  exact ⟨n, rfl, hw⟩
set_option maxRecDepth 100000 in
theorem u8_of_trod {W : World} {base : Nat} {held : Bool} {v : Value} {d : DataW H} {p : List MemPlace} (hv : Value.okWide Try.prog W .any base 5 v) (h : DataW.Trod enc Try.prog W 0 (fun _ => true) held 5 v d p) : ∃ n : Int, v = .int .u8 n ∧ 0 ≤ n ∧ n ≤ 255 := by
  obtain ⟨n, rfl, _, _, hw⟩ := open_int uU8 hv h
  exact ⟨n, rfl, u8_wf hw⟩
set_option maxRecDepth 100000 in
theorem u16_of_trod {W : World} {base : Nat} {held : Bool} {v : Value} {d : DataW H} {p : List MemPlace} (hv : Value.okWide Try.prog W .any base 62 v) (h : DataW.Trod enc Try.prog W 0 (fun _ => true) held 62 v d p) : ∃ n : Int, v = .int .u16 n ∧ 0 ≤ n ∧ n ≤ 65535 := by
  obtain ⟨n, rfl, _, _, hw⟩ := open_int uU16 hv h
  refine ⟨n, rfl, ?_⟩
  simp [Lit.wf] at hw
  have e1 : IntKind.u16.min = 0 := by kernel_rfl
  have e2 : IntKind.u16.max = 65535 := by kernel_rfl
  omega
end

/-! ## The last step of each row -/
section
variable {H : Type} {enc : TypeId × Value → H} {P : Program}
theorem trodAll_stay (hl : laidOutB P = true) {W W' : World} {sp : Nat → Bool} (hb : Below W.heap.size W W') : ∀ {ts : List TypeId} {vs : List Value} {ds : List (DataW H)} {ps : List MemPlace}, (∀ t ∈ ts, P.readableRec t = true ∧ t < P.types.size) →
    DataW.TrodAll enc P W 0 (fun _ => true) true ts vs ds ps → (∀ x ∈ ps, x.block < W.heap.size) → (∀ x ∈ ps, sp x.block = true) → DataW.TrodAll enc P W' 0 sp true ts vs ds ps
  | [], vs, ds, ps, _, h, _, _ => by
    obtain ⟨rfl, rfl, rfl⟩ := trodAll_nil h
    exact trodAll_mk0
  | t :: ts, vs, ds, ps, ht, h, hlt, hsp => by
    obtain ⟨v, vs', d, ds', p, q, rfl, rfl, rfl, h1, h2⟩ := trodAll_cons h
    refine trodAll_cons_mk ?_ (trodAll_stay hl hb (fun t' h' => ht t' (List.mem_cons_of_mem _ h')) h2 (fun x hx => hlt x (List.mem_append_right _ hx)) (fun x hx => hsp x (List.mem_append_right _ hx)))
    exact Trod_stays hl (ht t List.mem_cons_self).1 (ht t List.mem_cons_self).2 h1 (fun x hx => hb.same (hlt x (List.mem_append_left _ hx))) (fun x hx => hsp x (List.mem_append_left _ hx))
theorem post_true {f : Func} {s : ChangeSpec} {W W' : World} {args : Array Value} {ds : List (DataW H)} {before : List MemPlace} (hl : laidOutB P = true) (hts : ∀ t ∈ f.params.toList, P.readableRec t = true ∧ t < P.types.size)
    {tb : TypeId} (hrt : f.resultTypes = #[tb]) (hub : P.underlying tb = some .bool) (hsv : s.vars = []) (hfn : s.fn H (ds ++ []) = { results := [.lit (.bool true)], args := ds })
    (hW : DataW.Whole enc P f.params.toList s.vars false W args.toList ds [] before) (hA : DataW.TrodAll enc P W 0 (fun _ => true) true f.params.toList args.toList ds before) (hb : Below W.heap.size W W') :
    s.post enc P f false true false false W args (.bool true) W' := by
  have hlt : ∀ p ∈ before, p.block < W.heap.size := fun p hp => hW.lt p hp
  refine ⟨ds, [], before, [], before, [], hW, ?_, ?_, ?_, World.keptBut_mono (fun p hp => ⟨hp, ?_⟩) (hb.frame (· ∈ before)), fun h => by cases h⟩
  · rw [hrt, hfn]
    exact trodAll_mk1 (shut_bool hub true)
  · rw [hfn]
    exact trodAll_stay hl hb hts hA hlt (fun x hx => by simpa using hlt x hx)
  · rw [hsv, hfn]
    exact rfl
  · simpa using hp
end
end Go.Proofs.Ytjbeoakikdkdaaa
