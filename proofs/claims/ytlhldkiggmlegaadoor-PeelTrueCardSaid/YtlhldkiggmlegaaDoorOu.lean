import Derived.Test.YtlhldkiggmlegaaDoorOr
import Derived.Test.YtlhldkiggmlegaaDoorOf
namespace Go.Proofs.YtlhldkiggmlegaaDoor
open Go.Geo Go.RowKit Go.Shelf Go.Sort

/-! ## Truths of a rough log, and narrower bounds of a place -/
/-- A list of numbers of 16 bits. -/
def U16At (w : World) (v : Value) (ns : List Int) : Prop :=
  ∃ a cap, v = .slice a ns.length cap ∧ (ns ≠ [] → ∃ b off, a = some ⟨b, off, none⟩ ∧ ∀ i (h : i < ns.length), w.cell? ⟨b, off + i, none⟩ = some (.int .u16 ns[i]))
theorem U16At.below {w w' : World} {v : Value} {l : List Int} (h : U16At w v l) (hb : Below w.heap.size w w') : U16At w' v l := by
  obtain ⟨a, cap, rfl, h1⟩ := h
  refine ⟨a, cap, rfl, fun hn => ?_⟩
  obtain ⟨b, off, e, h2⟩ := h1 hn
  exact ⟨b, off, e, fun i hi => cellB (h2 i hi) hb⟩
/-- The number that is used for a place. -/
def nD (ns : List Int) (k : Nat) : Int := if ns.length = 0 then 0 else ns.getD (k % ns.length) 0
def lowD (r : RoughD) (k : Nat) : Int × Int := r.low.getD k (0, 0)
def highD (r : RoughD) (k : Nat) : Int × Int := r.high.getD k (0, 0)
def trueF (r : RoughD) (ns : List Int) (k : Nat) : Int × Int :=
  ((lowD r k).1 + (nD ns k).tmod ((lowD r k).2 - (lowD r k).1 + 1), (highD r k).1 + ((nD ns k).tdiv 3).tmod ((highD r k).2 - (highD r k).1 + 1))
def trueD (r : RoughD) (ns : List Int) : LogD := ⟨r.at_, upto (trueF r ns) r.at_.length⟩
theorem nD_bd {ns : List Int} (h : ∀ x ∈ ns, 0 ≤ x ∧ x ≤ 65535) (k : Nat) : 0 ≤ nD ns k ∧ nD ns k ≤ 65535 := by
  unfold nD
  by_cases h0 : ns.length = 0
  · rw [if_pos h0]; omega
  · rw [if_neg h0]
    have hk : k % ns.length < ns.length := Nat.mod_lt _ (by omega)
    rw [List.getD_eq_getElem?_getD, List.getElem?_eq_getElem hk]
    exact h _ (List.getElem_mem hk)
theorem rough_pt {r : RoughD} (h0 : roughErr r = 0) {k : Nat} (hk : k < r.at_.length) : -1000 ≤ (lowD r k).1 ∧ (lowD r k).1 ≤ (lowD r k).2 ∧ (lowD r k).2 ≤ (highD r k).1 ∧ (highD r k).1 ≤ (highD r k).2 ∧ (highD r k).2 ≤ 1000 := by
  obtain ⟨hf, hg⟩ := rough_fit h0
  have l1 := hf.lens r.low (by simp)
  have l2 := hf.lens r.high (by simp)
  have k1 : k < r.low.length := by omega
  have k2 : k < r.high.length := by omega
  obtain ⟨y1, y2, y3⟩ := okEdges_get (hf.edges r.low (by simp)) k k1
  obtain ⟨z1, z2, z3⟩ := okEdges_get (hf.edges r.high (by simp)) k k2
  have y4 := hg k k1 k2
  have e1 : lowD r k = r.low[k] := by simp [lowD, k1]
  have e2 : highD r k = r.high[k] := by simp [highD, k2]
  rw [e1, e2]
  exact ⟨y1, y2, y4, z2, z3⟩
theorem true_pt {r : RoughD} {ns : List Int} (h0 : roughErr r = 0) (hn : ∀ x ∈ ns, 0 ≤ x ∧ x ≤ 65535) {k : Nat} (hk : k < r.at_.length) :
    (lowD r k).1 ≤ (trueF r ns k).1 ∧ (trueF r ns k).1 ≤ (lowD r k).2 ∧ (highD r k).1 ≤ (trueF r ns k).2 ∧ (trueF r ns k).2 ≤ (highD r k).2 := by
  obtain ⟨y1, y2, y3, y4, y5⟩ := rough_pt h0 hk
  obtain ⟨n1, n2⟩ := nD_bd hn k
  have n3 : 0 ≤ (nD ns k).tdiv 3 := by rw [Int.tdiv_eq_ediv_of_nonneg n1]; omega
  obtain ⟨a1, a2⟩ := tmodN (nD ns k) ((lowD r k).2 - (lowD r k).1 + 1) n1 (by omega)
  obtain ⟨b1, b2⟩ := tmodN ((nD ns k).tdiv 3) ((highD r k).2 - (highD r k).1 + 1) n3 (by omega)
  unfold trueF
  refine ⟨?_, ?_, ?_, ?_⟩ <;> simp only <;> omega
theorem fit_err {l : LogD} (hf : Fit l.at_ [l.edges]) : logErr l = 0 := by
  have a1 := hf.two
  have a2 := hf.eight
  have a3 := hf.lens _ (List.mem_singleton.2 rfl)
  have a4 := hf.ats
  have a5 := hf.edges _ (List.mem_singleton.2 rfl)
  have a6 := hf.strict
  unfold logErr placesErr
  rw [if_neg (by omega), if_neg (by simp [a3]), if_neg (by rw [a4]; simp), if_neg (by simp [a5]), if_neg (by rw [a6]; simp)]
theorem true_fit {r : RoughD} {ns : List Int} (h0 : roughErr r = 0) (hn : ∀ x ∈ ns, 0 ≤ x ∧ x ≤ 65535) : Fit (trueD r ns).at_ [(trueD r ns).edges] :=
  fit_edges (rough_fit h0).1 fun k hk => by
    have h1 := rough_pt h0 hk
    have h2 := true_pt h0 hn hk
    omega
/-- Wider edges have no lesser best core. -/
theorem in_best {at_ : List Int} {f g : Nat → Int × Int} (hf : Fit at_ [upto f at_.length]) (hg : Fit at_ [upto g at_.length]) (h : ∀ k, k < at_.length → (g k).1 ≤ (f k).1 ∧ (f k).2 ≤ (g k).2) :
    bestV ⟨at_, upto f at_.length⟩ ≤ bestV ⟨at_, upto g at_.length⟩ := by
  refine best_mono (l := ⟨at_, upto f at_.length⟩) (l' := ⟨at_, upto g at_.length⟩) hf hg fun c a s hk => ⟨a, s, fun k hk' => ?_⟩
  have h1 := hk k hk'
  have h2 := h k hk'
  have e1 : loD ⟨at_, upto f at_.length⟩ k = (f k).1 := by unfold loD; rw [upto_get f _ hk']
  have e2 : hiD ⟨at_, upto f at_.length⟩ k = (f k).2 := by unfold hiD; rw [upto_get f _ hk']
  have e3 : loD ⟨at_, upto g at_.length⟩ k = (g k).1 := by unfold loD; rw [upto_get g _ hk']
  have e4 : hiD ⟨at_, upto g at_.length⟩ k = (g k).2 := by unfold hiD; rw [upto_get g _ hk']
  rw [e1, e2] at h1
  rw [e3, e4]
  have q1 : ((g k).1 : Rat) ≤ ((f k).1 : Rat) := Rat.intCast_le_intCast.2 h2.1
  have q2 : ((f k).2 : Rat) ≤ ((g k).2 : Rat) := Rat.intCast_le_intCast.2 h2.2
  refine ⟨?_, ?_⟩
  · have := h1.1; exact Rat.le_trans (by grind) this
  · have := h1.2; exact Rat.le_trans this (by grind)
theorem true_best {r : RoughD} {ns : List Int} (h0 : roughErr r = 0) (hn : ∀ x ∈ ns, 0 ≤ x ∧ x ≤ 65535) : bestV (narrow r) ≤ bestV (trueD r ns) ∧ bestV (trueD r ns) ≤ bestV (widest r) :=
  ⟨in_best (f := narE r) (g := trueF r ns) (narrow_fit h0) (true_fit h0 hn) fun _ hk => ⟨(true_pt h0 hn hk).2.1, (true_pt h0 hn hk).2.2.1⟩,
   in_best (f := trueF r ns) (g := widE r) (true_fit h0 hn) (widest_fit h0) fun _ hk => ⟨(true_pt h0 hn hk).1, (true_pt h0 hn hk).2.2.2⟩⟩
/-- The rough log whose bounds of place i are narrower. -/
def sharpR (r : RoughD) (ns : List Int) (i : Nat) : RoughD := ⟨r.at_, r.low.set i ((trueF r ns i).1, (lowD r i).2), r.high.set i ((highD r i).1, (trueF r ns i).2)⟩
theorem sharp_low {r : RoughD} {ns : List Int} {i : Nat} (hi : i < r.low.length) (k : Nat) : lowD (sharpR r ns i) k = if k = i then ((trueF r ns i).1, (lowD r i).2) else lowD r k := by
  unfold lowD sharpR
  simp only [List.getD_eq_getElem?_getD, List.getElem?_set]
  by_cases h : i = k
  · subst h; simp [hi, lowD]
  · rw [if_neg h, if_neg (fun e => h e.symm)]
theorem sharp_high {r : RoughD} {ns : List Int} {i : Nat} (hi : i < r.high.length) (k : Nat) : highD (sharpR r ns i) k = if k = i then ((highD r i).1, (trueF r ns i).2) else highD r k := by
  unfold highD sharpR
  simp only [List.getD_eq_getElem?_getD, List.getElem?_set]
  by_cases h : i = k
  · subst h; simp [hi, highD]
  · rw [if_neg h, if_neg (fun e => h e.symm)]
theorem okEdges_set {l : List (Int × Int)} (h : okEdges l = true) (i : Nat) {x : Int × Int} (hx : okEdge x = true) : okEdges (l.set i x) = true := by
  unfold okEdges at h ⊢
  rw [List.all_eq_true] at h ⊢
  intro p hp
  rcases List.mem_or_eq_of_mem_set hp with hp | rfl
  · exact h p hp
  · exact hx
theorem sharp_err {r : RoughD} {ns : List Int} {i : Nat} (h0 : roughErr r = 0) (hn : ∀ x ∈ ns, 0 ≤ x ∧ x ≤ 65535) (hi : i < r.at_.length) : roughErr (sharpR r ns i) = 0 := by
  obtain ⟨hf, hg⟩ := rough_fit h0
  have l1 := hf.lens r.low (by simp)
  have l2 := hf.lens r.high (by simp)
  have a1 := hf.two
  have a2 := hf.eight
  have a4 := hf.ats
  have a6 := hf.strict
  have p1 := rough_pt h0 hi
  have p2 := true_pt h0 hn hi
  have b1 : okEdges (sharpR r ns i).low = true := okEdges_set (hf.edges r.low (by simp)) i ((okEdge_iff _ _).2 (by omega))
  have b2 : okEdges (sharpR r ns i).high = true := okEdges_set (hf.edges r.high (by simp)) i ((okEdge_iff _ _).2 (by omega))
  have c1 : (sharpR r ns i).low.length = r.at_.length := by simp [sharpR, l1]
  have c2 : (sharpR r ns i).high.length = r.at_.length := by simp [sharpR, l2]
  have c0 : (sharpR r ns i).at_ = r.at_ := rfl
  have hp : placesErr (sharpR r ns i).at_ [(sharpR r ns i).low, (sharpR r ns i).high] = 0 := by
    rw [c0]
    unfold placesErr
    rw [if_neg (by omega), if_neg (by simp [c1, c2]), if_neg (by rw [a4]; simp), if_neg (by simp [b1, b2]), if_neg (by rw [a6]; simp)]
  unfold roughErr
  rw [if_neg (by simp [hp]), if_neg]
  rw [Bool.not_eq_false]
  refine gaps_true fun k h h' => ?_
  have hk : k < r.at_.length := by omega
  have e1 : (sharpR r ns i).low[k] = lowD (sharpR r ns i) k := by simp [lowD, h]
  have e2 : (sharpR r ns i).high[k] = highD (sharpR r ns i) k := by simp [highD, h']
  rw [e1, e2, sharp_low (by omega), sharp_high (by omega)]
  have p3 := rough_pt h0 hk
  by_cases e : k = i
  · rw [if_pos e, if_pos e]; subst e; simp only; omega
  · rw [if_neg e, if_neg e]; omega
theorem sharp_nar {r : RoughD} {ns : List Int} {i : Nat} (h1 : i < r.low.length) (h2 : i < r.high.length) (k : Nat) : narE (sharpR r ns i) k = narE r k := by
  show ((lowD (sharpR r ns i) k).2, (highD (sharpR r ns i) k).1) = ((lowD r k).2, (highD r k).1)
  rw [sharp_low h1, sharp_high h2]
  by_cases e : k = i
  · rw [if_pos e, if_pos e, e]
  · rw [if_neg e, if_neg e]
theorem sharp_wid {r : RoughD} {ns : List Int} {i : Nat} (h1 : i < r.low.length) (h2 : i < r.high.length) (k : Nat) : widE (sharpR r ns i) k = if k = i then trueF r ns i else widE r k := by
  show ((lowD (sharpR r ns i) k).1, (highD (sharpR r ns i) k).2) = if k = i then trueF r ns i else ((lowD r k).1, (highD r k).2)
  rw [sharp_low h1, sharp_high h2]
  by_cases e : k = i
  · rw [if_pos e, if_pos e, if_pos e]
  · rw [if_neg e, if_neg e, if_neg e]
theorem sharp_best {r : RoughD} {ns : List Int} {i : Nat} (h0 : roughErr r = 0) (hn : ∀ x ∈ ns, 0 ≤ x ∧ x ≤ 65535) (hi : i < r.at_.length) :
    bestV (narrow r) ≤ bestV (narrow (sharpR r ns i)) ∧ bestV (widest (sharpR r ns i)) ≤ bestV (widest r) := by
  obtain ⟨hf, _⟩ := rough_fit h0
  have l1 := hf.lens r.low (by simp)
  have l2 := hf.lens r.high (by simp)
  have he := sharp_err h0 hn hi
  refine ⟨in_best (f := narE r) (g := narE (sharpR r ns i)) (narrow_fit h0) (narrow_fit he) fun k hk => ?_, in_best (f := widE (sharpR r ns i)) (g := widE r) (widest_fit he) (widest_fit h0) fun k hk => ?_⟩
  · rw [sharp_nar (by omega) (by omega)]; omega
  · rw [sharp_wid (by omega) (by omega)]
    have p := true_pt h0 hn hk
    by_cases e : k = i
    · rw [if_pos e]; subst e; exact ⟨p.1, p.2.2.2⟩
    · rw [if_neg e]; omega
end Go.Proofs.YtlhldkiggmlegaaDoor
