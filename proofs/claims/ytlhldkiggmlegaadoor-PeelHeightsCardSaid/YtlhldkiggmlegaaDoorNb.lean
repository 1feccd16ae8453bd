import Derived.Test.YtlhldkiggmlegaaDoorNa
namespace Go.Proofs.YtlhldkiggmlegaaDoor
open Go.RowKit

/-! ## Which logs are valid -/
/-- The slice value v reads as a list of slices of pairs. -/
def ListsAt (w : World) (v : Value) (ls : List (List (Int × Int))) : Prop :=
  ∃ b off cap, v = .slice (some ⟨b, off, none⟩) ls.length cap ∧ ∀ i (h : i < ls.length), ∃ sv, w.cell? ⟨b, off + i, none⟩ = some sv ∧ PairsAt w sv ls[i]

theorem any_take {α : Type} {p : α → Bool} {l : List α} {k : Nat} (h : k < l.length) (ht : (l.take k).any p = false) (hx : p l[k] = false) : (l.take (k + 1)).any p = false := by
  rw [List.take_succ_eq_append_getElem h, List.any_append, ht]
  simp [hx]
theorem any_true {α : Type} {p : α → Bool} {l : List α} {k : Nat} (h : k < l.length) (hx : p l[k] = true) : l.any p = true :=
  List.any_eq_true.2 ⟨_, List.getElem_mem h, hx⟩

set_option maxHeartbeats 2000000 in
theorem checkPlaces_any (v vs : Value) (l : List Int) (ls : List (List (Int × Int))) (w : World) (hv : IntsAt w v l) (hs : ListsAt w vs ls) (hlen : l.length ≤ 1000000) (hls : ls.length ≤ 1000)
    (hle : ∀ x ∈ ls, x.length ≤ 1000000) :
    Calls Tryd.prog 62 #[v, vs] w fun e w' => e = .returned (.int .i64 (placesErr l ls)) ∧ Below w.heap.size w w' := by
  obtain ⟨a, cap, rfl, hc⟩ := hv
  have hV : IntsAt w (.slice a l.length cap) l := ⟨a, cap, rfl, hc⟩
  clear hc
  obtain ⟨b, off, caps, rfl, hcs⟩ := hs
  have HV := Lib.hid hV
  have HS := Lib.hid hcs
  have HL := Lib.hid hle
  clear hV hcs hle
  go_enter Tryd.func62, Tryd.ntmps62
  by_cases h1 : l.length < 2
  · go_wp2
    go_ret
    refine ⟨ret_int ?_, Below.refl _ _⟩
    unfold placesErr
    rw [if_pos (by omega)]
  by_cases h2 : 8 < l.length
  · go_wp2
    go_ret
    refine ⟨ret_int ?_, Below.refl _ _⟩
    unfold placesErr
    rw [if_pos (by omega)]
  go_wp2
  go_loop [6, 19] (fun _ i => ∃ k : Nat, k ≤ ls.length ∧ i = .int .i64 k ∧ (ls.take k).any (fun x => x.length != l.length) = false) (fun _ i => ls.length - (intOf i).toNat)
  case atStart => exact ⟨0, Nat.zero_le _, rfl, by simp⟩
  case round =>
    obtain ⟨k, hk, rfl, hok⟩ := hrel
    have HO := Lib.hid hok
    clear hok
    by_cases hlt : k < ls.length
    · obtain ⟨sv, hc, ⟨sa, scap, rfl, _⟩⟩ := HS.out k hlt
      have hll := HL.out _ (List.getElem_mem hlt)
      by_cases h3 : ls[k].length = l.length
      · have h3' : (((ls[k].length : Nat) : Int) != ((l.length : Nat) : Int)) = false := by simp [h3]
        have H3 := Lib.hid h3
        clear h3
        go_wp2
        go_round
        case rel => exact ⟨k + 1, by omega, by go_num, any_take hlt HO.out (by simp [H3.out])⟩
        case measure => simp [intOf]; omega
      · have h3' : (((ls[k].length : Nat) : Int) != ((l.length : Nat) : Int)) = true := by simp; omega
        go_wp2
        go_ret
        refine ⟨ret_int ?_, Below.refl _ _⟩
        unfold placesErr
        rw [if_neg (by omega), if_pos (any_true hlt (by simp; exact h3))]
    · obtain rfl : k = ls.length := by omega
      have hA : ls.any (fun x => x.length != l.length) = false := by have := HO.out; rwa [List.take_length] at this
      have HA := Lib.hid hA
      clear hA
      go_wp2_with fail
      refine (within_any _ _ _ l _ HV.out hlen).mono ?_
      rintro e w' ⟨rfl, rfl⟩
      by_cases h4 : okInts 0 100 l = false
      · rw [h4]
        go_wp2
        go_ret
        refine ⟨ret_int ?_, Below.refl _ _⟩
        unfold placesErr
        rw [if_neg (by omega), HA.out, if_neg (by simp), if_pos h4]
      rw [Bool.not_eq_false] at h4
      rw [h4]
      go_wp2
      go_loopw [8, 34] (fun _ i wr => ∃ k : Nat, k ≤ ls.length ∧ i = .int .i64 k ∧ (ls.take k).all okEdges = true ∧ Below w.heap.size w wr) (fun _ i _ => ls.length - (intOf i).toNat)
      case atStart => exact ⟨0, Nat.zero_le _, rfl, by simp, Below.refl _ _⟩
      case round =>
        obtain ⟨k, hk, rfl, hok, hB⟩ := hrel
        have HO := Lib.hid hok
        clear hok
        by_cases hlt : k < ls.length
        · obtain ⟨sv, hc, hp⟩ := HS.out k hlt
          have hbl := lt_of_cell hc
          rw [← hB.cell (p := ⟨b, _, none⟩) hbl] at hc
          have hp' := Lib.hid (hp.below hB)
          clear hp
          have hll := HL.out _ (List.getElem_mem hlt)
          go_wp2_with fail
          refine (areEdges_any _ _ _ hp'.out hll).mono ?_
          rintro e w' ⟨rfl, hb⟩
          have hB2 : Below w.heap.size w w' := hB.trans (hb.mono hB.size)
          by_cases h5 : okEdges ls[k] = false
          · rw [h5]
            go_wp2
            go_ret
            refine ⟨ret_int ?_, hB2⟩
            unfold placesErr
            rw [if_neg (by omega), HA.out, if_neg (by simp), h4, if_neg (by simp), if_pos (all_false hlt h5)]
          · rw [Bool.not_eq_false] at h5
            rw [h5]
            go_wp2
            go_roundw
            case rel => exact ⟨k + 1, by omega, by go_num, all_snoc hlt HO.out h5, hB2⟩
            case measure => simp [intOf]; omega
        · obtain rfl : k = ls.length := by omega
          have hE : ls.all okEdges = true := by have := HO.out; rwa [List.take_length] at this
          have HE := Lib.hid hE
          clear hE
          go_wp2_with fail
          refine (isStrict_any _ l _ (HV.out.below hB) hlen).mono ?_
          rintro e w' ⟨rfl, hb⟩
          have hB2 : Below w.heap.size w w' := hB.trans (hb.mono hB.size)
          by_cases h6 : strictB l = false
          · rw [h6]
            go_wp2
            go_ret
            refine ⟨ret_int ?_, hB2⟩
            unfold placesErr
            rw [if_neg (by omega), HA.out, if_neg (by simp), h4, if_neg (by simp), HE.out, if_neg (by simp), if_pos h6]
          · rw [Bool.not_eq_false] at h6
            rw [h6]
            go_wp2
            go_ret
            refine ⟨ret_int ?_, hB2⟩
            unfold placesErr
            rw [if_neg (by omega), HA.out, if_neg (by simp), h4, if_neg (by simp), HE.out, if_neg (by simp), h6, if_neg (by simp)]
end Go.Proofs.YtlhldkiggmlegaaDoor

namespace Go.Proofs.YtlhldkiggmlegaaDoor
open Go.RowKit

/-! ## Logs, lines, rough logs -/
structure LogD where
  at_ : List Int
  edges : List (Int × Int)
structure RoughD where
  at_ : List Int
  low : List (Int × Int)
  high : List (Int × Int)

/-- The value v reads as the log l. -/
def LogAt (w : World) (v : Value) (l : LogD) : Prop := ∃ va ve, v = .agg #[va, ve] ∧ IntsAt w va l.at_ ∧ PairsAt w ve l.edges
def RoughAt (w : World) (v : Value) (r : RoughD) : Prop := ∃ va vl vh, v = .agg #[va, vl, vh] ∧ IntsAt w va r.at_ ∧ PairsAt w vl r.low ∧ PairsAt w vh r.high
theorem LogAt.below {w w' : World} {v : Value} {l : LogD} (h : LogAt w v l) (hb : Below w.heap.size w w') : LogAt w' v l := by
  obtain ⟨va, ve, e, h1, h2⟩ := h; exact ⟨va, ve, e, h1.below hb, h2.below hb⟩
theorem RoughAt.below {w w' : World} {v : Value} {r : RoughD} (h : RoughAt w v r) (hb : Below w.heap.size w w') : RoughAt w' v r := by
  obtain ⟨va, vl, vh, e, h1, h2, h3⟩ := h; exact ⟨va, vl, vh, e, h1.below hb, h2.below hb, h3.below hb⟩
/-- Few enough places to count them. -/
def LogD.small (l : LogD) : Prop := l.at_.length ≤ 1000000 ∧ l.edges.length ≤ 1000000
def RoughD.small (l : RoughD) : Prop := l.at_.length ≤ 1000000 ∧ l.low.length ≤ 1000000 ∧ l.high.length ≤ 1000000
def logErr (l : LogD) : Int := placesErr l.at_ [l.edges]
def lineErr (den start step : Int) : Int := if den < 1 ∨ 100000 < den ∨ start < -68719476736 ∨ 68719476736 < start ∨ step < -68719476736 ∨ 68719476736 < step then 3 else 0

/-- A slice value is one cell. -/
theorem ListsAt.one {w : World} {b cap : Nat} {sv : Value} {l : List (Int × Int)} (h : w.cell? ⟨b, 0, none⟩ = some sv) (hp : PairsAt w sv l) : ListsAt w (.slice (some ⟨b, 0, none⟩) 1 cap) [l] := by
  refine ⟨b, 0, cap, rfl, fun i hi => ?_⟩
  match i, hi with
  | 0, _ => exact ⟨sv, h, hp⟩
theorem ListsAt.two {w : World} {b cap : Nat} {sv sv' : Value} {l l' : List (Int × Int)} (h : w.cell? ⟨b, 0, none⟩ = some sv) (hp : PairsAt w sv l) (h' : w.cell? ⟨b, 1, none⟩ = some sv') (hp' : PairsAt w sv' l') : ListsAt w (.slice (some ⟨b, 0, none⟩) 2 cap) [l, l'] := by
  refine ⟨b, 0, cap, rfl, fun i hi => ?_⟩
  match i, hi with
  | 0, _ => exact ⟨sv, h, hp⟩
  | 1, _ => exact ⟨sv', by simpa using h', hp'⟩

theorem IntsAt.slice {w : World} {v : Value} {l : List Int} (h : IntsAt w v l) : ∃ a cap, v = .slice a l.length cap := let ⟨a, cap, e, _⟩ := h; ⟨a, cap, e⟩
theorem PairsAt.slice {w : World} {v : Value} {l : List (Int × Int)} (h : PairsAt w v l) : ∃ a cap, v = .slice a l.length cap := let ⟨a, cap, e, _⟩ := h; ⟨a, cap, e⟩

set_option maxHeartbeats 800000 in
theorem CheckLog_any (v : Value) (l : LogD) (w : World) (hv : LogAt w v l) (hs : l.small) :
    Calls Tryd.prog 22 #[v] w fun e w' => e = .returned (.int .i64 (logErr l)) ∧ Below w.heap.size w w' := by
  obtain ⟨va, ve, rfl, h1, h2⟩ := hv
  obtain ⟨a, cap, rfl⟩ := h1.slice
  obtain ⟨a', cap', rfl⟩ := h2.slice
  have H1 := Lib.hid h1
  have H2 := Lib.hid h2
  have HS := Lib.hid hs
  clear h1 h2 hs
  go_enter Tryd.func22, Tryd.ntmps22
  go_wp2_with fail
  refine (checkPlaces_any _ _ l.at_ [l.edges] _ (H1.out.below (below2 _ _ _)) (ListsAt.one (by go_simp) (H2.out.below (below2 _ _ _))) HS.out.1 (by simp) (by simpa using HS.out.2)).mono ?_
  rintro e w' ⟨rfl, hb⟩
  go_wp2
  go_ret
  exact ⟨rfl, after2 hb⟩

set_option maxHeartbeats 800000 in
theorem CheckLine_any (den start step : Int) (w : World) :
    Calls Tryd.prog 24 #[.agg #[.int .i64 den, .int .i64 start, .int .i64 step]] w fun e w' => e = .returned (.int .i64 (lineErr den start step)) ∧ Below w.heap.size w w' := by
  go_enter Tryd.func24, Tryd.ntmps24
  go_wp2_with fail
  refine (within_any _ _ _ [den] _ (IntsAt.mk1 (by go_simp)) (by simp)).mono ?_
  rintro e w' ⟨rfl, rfl⟩
  by_cases h1 : okInts 1 100000 [den] = false
  · rw [h1]
    go_wp2
    go_ret
    refine ⟨ret_int ?_, below2 _ _ _⟩
    simp [okInts] at h1
    unfold lineErr
    rw [if_pos (by omega)]
  rw [Bool.not_eq_false] at h1
  rw [h1]
  go_wp2_with fail
  refine (within_any _ _ _ [start, step] _ (IntsAt.mk2 (by go_simp) (by go_simp)) (by simp)).mono ?_
  rintro e w' ⟨rfl, rfl⟩
  by_cases h2 : okInts (-68719476736) 68719476736 [start, step] = false
  · rw [h2]
    go_wp2
    go_ret
    refine ⟨ret_int ?_, below3 _ _ _ _⟩
    simp [okInts] at h2
    unfold lineErr
    rw [if_pos (by omega)]
  · rw [Bool.not_eq_false] at h2
    rw [h2]
    go_wp2
    go_ret
    refine ⟨ret_int ?_, below3 _ _ _ _⟩
    simp [okInts] at h1 h2
    unfold lineErr
    rw [if_neg (by omega)]

/-- A test of many parts, in the order of the text. -/
theorem lineErr_bad {den start step : Int} (h : den < 1 ∨ 100000 < den ∨ start < -68719476736 ∨ 68719476736 < start ∨ step < -68719476736 ∨ 68719476736 < step) : lineErr den start step = 3 := if_pos h
theorem lineErr_ok {den start step : Int} (h : ¬ (den < 1 ∨ 100000 < den ∨ start < -68719476736 ∨ 68719476736 < start ∨ step < -68719476736 ∨ 68719476736 < step)) : lineErr den start step = 0 := if_neg h

set_option maxHeartbeats 2000000 in
theorem rCheckLine_any (den start step : Int) (w : World) :
    Calls Tryd.prog 25 #[.agg #[.int .i64 den, .int .i64 start, .int .i64 step]] w fun e w' => e = .returned (.int .i64 (lineErr den start step)) ∧ Below w.heap.size w w' := by
  by_cases h1 : den < 1
  · rw [lineErr_bad (by omega)]
    go_enter Tryd.func25, Tryd.ntmps25
    go_wp2
    go_ret
    exact ⟨rfl, below1 _ _⟩
  by_cases h2 : 100000 < den
  · rw [lineErr_bad (by omega)]
    go_enter Tryd.func25, Tryd.ntmps25
    go_wp2
    go_ret
    exact ⟨rfl, below1 _ _⟩
  by_cases h3 : start < -68719476736
  · rw [lineErr_bad (by omega)]
    go_enter Tryd.func25, Tryd.ntmps25
    go_wp2
    go_ret
    exact ⟨rfl, below1 _ _⟩
  by_cases h4 : 68719476736 < start
  · rw [lineErr_bad (by omega)]
    go_enter Tryd.func25, Tryd.ntmps25
    go_wp2
    go_ret
    exact ⟨rfl, below1 _ _⟩
  by_cases h5 : step < -68719476736
  · rw [lineErr_bad (by omega)]
    go_enter Tryd.func25, Tryd.ntmps25
    go_wp2
    go_ret
    exact ⟨rfl, below1 _ _⟩
  by_cases h6 : 68719476736 < step
  · rw [lineErr_bad (by omega)]
    go_enter Tryd.func25, Tryd.ntmps25
    go_wp2
    go_ret
    exact ⟨rfl, below1 _ _⟩
  · rw [lineErr_ok (by omega)]
    go_enter Tryd.func25, Tryd.ntmps25
    go_wp2
    go_ret
    exact ⟨rfl, below1 _ _⟩

theorem okEdge_iff (x y : Int) : okEdge (x, y) = true ↔ (-1000 ≤ x ∧ x ≤ y ∧ y ≤ 1000) := by
  simp [okEdge]; omega

set_option maxHeartbeats 800000 in
theorem isEdge_any (x y : Int) (w : World) :
    Calls Tryd.prog 92 #[.agg #[.int .i64 x, .int .i64 y]] w fun e w' => e = .returned (.bool (okEdge (x, y))) ∧ Below w.heap.size w w' := by
  by_cases h : okEdge (x, y) = true
  · rw [h]
    obtain ⟨h1, h2, h3⟩ := (okEdge_iff x y).1 h
    clear h
    go_enter Tryd.func92, Tryd.ntmps92
    go_wp2
    go_ret
    exact ⟨rfl, below1 _ _⟩
  · have h' := mt (okEdge_iff x y).2 h
    rw [Bool.not_eq_true] at h
    rw [h]
    clear h
    by_cases h1 : x < -1000
    · go_enter Tryd.func92, Tryd.ntmps92
      clear h'
      go_wp2
      go_ret
      exact ⟨rfl, below1 _ _⟩
    · by_cases h2 : y < x
      · go_enter Tryd.func92, Tryd.ntmps92
        clear h'
        go_wp2
        go_ret
        exact ⟨rfl, below1 _ _⟩
      · have h3 : 1000 < y := by omega
        clear h'
        go_enter Tryd.func92, Tryd.ntmps92
        go_wp2
        go_ret
        exact ⟨congrArg (fun b => Ending.returned (.bool b)) (decide_eq_false (by omega)), below1 _ _⟩
end Go.Proofs.YtlhldkiggmlegaaDoor

namespace Go.Proofs.YtlhldkiggmlegaaDoor
open Go.RowKit

/-- The error behind the lengths. -/
def edgesErr (l : List Int) (a b : List (Int × Int)) : Int := if okInts 0 100 l = false ∨ okEdges a = false ∨ okEdges b = false then 3 else if strictB l = false then 16 else 0
theorem edgesErr_bad {l : List Int} {a b : List (Int × Int)} (h : okInts 0 100 l = false ∨ okEdges a = false ∨ okEdges b = false) : edgesErr l a b = 3 := if_pos h
theorem edgesErr_good {l : List Int} {a b : List (Int × Int)} (h1 : okInts 0 100 l = true) (h2 : okEdges a = true) (h3 : okEdges b = true) : edgesErr l a b = if strictB l = false then 16 else 0 := by
  unfold edgesErr; rw [h1, h2, h3, if_neg (by simp)]

theorem placesErr_two (l : List Int) (a b : List (Int × Int)) : placesErr l [a, b] =
    if l.length < 2 ∨ 8 < l.length then 6 else if a.length ≠ l.length ∨ b.length ≠ l.length then 15 else edgesErr l a b := by
  unfold placesErr edgesErr
  split
  · rfl
  · by_cases h : a.length = l.length <;> by_cases h' : b.length = l.length <;> simp [h, h']
    by_cases g : okInts 0 100 l = false <;> by_cases g' : okEdges a = false <;> by_cases g2 : okEdges b = false <;> simp_all

theorem placesErr_one (l : List Int) (a : List (Int × Int)) : placesErr l [a] = placesErr l [a, a] := by
  unfold placesErr
  simp

set_option maxHeartbeats 4000000 in
theorem placed_any (v v1 v2 : Value) (l : List Int) (a b : List (Int × Int)) (w : World) (hv : IntsAt w v l) (hv1 : PairsAt w v1 a) (hv2 : PairsAt w v2 b) (hlen : l.length ≤ 1000000) (_hla : a.length ≤ 1000000) (_hlb : b.length ≤ 1000000) :
    Calls Tryd.prog 63 #[v, v1, v2] w fun e w' => e = .returned (.int .i64 (placesErr l [a, b])) ∧ Below w.heap.size w w' := by
  rw [placesErr_two]
  obtain ⟨p, cap, rfl, hc⟩ := hv
  have hat := (IntsAt.at (w := w) (a := p) (n := l.length) (cap := cap) ⟨p, cap, rfl, hc⟩).2
  obtain ⟨p1, cap1, rfl, hc1⟩ := hv1
  have hat1 := (PairsAt.at (w := w) (a := p1) (n := a.length) (cap := cap1) ⟨p1, cap1, rfl, hc1⟩).2
  obtain ⟨p2, cap2, rfl, hc2⟩ := hv2
  have hat2 := (PairsAt.at (w := w) (a := p2) (n := b.length) (cap := cap2) ⟨p2, cap2, rfl, hc2⟩).2
  have H := Lib.hid hat
  have H1 := Lib.hid hat1
  have H2 := Lib.hid hat2
  clear hat hat1 hat2 hc hc1 hc2
  by_cases h1 : l.length < 2
  · rw [if_pos (by omega)]
    go_enter Tryd.func63, Tryd.ntmps63
    go_wp2
    go_ret
    exact ⟨rfl, Below.refl _ _⟩
  by_cases h2 : 8 < l.length
  · rw [if_pos (by omega)]
    go_enter Tryd.func63, Tryd.ntmps63
    go_wp2
    go_ret
    exact ⟨rfl, Below.refl _ _⟩
  rw [if_neg (by omega)]
  by_cases h3 : ¬ a.length = l.length
  · rw [if_pos (Or.inl h3)]
    have h3' : (((a.length : Nat) : Int) != ((l.length : Nat) : Int)) = true := by simp; omega
    go_enter Tryd.func63, Tryd.ntmps63
    go_wp2
    go_ret
    exact ⟨rfl, Below.refl _ _⟩
  rw [Decidable.not_not] at h3
  have h3' : (((a.length : Nat) : Int) != ((l.length : Nat) : Int)) = false := by simp [h3]
  by_cases h4 : ¬ b.length = l.length
  · rw [if_pos (Or.inr h4)]
    have h4' : (((b.length : Nat) : Int) != ((l.length : Nat) : Int)) = true := by simp; omega
    clear h3
    go_enter Tryd.func63, Tryd.ntmps63
    go_wp2
    go_ret
    exact ⟨rfl, Below.refl _ _⟩
  rw [Decidable.not_not] at h4
  have h4' : (((b.length : Nat) : Int) != ((l.length : Nat) : Int)) = false := by simp [h4]
  rw [if_neg (by omega)]
  have H3 := Lib.hid h3
  have H4 := Lib.hid h4
  clear h3 h4
  go_enter Tryd.func63, Tryd.ntmps63
  go_wp2
  go_loopw [8] (fun i wr => ∃ k : Nat, k ≤ l.length ∧ i = .int .i64 k ∧ (okInts 0 100 (l.take k) = true ∧ okEdges (a.take k) = true ∧ okEdges (b.take k) = true) ∧ Below w.heap.size w wr) (fun i _ => l.length - (intOf i).toNat)
  case atStart => exact ⟨0, Nat.zero_le _, rfl, by simp [okInts, okEdges], Below.refl _ _⟩
  case round =>
    obtain ⟨k, hk, rfl, hok, hB⟩ := hrel
    have HO := Lib.hid hok
    clear hok
    by_cases hlt : k < l.length
    · have hlt1 : k < a.length := by have := H3.out; omega
      have hlt2 : k < b.length := by have := H4.out; omega
      obtain ⟨bb, off, rfl, hc⟩ := H.out k hlt
      obtain ⟨bb1, off1, rfl, hc1, hc1'⟩ := H1.out k hlt1
      obtain ⟨bb2, off2, rfl, hc2, hc2'⟩ := H2.out k hlt2
      have hbl := lt_of_cell hc
      have hbl1 := lt_of_cell hc1
      have hbl2 := lt_of_cell hc2
      rw [← hB.cell (p := ⟨bb, _, none⟩) hbl] at hc
      rw [← hB.cell (p := ⟨bb1, _, none⟩) hbl1] at hc1 hc1'
      rw [← hB.cell (p := ⟨bb2, _, none⟩) hbl2] at hc2 hc2'
      have hsz := hB.size
      by_cases g1 : l[k] < 0
      · go_wp2
        go_ret
        exact ⟨ret_int (edgesErr_bad (Or.inl (okInts_false hlt (by omega)))).symm, hB⟩
      by_cases g2 : 100 < l[k]
      · go_wp2
        go_ret
        exact ⟨ret_int (edgesErr_bad (Or.inl (okInts_false hlt (by omega)))).symm, hB⟩
      go_wp2_with fail
      refine (isEdge_any _ _ _).mono ?_
      rintro e w' ⟨rfl, hb⟩
      have hB2 : Below w.heap.size w w' := hB.trans (hb.mono hsz)
      have hsz2 := hB2.size
      rw [← hb.cell (p := ⟨bb2, _, none⟩) (show bb2 < _ by omega)] at hc2 hc2'
      by_cases g3 : okEdge a[k] = false
      · have G := Lib.hid (edgesErr_bad (l := l) (b := b) (Or.inr (Or.inl (all_false hlt1 g3))))
        rw [show (a[k].1, a[k].2) = a[k] from rfl, g3]
        go_wp2
        go_ret
        exact ⟨ret_int G.out.symm, hB2⟩
      rw [Bool.not_eq_false] at g3
      rw [show (a[k].1, a[k].2) = a[k] from rfl, g3]
      go_wp2_with fail
      refine (isEdge_any _ _ _).mono ?_
      rintro e w2 ⟨rfl, hb2⟩
      have hB3 : Below w.heap.size w w2 := hB2.trans (hb2.mono hsz2)
      by_cases g4 : okEdge b[k] = false
      · have G := Lib.hid (edgesErr_bad (l := l) (a := a) (Or.inr (Or.inr (all_false hlt2 g4))))
        rw [show (b[k].1, b[k].2) = b[k] from rfl, g4]
        go_wp2
        go_ret
        exact ⟨ret_int G.out.symm, hB3⟩
      rw [Bool.not_eq_false] at g4
      rw [show (b[k].1, b[k].2) = b[k] from rfl, g4]
      go_wp2
      go_roundw
      case rel => exact ⟨k + 1, by omega, by go_num, ⟨okInts_snoc hlt HO.out.1 (by omega) (by omega), all_snoc hlt1 HO.out.2.1 g3, all_snoc hlt2 HO.out.2.2 g4⟩, hB3⟩
      case measure => simp [intOf]; omega
    · obtain rfl : k = l.length := by omega
      obtain ⟨o1, o2, o3⟩ := HO.out
      rw [List.take_length] at o1
      rw [List.take_of_length_le (by have := H3.out; omega)] at o2
      rw [List.take_of_length_le (by have := H4.out; omega)] at o3
      have HE := Lib.hid (edgesErr_good o1 o2 o3)
      clear o1 o2 o3
      go_wp2
      go_loopw [9] (fun i wr => ∃ k : Nat, (k ≤ l.length ∨ k = 1) ∧ 1 ≤ k ∧ i = .int .i64 k ∧ (∀ j (h : j + 1 < l.length), j + 1 < k → l[j] < l[j + 1]) ∧ Below w.heap.size w wr) (fun i _ => l.length - (intOf i).toNat)
      case atStart => exact ⟨1, by omega, by omega, rfl, by omega, hB⟩
      case round =>
        obtain ⟨k, hk, hk1, rfl, hok, hB⟩ := hrel
        have HO := Lib.hid hok
        clear hok
        by_cases hlt : k < l.length
        · obtain ⟨bb, off, rfl, hc⟩ := H.out k hlt
          obtain ⟨b', off', e, hc'⟩ := H.out (k - 1) (by omega)
          obtain ⟨rfl, rfl⟩ : bb = b' ∧ off = off' := by simpa using e
          clear e
          have hbl := lt_of_cell hc
          rw [← hB.cell (p := ⟨bb, _, none⟩) hbl] at hc hc'
          have hp := getElem_pred (l := l) hk1 hlt
          have HP := Lib.hid hp
          clear hp
          by_cases h1 : l[k] ≤ l[k - 1]
          · have HS := Lib.hid (strictB_false (l := l) (k := k - 1) (by omega) (by rw [HP.out]; exact h1))
            go_wp2_with fail
            go_quiet (fail)
            go_wp2
            go_ret
            exact ⟨ret_int (by rw [HE.out, if_pos HS.out]), below_drewN hB _⟩
          · go_wp2_with fail
            go_quiet (fail)
            go_wp2
            go_roundw
            case rel =>
              refine ⟨k + 1, by omega, by omega, by go_num, ?_, below_drewN hB _⟩
              intro j hj hjk
              by_cases hjj : j + 1 < k
              · exact HO.out j hj hjj
              · obtain rfl : k - 1 = j := by omega
                rw [HP.out]
                omega
            case measure => simp [intOf]; omega
        · go_wp2
          go_ret
          exact ⟨ret_int (by rw [HE.out, (strictB_iff l).2 (fun i hi => HO.out i hi (by omega)), if_neg (by simp)]), hB⟩
end Go.Proofs.YtlhldkiggmlegaaDoor

namespace Go.Proofs.YtlhldkiggmlegaaDoor
open Go.RowKit

/-- What a log without an error is like. -/
structure Fit (l : List Int) (ls : List (List (Int × Int))) : Prop where
  two : 2 ≤ l.length
  eight : l.length ≤ 8
  lens : ∀ x ∈ ls, x.length = l.length
  ats : okInts 0 100 l = true
  edges : ∀ x ∈ ls, okEdges x = true
  strict : strictB l = true

theorem placesErr_zero {l : List Int} {ls : List (List (Int × Int))} (h : placesErr l ls = 0) : Fit l ls := by
  unfold placesErr at h
  split at h
  · omega
  · rename_i h1
    split at h
    · omega
    · rename_i h2
      split at h
      · omega
      · rename_i h3
        split at h
        · omega
        · rename_i h4
          split at h
          · omega
          · rename_i h5
            refine ⟨by omega, by omega, ?_, by simpa using h3, ?_, by simpa using h5⟩
            · intro x hx
              simp only [Bool.not_eq_true, List.any_eq_false] at h2
              simpa using h2 x hx
            · intro x hx
              simp only [Bool.not_eq_false, List.all_eq_true] at h4
              exact h4 x hx

set_option maxHeartbeats 800000 in
theorem rCheckLog_any (v : Value) (l : LogD) (w : World) (hv : LogAt w v l) (hs : l.small) :
    Calls Tryd.prog 23 #[v] w fun e w' => e = .returned (.int .i64 (logErr l)) ∧ Below w.heap.size w w' := by
  obtain ⟨va, ve, rfl, h1, h2⟩ := hv
  obtain ⟨a, cap, rfl⟩ := h1.slice
  obtain ⟨a', cap', rfl⟩ := h2.slice
  have H1 := Lib.hid h1
  have H2 := Lib.hid h2
  have HS := Lib.hid hs
  clear h1 h2 hs
  go_enter Tryd.func23, Tryd.ntmps23
  go_wp2_with fail
  refine (placed_any _ _ _ l.at_ l.edges l.edges _ (H1.out.below (below1 _ _)) (H2.out.below (below1 _ _)) (H2.out.below (below1 _ _)) HS.out.1 HS.out.2 HS.out.2).mono ?_
  rintro e w' ⟨rfl, hb⟩
  go_wp2
  go_ret
  exact ⟨ret_int (placesErr_one _ _).symm, after1 hb⟩

def gapsOk (a b : List (Int × Int)) : Bool := (a.zip b).all fun p => decide (p.1.2 ≤ p.2.1)
def roughErr (r : RoughD) : Int := if placesErr r.at_ [r.low, r.high] ≠ 0 then placesErr r.at_ [r.low, r.high] else if gapsOk r.low r.high = false then 16 else 0

theorem gaps_false {a b : List (Int × Int)} {k : Nat} (h : k < a.length) (h' : k < b.length) (hx : b[k].1 < a[k].2) : gapsOk a b = false := by
  have hz : k < (a.zip b).length := by simp; omega
  exact all_false hz (by simp; omega)
theorem gaps_true {a b : List (Int × Int)} (h : ∀ k (h : k < a.length) (h' : k < b.length), a[k].2 ≤ b[k].1) : gapsOk a b = true := by
  unfold gapsOk
  rw [List.all_eq_true]
  intro p hp
  obtain ⟨i, hi, e⟩ := List.mem_iff_getElem.1 hp
  simp at hi e
  subst e
  simpa using h i (by omega) (by omega)

set_option maxHeartbeats 2000000 in
theorem CheckRough_any (v : Value) (r : RoughD) (w : World) (hv : RoughAt w v r) (hs : r.small) :
    Calls Tryd.prog 39 #[v] w fun e w' => e = .returned (.int .i64 (roughErr r)) ∧ Below w.heap.size w w' := by
  obtain ⟨va, vl, vh, rfl, h1, h2, h3⟩ := hv
  obtain ⟨a, cap, rfl⟩ := h1.slice
  obtain ⟨a', cap', rfl⟩ := h2.slice
  obtain ⟨a'', cap'', rfl⟩ := h3.slice
  have H1 := Lib.hid h1
  have H2 := Lib.hid h2
  have H3 := Lib.hid h3
  have HS := Lib.hid hs
  clear h1 h2 h3 hs
  go_enter Tryd.func39, Tryd.ntmps39
  go_wp2_with fail
  refine (checkPlaces_any _ _ r.at_ [r.low, r.high] _ (H1.out.below (below2 _ _ _)) (ListsAt.two (by go_simp) (H2.out.below (below2 _ _ _)) (by go_simp) (H3.out.below (below2 _ _ _))) HS.out.1 (by simp) (by have := HS.out; simp [RoughD.small] at this ⊢; omega)).mono ?_
  rintro e w' ⟨rfl, hb⟩
  have hB := after2 hb
  by_cases h0 : placesErr r.at_ [r.low, r.high] = 0
  · have hF := placesErr_zero h0
    have hle : roughErr r = if gapsOk r.low r.high = false then 16 else 0 := by unfold roughErr; rw [if_neg (by simp [h0])]
    have HE := Lib.hid hle
    rw [h0]
    clear h0 hle
    obtain ⟨hc, hf⟩ := bcell hb
    have k1 := hF.two
    have k2 := hF.eight
    have k3 := Lib.hid (hF.lens r.low (by simp))
    have k4 := Lib.hid (hF.lens r.high (by simp))
    clear hF
    have hA1 := Lib.hid (PairsAt.at (H2.out.below hB)).2
    have hA2 := Lib.hid (PairsAt.at (H3.out.below hB)).2
    have g0 : w'.cell? ⟨w.heap.size, 0, none⟩ = some (.slice a r.at_.length cap) := by rw [hc _ _ (by simp; omega)]; go_simp
    have g1 : w'.cell? ⟨w.heap.size, 1, none⟩ = some (.slice a' r.low.length cap') := by rw [hc _ _ (by simp; omega)]; go_simp
    have g2 : w'.cell? ⟨w.heap.size, 2, none⟩ = some (.slice a'' r.high.length cap'') := by rw [hc _ _ (by simp; omega)]; go_simp
    clear hc hf
    go_wp2
    go_loopw [4, 19] (fun _ i wr => ∃ k : Nat, k ≤ r.at_.length ∧ i = .int .i64 k ∧ (∀ j (h : j < r.low.length) (h' : j < r.high.length), j < k → r.low[j].2 ≤ r.high[j].1) ∧ ∃ nq, wr = w'.drewN nq) (fun _ i _ => r.at_.length - (intOf i).toNat)
    case atStart => exact ⟨0, Nat.zero_le _, rfl, by omega, 0, rfl⟩
    case round =>
      obtain ⟨k, hk, rfl, hok, nq, rfl⟩ := hrel
      have HO := Lib.hid hok
      clear hok
      by_cases hlt : k < r.at_.length
      · have hl1 : k < r.low.length := by have := k3.out; omega
        have hl2 : k < r.high.length := by have := k4.out; omega
        obtain ⟨b1, o1, rfl, hc1, hc1'⟩ := hA1.out k hl1
        obtain ⟨b2, o2, rfl, hc2, hc2'⟩ := hA2.out k hl2
        by_cases hx : r.high[k].1 < r.low[k].2
        · have HG := Lib.hid (gaps_false hl1 hl2 hx)
          go_wp2_with fail
          go_quiet (fail)
          go_wp2
          go_ret
          exact ⟨ret_int (by rw [HE.out, if_pos HG.out]), below_drewN (below_drewN hB _) _⟩
        · go_wp2_with fail
          go_quiet (fail)
          go_wp2
          go_roundw
          case rel =>
            refine ⟨k + 1, by omega, by go_num, ?_, _, rfl⟩
            intro j h h' hj
            by_cases hjk : j < k
            · exact HO.out j h h' hjk
            · obtain rfl : k = j := by omega
              omega
          case measure => simp [intOf]; omega
      · go_wp2
        go_ret
        refine ⟨ret_int ?_, below_drewN hB _⟩
        rw [HE.out, gaps_true (fun j h h' => HO.out j h h' (by have := k3.out; omega)), if_neg (by simp)]
  · have h0' : (placesErr r.at_ [r.low, r.high] != 0) = true := by simp [h0]
    have HE := Lib.hid h0
    clear h0
    go_wp2
    go_ret
    refine ⟨ret_int ?_, hB⟩
    unfold roughErr
    rw [if_pos HE.out]
set_option maxHeartbeats 2000000 in
theorem rCheckRough_any (v : Value) (r : RoughD) (w : World) (hv : RoughAt w v r) (hs : r.small) :
    Calls Tryd.prog 40 #[v] w fun e w' => e = .returned (.int .i64 (roughErr r)) ∧ Below w.heap.size w w' := by
  obtain ⟨va, vl, vh, rfl, h1, h2, h3⟩ := hv
  obtain ⟨a, cap, rfl⟩ := h1.slice
  obtain ⟨a', cap', rfl⟩ := h2.slice
  obtain ⟨a'', cap'', rfl⟩ := h3.slice
  have H1 := Lib.hid h1
  have H2 := Lib.hid h2
  have H3 := Lib.hid h3
  have HS := Lib.hid hs
  clear h1 h2 h3 hs
  go_enter Tryd.func40, Tryd.ntmps40
  go_wp2_with fail
  refine (placed_any _ _ _ r.at_ r.low r.high _ (H1.out.below (below1 _ _)) (H2.out.below (below1 _ _)) (H3.out.below (below1 _ _)) HS.out.1 HS.out.2.1 HS.out.2.2).mono ?_
  rintro e w' ⟨rfl, hb⟩
  have hB := after1 hb
  by_cases h0 : placesErr r.at_ [r.low, r.high] = 0
  · have hF := placesErr_zero h0
    have hle : roughErr r = if gapsOk r.low r.high = false then 16 else 0 := by unfold roughErr; rw [if_neg (by simp [h0])]
    have HE := Lib.hid hle
    rw [h0]
    clear h0 hle
    obtain ⟨hc, hf⟩ := bcell hb
    have k1 := hF.two
    have k2 := hF.eight
    have k3 := Lib.hid (hF.lens r.low (by simp))
    have k4 := Lib.hid (hF.lens r.high (by simp))
    clear hF
    have hA1 := Lib.hid (PairsAt.at (H2.out.below hB)).2
    have hA2 := Lib.hid (PairsAt.at (H3.out.below hB)).2
    have g0 : w'.cell? ⟨w.heap.size, 0, none⟩ = some (.slice a r.at_.length cap) := by rw [hc _ _ (by simp)]; go_simp
    have g1 : w'.cell? ⟨w.heap.size, 1, none⟩ = some (.slice a' r.low.length cap') := by rw [hc _ _ (by simp)]; go_simp
    have g2 : w'.cell? ⟨w.heap.size, 2, none⟩ = some (.slice a'' r.high.length cap'') := by rw [hc _ _ (by simp)]; go_simp
    clear hc hf
    go_wp2
    go_loopw [3] (fun i wr => ∃ k : Nat, k ≤ r.at_.length ∧ i = .int .i64 k ∧ (∀ j (h : j < r.low.length) (h' : j < r.high.length), j < k → r.low[j].2 ≤ r.high[j].1) ∧ ∃ nq, wr = w'.drewN nq) (fun i _ => r.at_.length - (intOf i).toNat)
    case atStart => exact ⟨0, Nat.zero_le _, rfl, by omega, 0, rfl⟩
    case round =>
      obtain ⟨k, hk, rfl, hok, nq, rfl⟩ := hrel
      have HO := Lib.hid hok
      clear hok
      by_cases hlt : k < r.at_.length
      · have hl1 : k < r.low.length := by have := k3.out; omega
        have hl2 : k < r.high.length := by have := k4.out; omega
        obtain ⟨b1, o1, rfl, hc1, hc1'⟩ := hA1.out k hl1
        obtain ⟨b2, o2, rfl, hc2, hc2'⟩ := hA2.out k hl2
        by_cases hx : r.high[k].1 < r.low[k].2
        · have HG := Lib.hid (gaps_false hl1 hl2 hx)
          go_wp2_with fail
          go_quiet (fail)
          go_wp2
          go_ret
          exact ⟨ret_int (by rw [HE.out, if_pos HG.out]), below_drewN (below_drewN hB _) _⟩
        · go_wp2_with fail
          go_quiet (fail)
          go_wp2
          go_roundw
          case rel =>
            refine ⟨k + 1, by omega, by go_num, ?_, _, rfl⟩
            intro j h h' hj
            by_cases hjk : j < k
            · exact HO.out j h h' hjk
            · obtain rfl : k = j := by omega
              omega
          case measure => simp [intOf]; omega
      · go_wp2
        go_ret
        refine ⟨ret_int ?_, below_drewN hB _⟩
        rw [HE.out, gaps_true (fun j h h' => HO.out j h h' (by have := k3.out; omega)), if_neg (by simp)]
  · have h0' : (placesErr r.at_ [r.low, r.high] != 0) = true := by simp [h0]
    have HE := Lib.hid h0
    clear h0
    obtain ⟨hc, hf⟩ := bcell hb
    have g0 : w'.cell? ⟨w.heap.size, 0, none⟩ = some (.slice a r.at_.length cap) := by rw [hc _ _ (by simp)]; go_simp
    have g1 : w'.cell? ⟨w.heap.size, 1, none⟩ = some (.slice a' r.low.length cap') := by rw [hc _ _ (by simp)]; go_simp
    have g2 : w'.cell? ⟨w.heap.size, 2, none⟩ = some (.slice a'' r.high.length cap'') := by rw [hc _ _ (by simp)]; go_simp
    clear hc hf
    go_wp2_with fail
    refine (placed_any _ _ _ r.at_ r.low r.high _ (H1.out.below hB) (H2.out.below hB) (H3.out.below hB) HS.out.1 HS.out.2.1 HS.out.2.2).mono ?_
    rintro e w2 ⟨rfl, hb2⟩
    go_wp2
    go_ret
    refine ⟨ret_int ?_, hB.trans (hb2.mono hB.size)⟩
    unfold roughErr
    rw [if_pos HE.out]
end Go.Proofs.YtlhldkiggmlegaaDoor
