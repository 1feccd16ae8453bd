import Derived.Test.YtnkeikhkafbokaaBase
import Derived.Test.YtnkeikhkafbokaaDag8
namespace Go.Proofs.Ytnkeikhkafbokaa
open Go.RowKit Go.Dag

/-! ## Ribbons, kinds, cuts in memory -/
def RibAt (w : World) (v : Value) (r : RibD) : Prop := ∃ sv, v = .agg #[.int .i64 r.len, sv] ∧ IntsAt w sv r.fs
theorem RibAt.below {w w' : World} {v : Value} {r : RibD} (h : RibAt w v r) (hb : Below w.heap.size w w') : RibAt w' v r := by
  obtain ⟨sv, e, h⟩ := h
  exact ⟨sv, e, h.below hb⟩
/-- The slice value v reads as the kinds ks. -/
def KindsAt (w : World) (v : Value) (ks : List KindD) : Prop :=
  ∃ a cap, v = .slice a ks.length cap ∧ (ks ≠ [] → ∃ b off, a = some ⟨b, off, none⟩ ∧ ∀ i (h : i < ks.length), w.cell? ⟨b, off + i * 3, none⟩ = some (.int .i64 ks[i].w) ∧ w.cell? ⟨b, off + i * 3 + 1, none⟩ = some (.int .i64 ks[i].p) ∧ w.cell? ⟨b, off + i * 3 + 2, none⟩ = some (.int .i64 ks[i].m))
theorem KindsAt.below {w w' : World} {v : Value} {l : List KindD} (h : KindsAt w v l) (hb : Below w.heap.size w w') : KindsAt w' v l := by
  obtain ⟨a, cap, e, hc⟩ := h
  refine ⟨a, cap, e, fun hne => ?_⟩
  obtain ⟨b, off, ea, hc⟩ := hc hne
  exact ⟨b, off, ea, fun i hi => ⟨(hb.cell (p := ⟨b, _, none⟩) (lt_of_cell (hc i hi).1)).trans (hc i hi).1, (hb.cell (p := ⟨b, _, none⟩) (lt_of_cell (hc i hi).2.1)).trans (hc i hi).2.1, (hb.cell (p := ⟨b, _, none⟩) (lt_of_cell (hc i hi).2.2)).trans (hc i hi).2.2⟩⟩
theorem KindsAt.slice {w : World} {v : Value} {l : List KindD} (h : KindsAt w v l) : ∃ a cap, v = .slice a l.length cap := by
  obtain ⟨a, cap, e, _⟩ := h
  exact ⟨a, cap, e⟩
theorem KindsAt.get {w : World} {a : Option Addr} {n cap : Nat} {l : List KindD} (h : KindsAt w (.slice a n cap) l) (k : Nat) (hk : k < l.length) : ∃ b off, a = some ⟨b, off, none⟩ ∧ w.cell? ⟨b, off + k * 3, none⟩ = some (.int .i64 l[k].w) ∧ w.cell? ⟨b, off + k * 3 + 1, none⟩ = some (.int .i64 l[k].p) ∧ w.cell? ⟨b, off + k * 3 + 2, none⟩ = some (.int .i64 l[k].m) := by
  obtain ⟨a', cap', e, hc⟩ := h
  cases e
  obtain ⟨b, off, ea, hc⟩ := hc (by intro h; subst h; exact absurd hk (Nat.not_lt_zero _))
  exact ⟨b, off, ea, hc k hk⟩
theorem fsOk_snoc {len : Int} {fs : List Int} {k : Nat} {lo : Int} (hk : k < fs.length) : fsOk len lo (fs.drop k) = (decide (lo ≤ fs[k]) && decide (fs[k] ≤ len - 1) && fsOk len (fs[k] + 1) (fs.drop (k + 1))) := by
  rw [List.drop_eq_getElem_cons hk, fsOk]
end Go.Proofs.Ytnkeikhkafbokaa
