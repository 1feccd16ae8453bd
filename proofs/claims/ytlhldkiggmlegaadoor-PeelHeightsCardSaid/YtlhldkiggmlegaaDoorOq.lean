import Derived.Test.YtlhldkiggmlegaaDoorOg
namespace Go.Proofs.YtlhldkiggmlegaaDoor
open Go.RowKit Go.Shelf Go.Sort
attribute [local go_sem] Oper.semAt_some

/-! ### Two rows of one type stand apart -/
def Apart (v v' : Value) : Prop := ∀ g, v.ownBlock = some g → v'.ownBlock = some g → False
theorem Apart.symm {v v' : Value} (h : Apart v v') : Apart v' v := fun g h1 h2 => h g h2 h1
theorem Apart.nil {v : Value} : Apart v (.slice none 0 0) := fun g _ h => by cases h
theorem owns_block {W : World} {base size n : Nat} {e : TypeId} {v : Value} {xs : List Value} (h : W.ownsRow base e size v n xs) {g : Nat} (hg : v.ownBlock = some g) : g < W.heap.size := by
  obtain ⟨h1, h2 | ⟨g', cap, cur, e1, e2, e3, e4⟩⟩ := h
  · rw [h2.1] at hg; cases hg
  · rw [e1] at hg
    obtain rfl : g' = g := by simpa [Value.ownBlock] using hg
    exact Blk.lt e3
theorem owns_apart {W W' : World} {base size n : Nat} {e : TypeId} {v v' : Value} {xs : List Value} (h : W.ownsRow base e size v' n xs) (ha : Apart v' v) (hg : W.grownBy W' v.ownBlock) : W'.ownsRow base e size v' n xs := by
  obtain ⟨h1, h2 | ⟨g, cap, cur, e1, e2, e3, e4⟩⟩ := h
  · exact ⟨h1, .inl h2⟩
  · refine ⟨h1, .inr ⟨g, cap, cur, e1, e2, (hg.block g (Blk.lt e3) ?_).trans e3, e4⟩⟩
    intro hh
    exact ha g (by rw [e1]; rfl) hh.symm
theorem apart_grown {W : World} {base size n : Nat} {e : TypeId} {v v' v2 : Value} {xs : List Value} (h : W.ownsRow base e size v' n xs) (ha : Apart v' v) (hat : v2.ownBlock = v.ownBlock ∨ v2.ownBlock = some W.heap.size) : Apart v' v2 := by
  intro g h1 h2
  rcases hat with e | e
  · exact ha g h1 (by rw [← e]; exact h2)
  · have h3 := owns_block h h1
    rw [e] at h2
    have := Option.some.inj h2
    omega
section
variable {P : Program} (w : World)
theorem wp_append_at {o : Oper} {a : Act} {K : Act → World → Prop} {Q : Exit → Act → World → Prop} (s x : Operand) (t : TypeId)
    (ho : o.op = .call { callee := .builtin .append, args := #[s, x], argTypes := #[t, t] })
    (base : Nat) (e : TypeId) (i : TypeInfo) (z : Value) (size bytes : Nat) (ht : P.underlying t = some (.slice e)) (hi : P.info? e = some i) (hz : i.zero = some z)
    (hsize : i.size = size) (hby : i.bytes = bytes) (hzs : z.cells.size = size) (hsz : 0 < size)
    (v : Value) (n : Nat) (xs : List Value) (hs : a.eval s = v) (hown : w.ownsRow base e size v n xs)
    (ad : Addr) (m c : Nat) (news : List Value) (hx : a.eval x = .slice (some ad) m c) (hl : news.length = m * size) (hnews : ∀ j u, news[j]? = some u → w.cell? (ad.add j) = some u) (h1 : ∀ u ∈ news, u.oneCell' = true)
    (h63 : n + m ≤ maxLen) (hbytes : (n + m) * bytes ≤ 140737488355328) (hbase : base ≤ w.heap.size)
    (h : ∀ v' w', w'.ownsRow base e size v' (n + m) (xs ++ news) → w.grownBy w' v.ownBlock → (v'.ownBlock = v.ownBlock ∨ v'.ownBlock = some w.heap.size) → K (a.put o.dst v') w') : o.wp P a w K Q := by
  obtain ⟨v', w', hr, h2, h3, _, h5⟩ := run_append_own_at (P := P) w base t o.type e i z size bytes ht hi hz hsize hby hzs hsz v n xs hown ad m c news hl hnews h1 h63 hbytes hbase
  unfold Oper.wp execOp
  simp only [ho, resolve, invoke, builtin, Sem.run_bind, Sem.run_pure, Result.andThen_ok, List.map_toArray, List.map_cons, List.map_nil, hs, hx, hr]
  exact h v' w' h2 h3 h5
end
end Go.Proofs.YtlhldkiggmlegaaDoor
