import Derived.Test.YtjbeoakikdkdaaaSu
namespace Go.Proofs.Ytjbeoakikdkdaaa
open Go.RowKit Go.Vat Go.Sort Go.Shelf
attribute [local go_sem] Oper.semAt_some

/-! ## Program and reference at every input -/
def needErr (y : YardD) (a b : Int) : Int := if yardErr y ≠ 0 then yardErr y else if okWin (a, b) = true then 0 else 3
def needV (y : YardD) (a b : Int) : Int := if needErr y a b = 0 then need y a b else 0
def fewV (y : YardD) : Int := if yardErr y = 0 then U y 101 else 0
def proofE (y : YardD) : List (Int × Int) := if yardErr y = 0 then proofL y else []
def earlyE (y : YardD) : List Int := if yardErr y = 0 then earlyL y else []
def lateE (y : YardD) : List Int := if yardErr y = 0 then lateL y else []
def keepErr (y : YardD) (loads : Int) : Int := if yardErr y ≠ 0 then yardErr y else if 0 ≤ loads ∧ loads ≤ 10 then 0 else 3
def keepE (y : YardD) (loads : Int) : List Int := if keepErr y loads = 0 then (keepL y loads).map (Nat.cast : Nat → Int) else []
theorem ints_nil (w : World) : IntsAt w (.slice none 0 0) [] := ⟨_, _, rfl, fun h => absurd rfl h⟩
theorem pairs_nil (w : World) : PairsAt w (.slice none 0 0) [] := ⟨_, _, rfl, fun h => absurd rfl h⟩
theorem CheckHours_all (v xv : Value) (y : YardD) (xs : List Int) (w : World) (hv : YardAt w v y) (hl : y.logs.length ≤ 1000000) (hx : IntsAt w xv xs) :
    Calls Try.prog 19 #[v, xv] w fun e w' => e = .returned (.tuple #[.int .i64 (hoursV y xs), .int .i64 (hoursErr y xs)]) ∧ Below w.heap.size w w' := by
  by_cases he : yardErr y = 0
  · have hy := yardErr_zero he
    exact CheckHours_ok v xv y xs w hv hy hx
  · have e1 : hoursErr y xs = yardErr y := by unfold hoursErr; rw [if_pos he]
    rw [hoursV_no (by rw [e1]; exact he), e1]
    exact CheckHours_err v xv y w hv hl he
theorem Need_all (v : Value) (a b : Int) (y : YardD) (w : World) (hv : YardAt w v y) (hl : y.logs.length ≤ 1000000) :
    Calls Try.prog 21 #[v, .agg #[.int .i64 a, .int .i64 b]] w fun e w' => e = .returned (.tuple #[.int .i64 (needV y a b), .int .i64 (needErr y a b)]) ∧ Below w.heap.size w w' := by
  by_cases he : yardErr y = 0
  · have hy := yardErr_zero he
    cases hw : okWin (a, b) with
    | true =>
      have e1 : needErr y a b = 0 := by unfold needErr; rw [if_neg (by simpa using he), if_pos hw]
      have e2 : needV y a b = need y a b := by unfold needV; rw [if_pos e1]
      rw [e1, e2]
      exact Need_yes v a b y w hv hy hw
    | false =>
      have e1 : needErr y a b = 3 := by unfold needErr; rw [if_neg (by simpa using he), if_neg (by rw [hw]; simp)]
      have e2 : needV y a b = 0 := by unfold needV; rw [if_neg (by rw [e1]; decide)]
      rw [e1, e2]
      exact Need_no v a b y w hv hy hw
  · have e1 : needErr y a b = yardErr y := by unfold needErr; rw [if_pos he]
    have e2 : needV y a b = 0 := by unfold needV; rw [if_neg (by rw [e1]; exact he)]
    rw [e1, e2]
    exact Need_err v a b y w hv hl he
theorem Fewest_all (v : Value) (y : YardD) (w : World) (hv : YardAt w v y) (hl : y.logs.length ≤ 1000000) :
    Calls Try.prog 25 #[v] w fun e w' => e = .returned (.tuple #[.int .i64 (fewV y), .int .i64 (yardErr y)]) ∧ Below w.heap.size w w' := by
  by_cases he : yardErr y = 0
  · have hy := yardErr_zero he
    rw [show fewV y = U y 101 from if_pos he, he]
    exact Fewest_ok v y w hv hy
  · rw [show fewV y = 0 from if_neg he]
    exact Fewest_err v y w hv hl he
theorem CheckProof_all (v wv : Value) (y : YardD) (ws : List (Int × Int)) (w : World) (hv : YardAt w v y) (hl : y.logs.length ≤ 1000000) (hw : PairsAt w wv ws) (hl2 : ws.length ≤ 1000) :
    Calls Try.prog 27 #[v, wv] w fun e w' => e = .returned (.tuple #[.int .i64 (proofV y ws), .int .i64 (proofErr y ws)]) ∧ Below w.heap.size w w' := by
  by_cases he : yardErr y = 0
  · have hy := yardErr_zero he
    exact CheckProof_ok v wv y ws w hv hy hw hl2
  · have e1 : proofErr y ws = yardErr y := by unfold proofErr; rw [if_pos he]
    rw [proofV_no (by rw [e1]; exact he), e1]
    exact CheckProof_err v wv y w hv hl he
theorem Early_all (v : Value) (y : YardD) (w : World) (hv : YardAt w v y) (hl : y.logs.length ≤ 1000000) :
    Calls Try.prog 31 #[v] w fun e w' => ∃ v', e = .returned (.tuple #[v', .int .i64 (yardErr y)]) ∧ IntsAt w' v' (earlyE y) ∧ Below w.heap.size w w' := by
  by_cases he : yardErr y = 0
  · have hy := yardErr_zero he
    rw [show earlyE y = earlyL y from if_pos he, he]
    exact Early_ok v y w hv hy
  · rw [show earlyE y = [] from if_neg he]
    exact (Early_err v y w hv hl he).mono fun e w' ⟨h1, h2⟩ => ⟨_, h1, ints_nil _, h2⟩
theorem Late_all (v : Value) (y : YardD) (w : World) (hv : YardAt w v y) (hl : y.logs.length ≤ 1000000) :
    Calls Try.prog 33 #[v] w fun e w' => ∃ v', e = .returned (.tuple #[v', .int .i64 (yardErr y)]) ∧ IntsAt w' v' (lateE y) ∧ Below w.heap.size w w' := by
  by_cases he : yardErr y = 0
  · have hy := yardErr_zero he
    rw [show lateE y = lateL y from if_pos he, he]
    exact Late_ok v y w hv hy
  · rw [show lateE y = [] from if_neg he]
    exact (Late_err v y w hv hl he).mono fun e w' ⟨h1, h2⟩ => ⟨_, h1, ints_nil _, h2⟩
theorem Keep_all (v : Value) (loads : Int) (y : YardD) (w : World) (hv : YardAt w v y) (hl : y.logs.length ≤ 1000000) :
    Calls Try.prog 36 #[v, .int .i64 loads] w fun e w' => ∃ v', e = .returned (.tuple #[v', .int .i64 (keepErr y loads)]) ∧ IntsAt w' v' (keepE y loads) ∧ Below w.heap.size w w' := by
  by_cases he : yardErr y = 0
  · have hy := yardErr_zero he
    by_cases hw : 0 ≤ loads ∧ loads ≤ 10
    · have e1 : keepErr y loads = 0 := by unfold keepErr; rw [if_neg (by simpa using he), if_pos hw]
      rw [show keepE y loads = _ from if_pos e1, e1]
      exact Keep_yes v loads y w hv hy (by simpa [okInts] using hw)
    · have e1 : keepErr y loads = 3 := by unfold keepErr; rw [if_neg (by simpa using he), if_neg hw]
      rw [show keepE y loads = [] from if_neg (by rw [e1]; decide), e1]
      exact (Keep_no v loads y w hv hy (by simp [okInts]; omega)).mono fun e w' ⟨h1, h2⟩ => ⟨_, h1, ints_nil _, h2⟩
  · have e1 : keepErr y loads = yardErr y := by unfold keepErr; rw [if_pos he]
    rw [show keepE y loads = [] from if_neg (by rw [e1]; exact he), e1]
    exact (Keep_err v loads y w hv hl he).mono fun e w' ⟨h1, h2⟩ => ⟨_, h1, ints_nil _, h2⟩
theorem rCheckHours_all (v xv : Value) (y : YardD) (xs : List Int) (w : World) (hv : YardAt w v y) (hl : y.logs.length ≤ 1000000) (hx : IntsAt w xv xs) :
    Calls Try.prog 20 #[v, xv] w fun e w' => e = .returned (.tuple #[.int .i64 (hoursV y xs), .int .i64 (hoursErr y xs)]) ∧ Below w.heap.size w w' := by
  by_cases he : yardErr y = 0
  · have hy := yardErr_zero he
    exact rCheckHours_ok v xv y xs w hv hy hx
  · have e1 : hoursErr y xs = yardErr y := by unfold hoursErr; rw [if_pos he]
    rw [hoursV_no (by rw [e1]; exact he), e1]
    exact rCheckHours_err v xv y w hv hl he
theorem rNeed_all (v : Value) (a b : Int) (y : YardD) (w : World) (hv : YardAt w v y) (hl : y.logs.length ≤ 1000000) :
    Calls Try.prog 22 #[v, .agg #[.int .i64 a, .int .i64 b]] w fun e w' => e = .returned (.tuple #[.int .i64 (needV y a b), .int .i64 (needErr y a b)]) ∧ Below w.heap.size w w' := by
  by_cases he : yardErr y = 0
  · have hy := yardErr_zero he
    cases hw : okWin (a, b) with
    | true =>
      have e1 : needErr y a b = 0 := by unfold needErr; rw [if_neg (by simpa using he), if_pos hw]
      have e2 : needV y a b = need y a b := by unfold needV; rw [if_pos e1]
      rw [e1, e2]
      exact rNeed_yes v a b y w hv hy hw
    | false =>
      have e1 : needErr y a b = 3 := by unfold needErr; rw [if_neg (by simpa using he), if_neg (by rw [hw]; simp)]
      have e2 : needV y a b = 0 := by unfold needV; rw [if_neg (by rw [e1]; decide)]
      rw [e1, e2]
      exact rNeed_no v a b y w hv hy hw
  · have e1 : needErr y a b = yardErr y := by unfold needErr; rw [if_pos he]
    have e2 : needV y a b = 0 := by unfold needV; rw [if_neg (by rw [e1]; exact he)]
    rw [e1, e2]
    exact rNeed_err v a b y w hv hl he
theorem rFewest_all (v : Value) (y : YardD) (w : World) (hv : YardAt w v y) (hl : y.logs.length ≤ 1000000) :
    Calls Try.prog 26 #[v] w fun e w' => e = .returned (.tuple #[.int .i64 (fewV y), .int .i64 (yardErr y)]) ∧ Below w.heap.size w w' := by
  by_cases he : yardErr y = 0
  · have hy := yardErr_zero he
    rw [show fewV y = U y 101 from if_pos he, he]
    exact rFewest_ok v y w hv hy
  · rw [show fewV y = 0 from if_neg he]
    exact rFewest_err v y w hv hl he
theorem rCheckProof_all (v wv : Value) (y : YardD) (ws : List (Int × Int)) (w : World) (hv : YardAt w v y) (hl : y.logs.length ≤ 1000000) (hw : PairsAt w wv ws) :
    Calls Try.prog 28 #[v, wv] w fun e w' => e = .returned (.tuple #[.int .i64 (proofV y ws), .int .i64 (proofErr y ws)]) ∧ Below w.heap.size w w' := by
  by_cases he : yardErr y = 0
  · have hy := yardErr_zero he
    exact rCheckProof_ok v wv y ws w hv hy hw
  · have e1 : proofErr y ws = yardErr y := by unfold proofErr; rw [if_pos he]
    rw [proofV_no (by rw [e1]; exact he), e1]
    exact rCheckProof_err v wv y w hv hl he
theorem rEarly_all (v : Value) (y : YardD) (w : World) (hv : YardAt w v y) (hl : y.logs.length ≤ 1000000) :
    Calls Try.prog 32 #[v] w fun e w' => ∃ v', e = .returned (.tuple #[v', .int .i64 (yardErr y)]) ∧ IntsAt w' v' (earlyE y) ∧ Below w.heap.size w w' := by
  by_cases he : yardErr y = 0
  · have hy := yardErr_zero he
    rw [show earlyE y = earlyL y from if_pos he, he]
    exact rEarly_ok v y w hv hy
  · rw [show earlyE y = [] from if_neg he]
    exact (rEarly_err v y w hv hl he).mono fun e w' ⟨h1, h2⟩ => ⟨_, h1, ints_nil _, h2⟩
theorem rLate_all (v : Value) (y : YardD) (w : World) (hv : YardAt w v y) (hl : y.logs.length ≤ 1000000) :
    Calls Try.prog 34 #[v] w fun e w' => ∃ v', e = .returned (.tuple #[v', .int .i64 (yardErr y)]) ∧ IntsAt w' v' (lateE y) ∧ Below w.heap.size w w' := by
  by_cases he : yardErr y = 0
  · have hy := yardErr_zero he
    rw [show lateE y = lateL y from if_pos he, he]
    exact rLate_ok v y w hv hy
  · rw [show lateE y = [] from if_neg he]
    exact (rLate_err v y w hv hl he).mono fun e w' ⟨h1, h2⟩ => ⟨_, h1, ints_nil _, h2⟩
theorem rKeep_all (v : Value) (loads : Int) (y : YardD) (w : World) (hv : YardAt w v y) (hl : y.logs.length ≤ 1000000) :
    Calls Try.prog 37 #[v, .int .i64 loads] w fun e w' => ∃ v', e = .returned (.tuple #[v', .int .i64 (keepErr y loads)]) ∧ IntsAt w' v' (keepE y loads) ∧ Below w.heap.size w w' := by
  by_cases he : yardErr y = 0
  · have hy := yardErr_zero he
    by_cases hw : 0 ≤ loads ∧ loads ≤ 10
    · have e1 : keepErr y loads = 0 := by unfold keepErr; rw [if_neg (by simpa using he), if_pos hw]
      rw [show keepE y loads = _ from if_pos e1, e1]
      exact rKeep_yes v loads y w hv hy hw.1 hw.2
    · have e1 : keepErr y loads = 3 := by unfold keepErr; rw [if_neg (by simpa using he), if_neg hw]
      rw [show keepE y loads = [] from if_neg (by rw [e1]; decide), e1]
      exact (rKeep_no v loads y w hv hy (by omega)).mono fun e w' ⟨h1, h2⟩ => ⟨_, h1, ints_nil _, h2⟩
  · have e1 : keepErr y loads = yardErr y := by unfold keepErr; rw [if_pos he]
    rw [show keepE y loads = [] from if_neg (by rw [e1]; exact he), e1]
    exact (rKeep_err v loads y w hv hl he).mono fun e w' ⟨h1, h2⟩ => ⟨_, h1, ints_nil _, h2⟩
theorem Hours_all (v : Value) (y : YardD) (w : World) (hv : YardAt w v y) (hl : y.logs.length ≤ 1000000) :
    Calls Try.prog 29 #[v] w fun e w' => ∃ v' xs, e = .returned (.tuple #[v', .int .i64 (yardErr y)]) ∧ IntsAt w' v' xs ∧ (yardErr y ≠ 0 → xs = []) ∧ (yardErr y = 0 → hoursErr y xs = 0 ∧ hoursV y xs = U y 101 ∧ xs.length ≤ 10 ∧ fit xs y.logs) ∧ Below w.heap.size w w' := by
  by_cases he : yardErr y = 0
  · have hy := yardErr_zero he
    rw [he]
    refine (Hours_ok v y w hv hy).mono fun e w' ⟨v', xs, h1, h2, h3, h4, h5⟩ => ⟨v', xs, h1, h2, fun h => absurd rfl h, fun _ => ?_, h5⟩
    obtain ⟨g1, g2⟩ := hours_of hy h3
    have := fit_length h3
    have := hy.count
    exact ⟨g1, g2.trans h4, by omega, h3⟩
  · exact (Hours_err v y w hv hl he).mono fun e w' ⟨h1, h2⟩ => ⟨_, [], h1, ints_nil _, fun _ => rfl, fun h => absurd h he, h2⟩
theorem Proof_all (v : Value) (y : YardD) (w : World) (hv : YardAt w v y) (hl : y.logs.length ≤ 1000000) :
    Calls Try.prog 30 #[v] w fun e w' => ∃ v', e = .returned (.tuple #[v', .int .i64 (yardErr y)]) ∧ PairsAt w' v' (proofE y) ∧ Below w.heap.size w w' := by
  by_cases he : yardErr y = 0
  · have hy := yardErr_zero he
    rw [show proofE y = proofL y from if_pos he, he]
    exact Proof_ok v y w hv hy
  · rw [show proofE y = [] from if_neg he]
    exact (Proof_err v y w hv hl he).mono fun e w' ⟨h1, h2⟩ => ⟨_, h1, pairs_nil _, h2⟩
theorem earlyE_len (y : YardD) : (earlyE y).length ≤ 10 := by
  unfold earlyE
  split
  · rename_i h
    have hy := yardErr_zero h
    have h1 := earlyL_length hy
    have h2 := U_len hy 101
    have h3 := hy.count
    omega
  · simp
theorem lateE_len (y : YardD) : (lateE y).length ≤ 10 := by
  unfold lateE
  split
  · rename_i h
    exact lateL_short (yardErr_zero h)
  · simp
theorem keepE_len (y : YardD) (loads : Int) : (keepE y loads).length ≤ 10 := by
  unfold keepE
  split
  · rename_i h
    have hy : y.Ok := yardErr_zero (by
      unfold keepErr at h
      split at h
      · contradiction
      · rename_i h2; exact Classical.not_not.1 h2)
    have h1 := lng_len (ok := okK y loads) (N := y.logs.length) y.logs.length [] [] (by simp) (by simp)
    have h2 := hy.count
    rw [List.length_map]
    show (lng (okK y loads) y.logs.length y.logs.length [] []).length ≤ 10
    omega
  · simp
end Go.Proofs.Ytjbeoakikdkdaaa
