/-
  NARROWER THAN 'FOR EVERY INPUT', by the rows' own cells (each row's printed sentence says how): PeelLogs: laid · PeelBests: laid · PeelProofs: laid · PeelHeights: laid · PeelRoughs: laid · PeelProved: laid · PeelKept: laid · PeelNone: laid · PeelTurned: laid · PeelMoved: laid · PeelScaled: laid · PeelMore: laid · PeelTrue: laid · PeelStraight: laid · PeelKnown: laid.
  DERIVED. THE GIVEN ROWS OF THIS SEAT. 15 by the template 'for every input the law returns true; each argument reads behind the call as it read before'; 0 by the template 'total and deterministic' (their statements: YtlhldkiggmlegaaDoorTotals.lean).
  GIVEN WITH THE SEED: the statements are not yours to turn. If you find one false, say at which input.
  Laid BY PROGRAM, IN A SANDBOX (cutbox-rows.mjs): the forced cells as the released guide's own fill.sh prints them over the translation e5bd3cc32335af8c… (all of the seat's roots in one cut). By AI agents, Wed Nov 11 2026. No macro, syntax, notation, axiom, sorry.
-/
import Derived.Test.YtlhldkiggmlegaaDoorChecked
import GoSem.Claim
import GoSem.ClaimJoined
import GoSem.ClaimMapViews
import Derived.JoinedTies
import Derived.KernelRfl
namespace Go.Proofs.YtlhldkiggmlegaaDoor
/- THE CELL 'sum', in the pinned program and in every row, IS THE sha256 OF THE DUMP (.gsa) THAT YtlhldkiggmlegaaDoorProg.lean LOADS. Nothing in Lean hashes anything: it is a label: what it is worth is what the hold of that sum in a sandbox is worth. -/
noncomputable def Tryd.pinned : Pinned := { name := "ytlhldkiggmlegaadoor", sum := "e5bd3cc32335af8c34c9139d4065ddf7f1fea16013ae7d5710d28792be441389", checked := Tryd.checked }
namespace Rows
def none {H : Type} : Left H := { results := [], args := [] }

/- WHAT THE LISTED PACKAGE-LEVEL VARIABLES READ AS WHEN THE CALL BEGINS. Each datum BY PROGRAM (the guide's laid-datum.mjs) off the statement by which the dump's own 'gosem.cut.vars' lays the variable. In a bare row this is a premise. The card (YtlhldkiggmlegaaDoorCards.lean) ties it to the program's text. -/
def laid_crossband_peel_none {H : Type} : DataW H := .agg [.lit (.int .i64 (-1)), .lit (.int .i64 (-1)), .lit (.int .i64 (-1))]

/-- 'crossbandlaw01.PeelLogs': WHATEVER THE INPUT: true; the input reads as it did. -/
def peelLogsSpec : ChangeSpec := { name := "peelLogs", fn := fun _ => fun
  | [d1, d2] => { results := [.lit (.bool true)], args := [d1, d2] }
  | _ => none }
def peelLogsRow : OpenClaim := { program := "ytlhldkiggmlegaadoor", sum := "e5bd3cc32335af8c34c9139d4065ddf7f1fea16013ae7d5710d28792be441389", func := "crossband/crossbandlaw01.PeelLogs", spec := "peelLogs", unfollowed := true, recurses := true, named := ["crossband/peel.none"], plainKeys := false, apart := false, laid := [("crossband/peel.none", laid_crossband_peel_none)] }
def PeelLogsSaid : Prop := peelLogsRow.holds Tryd.pinned (OpenSpec.ofChange peelLogsSpec)

/-- ITS FALSE NEIGHBOUR: 'it returns false'. Refute it at one input. -/
def peelLogsWrong : ChangeSpec := { name := "peelLogs", fn := fun _ => fun
  | [d1, d2] => { results := [.lit (.bool false)], args := [d1, d2] }
  | _ => none }
def PeelLogsWrongFalsely : Prop := peelLogsRow.holds Tryd.pinned (OpenSpec.ofChange peelLogsWrong)

/-- 'crossbandlaw01.PeelBests': WHATEVER THE INPUT: true; the input reads as it did. -/
def peelBestsSpec : ChangeSpec := { name := "peelBests", fn := fun _ => fun
  | [d1, d2, d3] => { results := [.lit (.bool true)], args := [d1, d2, d3] }
  | _ => none }
def peelBestsRow : OpenClaim := { program := "ytlhldkiggmlegaadoor", sum := "e5bd3cc32335af8c34c9139d4065ddf7f1fea16013ae7d5710d28792be441389", func := "crossband/crossbandlaw01.PeelBests", spec := "peelBests", unfollowed := true, recurses := true, named := ["crossband/peel.none"], plainKeys := false, apart := false, laid := [("crossband/peel.none", laid_crossband_peel_none)] }
def PeelBestsSaid : Prop := peelBestsRow.holds Tryd.pinned (OpenSpec.ofChange peelBestsSpec)

/-- ITS FALSE NEIGHBOUR: 'it returns false'. Refute it at one input. -/
def peelBestsWrong : ChangeSpec := { name := "peelBests", fn := fun _ => fun
  | [d1, d2, d3] => { results := [.lit (.bool false)], args := [d1, d2, d3] }
  | _ => none }
def PeelBestsWrongFalsely : Prop := peelBestsRow.holds Tryd.pinned (OpenSpec.ofChange peelBestsWrong)

/-- 'crossbandlaw01.PeelProofs': WHATEVER THE INPUT: true; the input reads as it did. -/
def peelProofsSpec : ChangeSpec := { name := "peelProofs", fn := fun _ => fun
  | [d1, d2] => { results := [.lit (.bool true)], args := [d1, d2] }
  | _ => none }
def peelProofsRow : OpenClaim := { program := "ytlhldkiggmlegaadoor", sum := "e5bd3cc32335af8c34c9139d4065ddf7f1fea16013ae7d5710d28792be441389", func := "crossband/crossbandlaw01.PeelProofs", spec := "peelProofs", unfollowed := true, recurses := true, named := ["crossband/peel.none"], plainKeys := false, apart := false, laid := [("crossband/peel.none", laid_crossband_peel_none)] }
def PeelProofsSaid : Prop := peelProofsRow.holds Tryd.pinned (OpenSpec.ofChange peelProofsSpec)

/-- ITS FALSE NEIGHBOUR: 'it returns false'. Refute it at one input. -/
def peelProofsWrong : ChangeSpec := { name := "peelProofs", fn := fun _ => fun
  | [d1, d2] => { results := [.lit (.bool false)], args := [d1, d2] }
  | _ => none }
def PeelProofsWrongFalsely : Prop := peelProofsRow.holds Tryd.pinned (OpenSpec.ofChange peelProofsWrong)

/-- 'crossbandlaw01.PeelHeights': WHATEVER THE INPUT: true; the input reads as it did. -/
def peelHeightsSpec : ChangeSpec := { name := "peelHeights", fn := fun _ => fun
  | [d1, d2, d3] => { results := [.lit (.bool true)], args := [d1, d2, d3] }
  | _ => none }
def peelHeightsRow : OpenClaim := { program := "ytlhldkiggmlegaadoor", sum := "e5bd3cc32335af8c34c9139d4065ddf7f1fea16013ae7d5710d28792be441389", func := "crossband/crossbandlaw01.PeelHeights", spec := "peelHeights", unfollowed := true, recurses := true, named := ["crossband/peel.none"], plainKeys := false, apart := false, laid := [("crossband/peel.none", laid_crossband_peel_none)] }
def PeelHeightsSaid : Prop := peelHeightsRow.holds Tryd.pinned (OpenSpec.ofChange peelHeightsSpec)

/-- ITS FALSE NEIGHBOUR: 'it returns false'. Refute it at one input. -/
def peelHeightsWrong : ChangeSpec := { name := "peelHeights", fn := fun _ => fun
  | [d1, d2, d3] => { results := [.lit (.bool false)], args := [d1, d2, d3] }
  | _ => none }
def PeelHeightsWrongFalsely : Prop := peelHeightsRow.holds Tryd.pinned (OpenSpec.ofChange peelHeightsWrong)

/-- 'crossbandlaw01.PeelRoughs': WHATEVER THE INPUT: true; the input reads as it did. -/
def peelRoughsSpec : ChangeSpec := { name := "peelRoughs", fn := fun _ => fun
  | [d] => { results := [.lit (.bool true)], args := [d] }
  | _ => none }
def peelRoughsRow : OpenClaim := { program := "ytlhldkiggmlegaadoor", sum := "e5bd3cc32335af8c34c9139d4065ddf7f1fea16013ae7d5710d28792be441389", func := "crossband/crossbandlaw01.PeelRoughs", spec := "peelRoughs", unfollowed := true, recurses := true, named := ["crossband/peel.none"], plainKeys := false, apart := false, laid := [("crossband/peel.none", laid_crossband_peel_none)] }
def PeelRoughsSaid : Prop := peelRoughsRow.holds Tryd.pinned (OpenSpec.ofChange peelRoughsSpec)

/-- ITS FALSE NEIGHBOUR: 'it returns false'. Refute it at one input. -/
def peelRoughsWrong : ChangeSpec := { name := "peelRoughs", fn := fun _ => fun
  | [d] => { results := [.lit (.bool false)], args := [d] }
  | _ => none }
def PeelRoughsWrongFalsely : Prop := peelRoughsRow.holds Tryd.pinned (OpenSpec.ofChange peelRoughsWrong)

/-- 'crossbandlaw01.PeelProved': WHATEVER THE INPUT: true; the input reads as it did. -/
def peelProvedSpec : ChangeSpec := { name := "peelProved", fn := fun _ => fun
  | [d1, d2, d3, d4, d5, d6, d7] => { results := [.lit (.bool true)], args := [d1, d2, d3, d4, d5, d6, d7] }
  | _ => none }
def peelProvedRow : OpenClaim := { program := "ytlhldkiggmlegaadoor", sum := "e5bd3cc32335af8c34c9139d4065ddf7f1fea16013ae7d5710d28792be441389", func := "crossband/crossbandlaw01.PeelProved", spec := "peelProved", unfollowed := true, recurses := true, named := ["crossband/peel.none"], plainKeys := false, apart := false, laid := [("crossband/peel.none", laid_crossband_peel_none)] }
def PeelProvedSaid : Prop := peelProvedRow.holds Tryd.pinned (OpenSpec.ofChange peelProvedSpec)

/-- ITS FALSE NEIGHBOUR: 'it returns false'. Refute it at one input. -/
def peelProvedWrong : ChangeSpec := { name := "peelProved", fn := fun _ => fun
  | [d1, d2, d3, d4, d5, d6, d7] => { results := [.lit (.bool false)], args := [d1, d2, d3, d4, d5, d6, d7] }
  | _ => none }
def PeelProvedWrongFalsely : Prop := peelProvedRow.holds Tryd.pinned (OpenSpec.ofChange peelProvedWrong)

/-- 'crossbandlaw01.PeelKept': WHATEVER THE INPUT: true; the input reads as it did. -/
def peelKeptSpec : ChangeSpec := { name := "peelKept", fn := fun _ => fun
  | [d1, d2, d3, d4, d5, d6] => { results := [.lit (.bool true)], args := [d1, d2, d3, d4, d5, d6] }
  | _ => none }
def peelKeptRow : OpenClaim := { program := "ytlhldkiggmlegaadoor", sum := "e5bd3cc32335af8c34c9139d4065ddf7f1fea16013ae7d5710d28792be441389", func := "crossband/crossbandlaw01.PeelKept", spec := "peelKept", unfollowed := true, recurses := true, named := ["crossband/peel.none"], plainKeys := false, apart := false, laid := [("crossband/peel.none", laid_crossband_peel_none)] }
def PeelKeptSaid : Prop := peelKeptRow.holds Tryd.pinned (OpenSpec.ofChange peelKeptSpec)

/-- ITS FALSE NEIGHBOUR: 'it returns false'. Refute it at one input. -/
def peelKeptWrong : ChangeSpec := { name := "peelKept", fn := fun _ => fun
  | [d1, d2, d3, d4, d5, d6] => { results := [.lit (.bool false)], args := [d1, d2, d3, d4, d5, d6] }
  | _ => none }
def PeelKeptWrongFalsely : Prop := peelKeptRow.holds Tryd.pinned (OpenSpec.ofChange peelKeptWrong)

/-- 'crossbandlaw01.PeelNone': WHATEVER THE INPUT: true; the input reads as it did. -/
def peelNoneSpec : ChangeSpec := { name := "peelNone", fn := fun _ => fun
  | [d1, d2, d3, d4] => { results := [.lit (.bool true)], args := [d1, d2, d3, d4] }
  | _ => none }
def peelNoneRow : OpenClaim := { program := "ytlhldkiggmlegaadoor", sum := "e5bd3cc32335af8c34c9139d4065ddf7f1fea16013ae7d5710d28792be441389", func := "crossband/crossbandlaw01.PeelNone", spec := "peelNone", unfollowed := true, recurses := true, named := ["crossband/peel.none"], plainKeys := false, apart := false, laid := [("crossband/peel.none", laid_crossband_peel_none)] }
def PeelNoneSaid : Prop := peelNoneRow.holds Tryd.pinned (OpenSpec.ofChange peelNoneSpec)

/-- ITS FALSE NEIGHBOUR: 'it returns false'. Refute it at one input. -/
def peelNoneWrong : ChangeSpec := { name := "peelNone", fn := fun _ => fun
  | [d1, d2, d3, d4] => { results := [.lit (.bool false)], args := [d1, d2, d3, d4] }
  | _ => none }
def PeelNoneWrongFalsely : Prop := peelNoneRow.holds Tryd.pinned (OpenSpec.ofChange peelNoneWrong)

/-- 'crossbandlaw01.PeelTurned': WHATEVER THE INPUT: true; the input reads as it did. -/
def peelTurnedSpec : ChangeSpec := { name := "peelTurned", fn := fun _ => fun
  | [d1, d2, d3] => { results := [.lit (.bool true)], args := [d1, d2, d3] }
  | _ => none }
def peelTurnedRow : OpenClaim := { program := "ytlhldkiggmlegaadoor", sum := "e5bd3cc32335af8c34c9139d4065ddf7f1fea16013ae7d5710d28792be441389", func := "crossband/crossbandlaw01.PeelTurned", spec := "peelTurned", unfollowed := true, recurses := true, named := ["crossband/peel.none"], plainKeys := false, apart := false, laid := [("crossband/peel.none", laid_crossband_peel_none)] }
def PeelTurnedSaid : Prop := peelTurnedRow.holds Tryd.pinned (OpenSpec.ofChange peelTurnedSpec)

/-- ITS FALSE NEIGHBOUR: 'it returns false'. Refute it at one input. -/
def peelTurnedWrong : ChangeSpec := { name := "peelTurned", fn := fun _ => fun
  | [d1, d2, d3] => { results := [.lit (.bool false)], args := [d1, d2, d3] }
  | _ => none }
def PeelTurnedWrongFalsely : Prop := peelTurnedRow.holds Tryd.pinned (OpenSpec.ofChange peelTurnedWrong)

/-- 'crossbandlaw01.PeelMoved': WHATEVER THE INPUT: true; the input reads as it did. -/
def peelMovedSpec : ChangeSpec := { name := "peelMoved", fn := fun _ => fun
  | [d1, d2, d3] => { results := [.lit (.bool true)], args := [d1, d2, d3] }
  | _ => none }
def peelMovedRow : OpenClaim := { program := "ytlhldkiggmlegaadoor", sum := "e5bd3cc32335af8c34c9139d4065ddf7f1fea16013ae7d5710d28792be441389", func := "crossband/crossbandlaw01.PeelMoved", spec := "peelMoved", unfollowed := true, recurses := true, named := ["crossband/peel.none"], plainKeys := false, apart := false, laid := [("crossband/peel.none", laid_crossband_peel_none)] }
def PeelMovedSaid : Prop := peelMovedRow.holds Tryd.pinned (OpenSpec.ofChange peelMovedSpec)

/-- ITS FALSE NEIGHBOUR: 'it returns false'. Refute it at one input. -/
def peelMovedWrong : ChangeSpec := { name := "peelMoved", fn := fun _ => fun
  | [d1, d2, d3] => { results := [.lit (.bool false)], args := [d1, d2, d3] }
  | _ => none }
def PeelMovedWrongFalsely : Prop := peelMovedRow.holds Tryd.pinned (OpenSpec.ofChange peelMovedWrong)

/-- 'crossbandlaw01.PeelScaled': WHATEVER THE INPUT: true; the input reads as it did. -/
def peelScaledSpec : ChangeSpec := { name := "peelScaled", fn := fun _ => fun
  | [d1, d2, d3] => { results := [.lit (.bool true)], args := [d1, d2, d3] }
  | _ => none }
def peelScaledRow : OpenClaim := { program := "ytlhldkiggmlegaadoor", sum := "e5bd3cc32335af8c34c9139d4065ddf7f1fea16013ae7d5710d28792be441389", func := "crossband/crossbandlaw01.PeelScaled", spec := "peelScaled", unfollowed := true, recurses := true, named := ["crossband/peel.none"], plainKeys := false, apart := false, laid := [("crossband/peel.none", laid_crossband_peel_none)] }
def PeelScaledSaid : Prop := peelScaledRow.holds Tryd.pinned (OpenSpec.ofChange peelScaledSpec)

/-- ITS FALSE NEIGHBOUR: 'it returns false'. Refute it at one input. -/
def peelScaledWrong : ChangeSpec := { name := "peelScaled", fn := fun _ => fun
  | [d1, d2, d3] => { results := [.lit (.bool false)], args := [d1, d2, d3] }
  | _ => none }
def PeelScaledWrongFalsely : Prop := peelScaledRow.holds Tryd.pinned (OpenSpec.ofChange peelScaledWrong)

/-- 'crossbandlaw01.PeelMore': WHATEVER THE INPUT: true; the input reads as it did. -/
def peelMoreSpec : ChangeSpec := { name := "peelMore", fn := fun _ => fun
  | [d1, d2, d3] => { results := [.lit (.bool true)], args := [d1, d2, d3] }
  | _ => none }
def peelMoreRow : OpenClaim := { program := "ytlhldkiggmlegaadoor", sum := "e5bd3cc32335af8c34c9139d4065ddf7f1fea16013ae7d5710d28792be441389", func := "crossband/crossbandlaw01.PeelMore", spec := "peelMore", unfollowed := true, recurses := true, named := ["crossband/peel.none"], plainKeys := false, apart := false, laid := [("crossband/peel.none", laid_crossband_peel_none)] }
def PeelMoreSaid : Prop := peelMoreRow.holds Tryd.pinned (OpenSpec.ofChange peelMoreSpec)

/-- ITS FALSE NEIGHBOUR: 'it returns false'. Refute it at one input. -/
def peelMoreWrong : ChangeSpec := { name := "peelMore", fn := fun _ => fun
  | [d1, d2, d3] => { results := [.lit (.bool false)], args := [d1, d2, d3] }
  | _ => none }
def PeelMoreWrongFalsely : Prop := peelMoreRow.holds Tryd.pinned (OpenSpec.ofChange peelMoreWrong)

/-- 'crossbandlaw01.PeelTrue': WHATEVER THE INPUT: true; the input reads as it did. -/
def peelTrueSpec : ChangeSpec := { name := "peelTrue", fn := fun _ => fun
  | [d1, d2, d3] => { results := [.lit (.bool true)], args := [d1, d2, d3] }
  | _ => none }
def peelTrueRow : OpenClaim := { program := "ytlhldkiggmlegaadoor", sum := "e5bd3cc32335af8c34c9139d4065ddf7f1fea16013ae7d5710d28792be441389", func := "crossband/crossbandlaw01.PeelTrue", spec := "peelTrue", unfollowed := true, recurses := true, named := ["crossband/peel.none"], plainKeys := false, apart := false, laid := [("crossband/peel.none", laid_crossband_peel_none)] }
def PeelTrueSaid : Prop := peelTrueRow.holds Tryd.pinned (OpenSpec.ofChange peelTrueSpec)

/-- ITS FALSE NEIGHBOUR: 'it returns false'. Refute it at one input. -/
def peelTrueWrong : ChangeSpec := { name := "peelTrue", fn := fun _ => fun
  | [d1, d2, d3] => { results := [.lit (.bool false)], args := [d1, d2, d3] }
  | _ => none }
def PeelTrueWrongFalsely : Prop := peelTrueRow.holds Tryd.pinned (OpenSpec.ofChange peelTrueWrong)

/-- 'crossbandlaw01.PeelStraight': WHATEVER THE INPUT: true; the input reads as it did. -/
def peelStraightSpec : ChangeSpec := { name := "peelStraight", fn := fun _ => fun
  | [d1, d2, d3, d4, d5, d6, d7] => { results := [.lit (.bool true)], args := [d1, d2, d3, d4, d5, d6, d7] }
  | _ => none }
def peelStraightRow : OpenClaim := { program := "ytlhldkiggmlegaadoor", sum := "e5bd3cc32335af8c34c9139d4065ddf7f1fea16013ae7d5710d28792be441389", func := "crossband/crossbandlaw01.PeelStraight", spec := "peelStraight", unfollowed := true, recurses := true, named := ["crossband/peel.none"], plainKeys := false, apart := false, laid := [("crossband/peel.none", laid_crossband_peel_none)] }
def PeelStraightSaid : Prop := peelStraightRow.holds Tryd.pinned (OpenSpec.ofChange peelStraightSpec)

/-- ITS FALSE NEIGHBOUR: 'it returns false'. Refute it at one input. -/
def peelStraightWrong : ChangeSpec := { name := "peelStraight", fn := fun _ => fun
  | [d1, d2, d3, d4, d5, d6, d7] => { results := [.lit (.bool false)], args := [d1, d2, d3, d4, d5, d6, d7] }
  | _ => none }
def PeelStraightWrongFalsely : Prop := peelStraightRow.holds Tryd.pinned (OpenSpec.ofChange peelStraightWrong)

/-- 'crossbandlaw01.PeelKnown': WHATEVER THE INPUT: true; the input reads as it did. -/
def peelKnownSpec : ChangeSpec := { name := "peelKnown", fn := fun _ => fun
  | [] => { results := [.lit (.bool true)], args := [] }
  | _ => none }
def peelKnownRow : OpenClaim := { program := "ytlhldkiggmlegaadoor", sum := "e5bd3cc32335af8c34c9139d4065ddf7f1fea16013ae7d5710d28792be441389", func := "crossband/crossbandlaw01.PeelKnown", spec := "peelKnown", unfollowed := true, recurses := true, named := ["crossband/peel.none"], plainKeys := false, apart := false, laid := [("crossband/peel.none", laid_crossband_peel_none)] }
def PeelKnownSaid : Prop := peelKnownRow.holds Tryd.pinned (OpenSpec.ofChange peelKnownSpec)

/-- ITS FALSE NEIGHBOUR: 'it returns false'. Refute it at one input. -/
def peelKnownWrong : ChangeSpec := { name := "peelKnown", fn := fun _ => fun
  | [] => { results := [.lit (.bool false)], args := [] }
  | _ => none }
def PeelKnownWrongFalsely : Prop := peelKnownRow.holds Tryd.pinned (OpenSpec.ofChange peelKnownWrong)

/- THE SECOND FORM. 'bulk': how many values and letters a reading holds, each counted each time it is reached (what is shared counts as often as it is met; a slice's spare places count too). A statement '..UptoSaid' is the law's where the arguments, and the package variables that the reading takes, are together of bulk at most 1048576: NARROWER than '..Said'. Prove '..Said' where nothing that the law and all that it calls make is longer than what came in: it says more and counts as full. Else prove '..UptoSaid'. A law counts once. -/
mutual
def uptoBulk {H : Type} : DataW H → Nat
  | .lit (.string bytes) => bytes.length + 1
  | .lit _ => 1
  | .nil => 1
  | .ptr d => uptoBulk d + 1
  | .slice elems spare => uptoBulkAll elems + uptoBulkAll spare + 1
  | .agg parts => uptoBulkAll parts + 1
  | .iface _ d => uptoBulk d + 1
  | .map entries => uptoBulkEntries entries + 1
  | .held _ => 1
def uptoBulkAll {H : Type} : List (DataW H) → Nat
  | [] => 0
  | d :: r => uptoBulk d + uptoBulkAll r
def uptoBulkEntries {H : Type} : List (Lit × DataW H) → Nat
  | [] => 0
  | x :: r => uptoBulkEntry x + uptoBulkEntries r
def uptoBulkEntry {H : Type} : Lit × DataW H → Nat
  | (.string bytes, d) => bytes.length + uptoBulk d + 1
  | (_, d) => uptoBulk d + 1
 end
def uptoSmall : (H : Type) → List (DataW H) → Bool := fun _ ds => decide (uptoBulkAll ds ≤ 1048576)
def OpenSpec.upto (s : _root_.Go.ChangeSpec) : _root_.Go.OpenSpec := { _root_.Go.OpenSpec.ofChange s with cond := some uptoSmall }

/-- 'crossbandlaw01.PeelLogs', WHERE WHAT IT READS IS OF BULK AT MOST 1048576: true; the input reads as it did. -/
def peelLogsUptoRow : OpenClaim := { program := "ytlhldkiggmlegaadoor", sum := "e5bd3cc32335af8c34c9139d4065ddf7f1fea16013ae7d5710d28792be441389", func := "crossband/crossbandlaw01.PeelLogs", spec := "peelLogs", unfollowed := true, recurses := true, named := ["crossband/peel.none"], plainKeys := false, apart := false, laid := [("crossband/peel.none", laid_crossband_peel_none)], narrowed := true }
def PeelLogsUptoSaid : Prop := peelLogsUptoRow.holds Tryd.pinned (OpenSpec.upto peelLogsSpec)

/-- 'crossbandlaw01.PeelBests', WHERE WHAT IT READS IS OF BULK AT MOST 1048576: true; the input reads as it did. -/
def peelBestsUptoRow : OpenClaim := { program := "ytlhldkiggmlegaadoor", sum := "e5bd3cc32335af8c34c9139d4065ddf7f1fea16013ae7d5710d28792be441389", func := "crossband/crossbandlaw01.PeelBests", spec := "peelBests", unfollowed := true, recurses := true, named := ["crossband/peel.none"], plainKeys := false, apart := false, laid := [("crossband/peel.none", laid_crossband_peel_none)], narrowed := true }
def PeelBestsUptoSaid : Prop := peelBestsUptoRow.holds Tryd.pinned (OpenSpec.upto peelBestsSpec)

/-- 'crossbandlaw01.PeelProofs', WHERE WHAT IT READS IS OF BULK AT MOST 1048576: true; the input reads as it did. -/
def peelProofsUptoRow : OpenClaim := { program := "ytlhldkiggmlegaadoor", sum := "e5bd3cc32335af8c34c9139d4065ddf7f1fea16013ae7d5710d28792be441389", func := "crossband/crossbandlaw01.PeelProofs", spec := "peelProofs", unfollowed := true, recurses := true, named := ["crossband/peel.none"], plainKeys := false, apart := false, laid := [("crossband/peel.none", laid_crossband_peel_none)], narrowed := true }
def PeelProofsUptoSaid : Prop := peelProofsUptoRow.holds Tryd.pinned (OpenSpec.upto peelProofsSpec)

/-- 'crossbandlaw01.PeelHeights', WHERE WHAT IT READS IS OF BULK AT MOST 1048576: true; the input reads as it did. -/
def peelHeightsUptoRow : OpenClaim := { program := "ytlhldkiggmlegaadoor", sum := "e5bd3cc32335af8c34c9139d4065ddf7f1fea16013ae7d5710d28792be441389", func := "crossband/crossbandlaw01.PeelHeights", spec := "peelHeights", unfollowed := true, recurses := true, named := ["crossband/peel.none"], plainKeys := false, apart := false, laid := [("crossband/peel.none", laid_crossband_peel_none)], narrowed := true }
def PeelHeightsUptoSaid : Prop := peelHeightsUptoRow.holds Tryd.pinned (OpenSpec.upto peelHeightsSpec)

/-- 'crossbandlaw01.PeelRoughs', WHERE WHAT IT READS IS OF BULK AT MOST 1048576: true; the input reads as it did. -/
def peelRoughsUptoRow : OpenClaim := { program := "ytlhldkiggmlegaadoor", sum := "e5bd3cc32335af8c34c9139d4065ddf7f1fea16013ae7d5710d28792be441389", func := "crossband/crossbandlaw01.PeelRoughs", spec := "peelRoughs", unfollowed := true, recurses := true, named := ["crossband/peel.none"], plainKeys := false, apart := false, laid := [("crossband/peel.none", laid_crossband_peel_none)], narrowed := true }
def PeelRoughsUptoSaid : Prop := peelRoughsUptoRow.holds Tryd.pinned (OpenSpec.upto peelRoughsSpec)

/-- 'crossbandlaw01.PeelProved', WHERE WHAT IT READS IS OF BULK AT MOST 1048576: true; the input reads as it did. -/
def peelProvedUptoRow : OpenClaim := { program := "ytlhldkiggmlegaadoor", sum := "e5bd3cc32335af8c34c9139d4065ddf7f1fea16013ae7d5710d28792be441389", func := "crossband/crossbandlaw01.PeelProved", spec := "peelProved", unfollowed := true, recurses := true, named := ["crossband/peel.none"], plainKeys := false, apart := false, laid := [("crossband/peel.none", laid_crossband_peel_none)], narrowed := true }
def PeelProvedUptoSaid : Prop := peelProvedUptoRow.holds Tryd.pinned (OpenSpec.upto peelProvedSpec)

/-- 'crossbandlaw01.PeelKept', WHERE WHAT IT READS IS OF BULK AT MOST 1048576: true; the input reads as it did. -/
def peelKeptUptoRow : OpenClaim := { program := "ytlhldkiggmlegaadoor", sum := "e5bd3cc32335af8c34c9139d4065ddf7f1fea16013ae7d5710d28792be441389", func := "crossband/crossbandlaw01.PeelKept", spec := "peelKept", unfollowed := true, recurses := true, named := ["crossband/peel.none"], plainKeys := false, apart := false, laid := [("crossband/peel.none", laid_crossband_peel_none)], narrowed := true }
def PeelKeptUptoSaid : Prop := peelKeptUptoRow.holds Tryd.pinned (OpenSpec.upto peelKeptSpec)

/-- 'crossbandlaw01.PeelNone', WHERE WHAT IT READS IS OF BULK AT MOST 1048576: true; the input reads as it did. -/
def peelNoneUptoRow : OpenClaim := { program := "ytlhldkiggmlegaadoor", sum := "e5bd3cc32335af8c34c9139d4065ddf7f1fea16013ae7d5710d28792be441389", func := "crossband/crossbandlaw01.PeelNone", spec := "peelNone", unfollowed := true, recurses := true, named := ["crossband/peel.none"], plainKeys := false, apart := false, laid := [("crossband/peel.none", laid_crossband_peel_none)], narrowed := true }
def PeelNoneUptoSaid : Prop := peelNoneUptoRow.holds Tryd.pinned (OpenSpec.upto peelNoneSpec)

/-- 'crossbandlaw01.PeelTurned', WHERE WHAT IT READS IS OF BULK AT MOST 1048576: true; the input reads as it did. -/
def peelTurnedUptoRow : OpenClaim := { program := "ytlhldkiggmlegaadoor", sum := "e5bd3cc32335af8c34c9139d4065ddf7f1fea16013ae7d5710d28792be441389", func := "crossband/crossbandlaw01.PeelTurned", spec := "peelTurned", unfollowed := true, recurses := true, named := ["crossband/peel.none"], plainKeys := false, apart := false, laid := [("crossband/peel.none", laid_crossband_peel_none)], narrowed := true }
def PeelTurnedUptoSaid : Prop := peelTurnedUptoRow.holds Tryd.pinned (OpenSpec.upto peelTurnedSpec)

/-- 'crossbandlaw01.PeelMoved', WHERE WHAT IT READS IS OF BULK AT MOST 1048576: true; the input reads as it did. -/
def peelMovedUptoRow : OpenClaim := { program := "ytlhldkiggmlegaadoor", sum := "e5bd3cc32335af8c34c9139d4065ddf7f1fea16013ae7d5710d28792be441389", func := "crossband/crossbandlaw01.PeelMoved", spec := "peelMoved", unfollowed := true, recurses := true, named := ["crossband/peel.none"], plainKeys := false, apart := false, laid := [("crossband/peel.none", laid_crossband_peel_none)], narrowed := true }
def PeelMovedUptoSaid : Prop := peelMovedUptoRow.holds Tryd.pinned (OpenSpec.upto peelMovedSpec)

/-- 'crossbandlaw01.PeelScaled', WHERE WHAT IT READS IS OF BULK AT MOST 1048576: true; the input reads as it did. -/
def peelScaledUptoRow : OpenClaim := { program := "ytlhldkiggmlegaadoor", sum := "e5bd3cc32335af8c34c9139d4065ddf7f1fea16013ae7d5710d28792be441389", func := "crossband/crossbandlaw01.PeelScaled", spec := "peelScaled", unfollowed := true, recurses := true, named := ["crossband/peel.none"], plainKeys := false, apart := false, laid := [("crossband/peel.none", laid_crossband_peel_none)], narrowed := true }
def PeelScaledUptoSaid : Prop := peelScaledUptoRow.holds Tryd.pinned (OpenSpec.upto peelScaledSpec)

/-- 'crossbandlaw01.PeelMore', WHERE WHAT IT READS IS OF BULK AT MOST 1048576: true; the input reads as it did. -/
def peelMoreUptoRow : OpenClaim := { program := "ytlhldkiggmlegaadoor", sum := "e5bd3cc32335af8c34c9139d4065ddf7f1fea16013ae7d5710d28792be441389", func := "crossband/crossbandlaw01.PeelMore", spec := "peelMore", unfollowed := true, recurses := true, named := ["crossband/peel.none"], plainKeys := false, apart := false, laid := [("crossband/peel.none", laid_crossband_peel_none)], narrowed := true }
def PeelMoreUptoSaid : Prop := peelMoreUptoRow.holds Tryd.pinned (OpenSpec.upto peelMoreSpec)

/-- 'crossbandlaw01.PeelTrue', WHERE WHAT IT READS IS OF BULK AT MOST 1048576: true; the input reads as it did. -/
def peelTrueUptoRow : OpenClaim := { program := "ytlhldkiggmlegaadoor", sum := "e5bd3cc32335af8c34c9139d4065ddf7f1fea16013ae7d5710d28792be441389", func := "crossband/crossbandlaw01.PeelTrue", spec := "peelTrue", unfollowed := true, recurses := true, named := ["crossband/peel.none"], plainKeys := false, apart := false, laid := [("crossband/peel.none", laid_crossband_peel_none)], narrowed := true }
def PeelTrueUptoSaid : Prop := peelTrueUptoRow.holds Tryd.pinned (OpenSpec.upto peelTrueSpec)

/-- 'crossbandlaw01.PeelStraight', WHERE WHAT IT READS IS OF BULK AT MOST 1048576: true; the input reads as it did. -/
def peelStraightUptoRow : OpenClaim := { program := "ytlhldkiggmlegaadoor", sum := "e5bd3cc32335af8c34c9139d4065ddf7f1fea16013ae7d5710d28792be441389", func := "crossband/crossbandlaw01.PeelStraight", spec := "peelStraight", unfollowed := true, recurses := true, named := ["crossband/peel.none"], plainKeys := false, apart := false, laid := [("crossband/peel.none", laid_crossband_peel_none)], narrowed := true }
def PeelStraightUptoSaid : Prop := peelStraightUptoRow.holds Tryd.pinned (OpenSpec.upto peelStraightSpec)

/-- 'crossbandlaw01.PeelKnown', WHERE WHAT IT READS IS OF BULK AT MOST 1048576: true; the input reads as it did. -/
def peelKnownUptoRow : OpenClaim := { program := "ytlhldkiggmlegaadoor", sum := "e5bd3cc32335af8c34c9139d4065ddf7f1fea16013ae7d5710d28792be441389", func := "crossband/crossbandlaw01.PeelKnown", spec := "peelKnown", unfollowed := true, recurses := true, named := ["crossband/peel.none"], plainKeys := false, apart := false, laid := [("crossband/peel.none", laid_crossband_peel_none)], narrowed := true }
def PeelKnownUptoSaid : Prop := peelKnownUptoRow.holds Tryd.pinned (OpenSpec.upto peelKnownSpec)

end Rows
end Go.Proofs.YtlhldkiggmlegaaDoor
