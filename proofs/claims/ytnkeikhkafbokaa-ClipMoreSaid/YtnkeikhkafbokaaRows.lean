/-
  No cell of these rows narrows 'for every input' (looked for: loops, veiled, ifaces, maps, wideKeys, modest, calm, conditions, laid).
  DERIVED. THE GIVEN ROWS OF THIS SEAT. 13 by the template 'for every input the law returns true; each argument reads behind the call as it read before'; 0 by the template 'total and deterministic' (their statements: YtnkeikhkafbokaaTotals.lean).
  GIVEN WITH THE SEED: the statements are not yours to turn. If you find one false, say at which input.
  Laid BY PROGRAM, IN A SANDBOX (cutbox-rows.mjs): the forced cells as the released guide's own fill.sh prints them over the translation b627bc617a229ffc… (all of the seat's roots in one cut). By AI agents, Wed Nov 11 2026. No macro, syntax, notation, axiom, sorry.
-/
import Derived.Test.YtnkeikhkafbokaaChecked
import GoSem.Claim
import GoSem.ClaimJoined
import GoSem.ClaimMapViews
import Derived.JoinedTies
import Derived.KernelRfl
namespace Go.Proofs.Ytnkeikhkafbokaa
/- THE CELL 'sum', in the pinned program and in every row, IS THE sha256 OF THE DUMP (.gsa) THAT YtnkeikhkafbokaaProg.lean LOADS. Nothing in Lean hashes anything: it is a label: what it is worth is what the hold of that sum in a sandbox is worth. -/
noncomputable def Try.pinned : Pinned := { name := "ytnkeikhkafbokaa", sum := "b627bc617a229ffc345a68937303e97db0e12b278d0558c3ad36ed49453185ca", checked := Try.checked }
namespace Rows
def none {H : Type} : Left H := { results := [], args := [] }

/-- 'crossbandlaw02.ClipRibbons': WHATEVER THE INPUT: true; the input reads as it did. -/
def clipRibbonsSpec : ChangeSpec := { name := "clipRibbons", fn := fun _ => fun
  | [d1, d2, d3] => { results := [.lit (.bool true)], args := [d1, d2, d3] }
  | _ => none }
def clipRibbonsRow : OpenClaim := { program := "ytnkeikhkafbokaa", sum := "b627bc617a229ffc345a68937303e97db0e12b278d0558c3ad36ed49453185ca", func := "crossband/crossbandlaw02.ClipRibbons", spec := "clipRibbons", unfollowed := true, recurses := true, plainKeys := false, apart := false }
def ClipRibbonsSaid : Prop := clipRibbonsRow.holds Try.pinned (OpenSpec.ofChange clipRibbonsSpec)

/-- ITS FALSE NEIGHBOUR: 'it returns false'. Refute it at one input. -/
def clipRibbonsWrong : ChangeSpec := { name := "clipRibbons", fn := fun _ => fun
  | [d1, d2, d3] => { results := [.lit (.bool false)], args := [d1, d2, d3] }
  | _ => none }
def ClipRibbonsWrongFalsely : Prop := clipRibbonsRow.holds Try.pinned (OpenSpec.ofChange clipRibbonsWrong)

/-- 'crossbandlaw02.ClipBests': WHATEVER THE INPUT: true; the input reads as it did. -/
def clipBestsSpec : ChangeSpec := { name := "clipBests", fn := fun _ => fun
  | [d1, d2] => { results := [.lit (.bool true)], args := [d1, d2] }
  | _ => none }
def clipBestsRow : OpenClaim := { program := "ytnkeikhkafbokaa", sum := "b627bc617a229ffc345a68937303e97db0e12b278d0558c3ad36ed49453185ca", func := "crossband/crossbandlaw02.ClipBests", spec := "clipBests", unfollowed := true, recurses := true, plainKeys := false, apart := false }
def ClipBestsSaid : Prop := clipBestsRow.holds Try.pinned (OpenSpec.ofChange clipBestsSpec)

/-- ITS FALSE NEIGHBOUR: 'it returns false'. Refute it at one input. -/
def clipBestsWrong : ChangeSpec := { name := "clipBests", fn := fun _ => fun
  | [d1, d2] => { results := [.lit (.bool false)], args := [d1, d2] }
  | _ => none }
def ClipBestsWrongFalsely : Prop := clipBestsRow.holds Try.pinned (OpenSpec.ofChange clipBestsWrong)

/-- 'crossbandlaw02.ClipPrices': WHATEVER THE INPUT: true; the input reads as it did. -/
def clipPricesSpec : ChangeSpec := { name := "clipPrices", fn := fun _ => fun
  | [d1, d2, d3] => { results := [.lit (.bool true)], args := [d1, d2, d3] }
  | _ => none }
def clipPricesRow : OpenClaim := { program := "ytnkeikhkafbokaa", sum := "b627bc617a229ffc345a68937303e97db0e12b278d0558c3ad36ed49453185ca", func := "crossband/crossbandlaw02.ClipPrices", spec := "clipPrices", unfollowed := true, recurses := true, plainKeys := false, apart := false }
def ClipPricesSaid : Prop := clipPricesRow.holds Try.pinned (OpenSpec.ofChange clipPricesSpec)

/-- ITS FALSE NEIGHBOUR: 'it returns false'. Refute it at one input. -/
def clipPricesWrong : ChangeSpec := { name := "clipPrices", fn := fun _ => fun
  | [d1, d2, d3] => { results := [.lit (.bool false)], args := [d1, d2, d3] }
  | _ => none }
def ClipPricesWrongFalsely : Prop := clipPricesRow.holds Try.pinned (OpenSpec.ofChange clipPricesWrong)

/-- 'crossbandlaw02.ClipParts': WHATEVER THE INPUT: true; the input reads as it did. -/
def clipPartsSpec : ChangeSpec := { name := "clipParts", fn := fun _ => fun
  | [d1, d2, d3, d4] => { results := [.lit (.bool true)], args := [d1, d2, d3, d4] }
  | _ => none }
def clipPartsRow : OpenClaim := { program := "ytnkeikhkafbokaa", sum := "b627bc617a229ffc345a68937303e97db0e12b278d0558c3ad36ed49453185ca", func := "crossband/crossbandlaw02.ClipParts", spec := "clipParts", unfollowed := true, recurses := true, plainKeys := false, apart := false }
def ClipPartsSaid : Prop := clipPartsRow.holds Try.pinned (OpenSpec.ofChange clipPartsSpec)

/-- ITS FALSE NEIGHBOUR: 'it returns false'. Refute it at one input. -/
def clipPartsWrong : ChangeSpec := { name := "clipParts", fn := fun _ => fun
  | [d1, d2, d3, d4] => { results := [.lit (.bool false)], args := [d1, d2, d3, d4] }
  | _ => none }
def ClipPartsWrongFalsely : Prop := clipPartsRow.holds Try.pinned (OpenSpec.ofChange clipPartsWrong)

/-- 'crossbandlaw02.ClipProved': WHATEVER THE INPUT: true; the input reads as it did. -/
def clipProvedSpec : ChangeSpec := { name := "clipProved", fn := fun _ => fun
  | [d1, d2, d3, d4] => { results := [.lit (.bool true)], args := [d1, d2, d3, d4] }
  | _ => none }
def clipProvedRow : OpenClaim := { program := "ytnkeikhkafbokaa", sum := "b627bc617a229ffc345a68937303e97db0e12b278d0558c3ad36ed49453185ca", func := "crossband/crossbandlaw02.ClipProved", spec := "clipProved", unfollowed := true, recurses := true, plainKeys := false, apart := false }
def ClipProvedSaid : Prop := clipProvedRow.holds Try.pinned (OpenSpec.ofChange clipProvedSpec)

/-- ITS FALSE NEIGHBOUR: 'it returns false'. Refute it at one input. -/
def clipProvedWrong : ChangeSpec := { name := "clipProved", fn := fun _ => fun
  | [d1, d2, d3, d4] => { results := [.lit (.bool false)], args := [d1, d2, d3, d4] }
  | _ => none }
def ClipProvedWrongFalsely : Prop := clipProvedRow.holds Try.pinned (OpenSpec.ofChange clipProvedWrong)

/-- 'crossbandlaw02.ClipFirst': WHATEVER THE INPUT: true; the input reads as it did. -/
def clipFirstSpec : ChangeSpec := { name := "clipFirst", fn := fun _ => fun
  | [d1, d2, d3] => { results := [.lit (.bool true)], args := [d1, d2, d3] }
  | _ => none }
def clipFirstRow : OpenClaim := { program := "ytnkeikhkafbokaa", sum := "b627bc617a229ffc345a68937303e97db0e12b278d0558c3ad36ed49453185ca", func := "crossband/crossbandlaw02.ClipFirst", spec := "clipFirst", unfollowed := true, recurses := true, plainKeys := false, apart := false }
def ClipFirstSaid : Prop := clipFirstRow.holds Try.pinned (OpenSpec.ofChange clipFirstSpec)

/-- ITS FALSE NEIGHBOUR: 'it returns false'. Refute it at one input. -/
def clipFirstWrong : ChangeSpec := { name := "clipFirst", fn := fun _ => fun
  | [d1, d2, d3] => { results := [.lit (.bool false)], args := [d1, d2, d3] }
  | _ => none }
def ClipFirstWrongFalsely : Prop := clipFirstRow.holds Try.pinned (OpenSpec.ofChange clipFirstWrong)

/-- 'crossbandlaw02.ClipTight': WHATEVER THE INPUT: true; the input reads as it did. -/
def clipTightSpec : ChangeSpec := { name := "clipTight", fn := fun _ => fun
  | [d1, d2, d3] => { results := [.lit (.bool true)], args := [d1, d2, d3] }
  | _ => none }
def clipTightRow : OpenClaim := { program := "ytnkeikhkafbokaa", sum := "b627bc617a229ffc345a68937303e97db0e12b278d0558c3ad36ed49453185ca", func := "crossband/crossbandlaw02.ClipTight", spec := "clipTight", unfollowed := true, recurses := true, plainKeys := false, apart := false }
def ClipTightSaid : Prop := clipTightRow.holds Try.pinned (OpenSpec.ofChange clipTightSpec)

/-- ITS FALSE NEIGHBOUR: 'it returns false'. Refute it at one input. -/
def clipTightWrong : ChangeSpec := { name := "clipTight", fn := fun _ => fun
  | [d1, d2, d3] => { results := [.lit (.bool false)], args := [d1, d2, d3] }
  | _ => none }
def ClipTightWrongFalsely : Prop := clipTightRow.holds Try.pinned (OpenSpec.ofChange clipTightWrong)

/-- 'crossbandlaw02.ClipParted': WHATEVER THE INPUT: true; the input reads as it did. -/
def clipPartedSpec : ChangeSpec := { name := "clipParted", fn := fun _ => fun
  | [d1, d2, d3, d4] => { results := [.lit (.bool true)], args := [d1, d2, d3, d4] }
  | _ => none }
def clipPartedRow : OpenClaim := { program := "ytnkeikhkafbokaa", sum := "b627bc617a229ffc345a68937303e97db0e12b278d0558c3ad36ed49453185ca", func := "crossband/crossbandlaw02.ClipParted", spec := "clipParted", unfollowed := true, recurses := true, plainKeys := false, apart := false }
def ClipPartedSaid : Prop := clipPartedRow.holds Try.pinned (OpenSpec.ofChange clipPartedSpec)

/-- ITS FALSE NEIGHBOUR: 'it returns false'. Refute it at one input. -/
def clipPartedWrong : ChangeSpec := { name := "clipParted", fn := fun _ => fun
  | [d1, d2, d3, d4] => { results := [.lit (.bool false)], args := [d1, d2, d3, d4] }
  | _ => none }
def ClipPartedWrongFalsely : Prop := clipPartedRow.holds Try.pinned (OpenSpec.ofChange clipPartedWrong)

/-- 'crossbandlaw02.ClipFaults': WHATEVER THE INPUT: true; the input reads as it did. -/
def clipFaultsSpec : ChangeSpec := { name := "clipFaults", fn := fun _ => fun
  | [d1, d2, d3, d4] => { results := [.lit (.bool true)], args := [d1, d2, d3, d4] }
  | _ => none }
def clipFaultsRow : OpenClaim := { program := "ytnkeikhkafbokaa", sum := "b627bc617a229ffc345a68937303e97db0e12b278d0558c3ad36ed49453185ca", func := "crossband/crossbandlaw02.ClipFaults", spec := "clipFaults", unfollowed := true, recurses := true, plainKeys := false, apart := false }
def ClipFaultsSaid : Prop := clipFaultsRow.holds Try.pinned (OpenSpec.ofChange clipFaultsSpec)

/-- ITS FALSE NEIGHBOUR: 'it returns false'. Refute it at one input. -/
def clipFaultsWrong : ChangeSpec := { name := "clipFaults", fn := fun _ => fun
  | [d1, d2, d3, d4] => { results := [.lit (.bool false)], args := [d1, d2, d3, d4] }
  | _ => none }
def ClipFaultsWrongFalsely : Prop := clipFaultsRow.holds Try.pinned (OpenSpec.ofChange clipFaultsWrong)

/-- 'crossbandlaw02.ClipBehind': WHATEVER THE INPUT: true; the input reads as it did. -/
def clipBehindSpec : ChangeSpec := { name := "clipBehind", fn := fun _ => fun
  | [d1, d2, d3] => { results := [.lit (.bool true)], args := [d1, d2, d3] }
  | _ => none }
def clipBehindRow : OpenClaim := { program := "ytnkeikhkafbokaa", sum := "b627bc617a229ffc345a68937303e97db0e12b278d0558c3ad36ed49453185ca", func := "crossband/crossbandlaw02.ClipBehind", spec := "clipBehind", unfollowed := true, recurses := true, plainKeys := false, apart := false }
def ClipBehindSaid : Prop := clipBehindRow.holds Try.pinned (OpenSpec.ofChange clipBehindSpec)

/-- ITS FALSE NEIGHBOUR: 'it returns false'. Refute it at one input. -/
def clipBehindWrong : ChangeSpec := { name := "clipBehind", fn := fun _ => fun
  | [d1, d2, d3] => { results := [.lit (.bool false)], args := [d1, d2, d3] }
  | _ => none }
def ClipBehindWrongFalsely : Prop := clipBehindRow.holds Try.pinned (OpenSpec.ofChange clipBehindWrong)

/-- 'crossbandlaw02.ClipMore': WHATEVER THE INPUT: true; the input reads as it did. -/
def clipMoreSpec : ChangeSpec := { name := "clipMore", fn := fun _ => fun
  | [d1, d2, d3, d4, d5] => { results := [.lit (.bool true)], args := [d1, d2, d3, d4, d5] }
  | _ => none }
def clipMoreRow : OpenClaim := { program := "ytnkeikhkafbokaa", sum := "b627bc617a229ffc345a68937303e97db0e12b278d0558c3ad36ed49453185ca", func := "crossband/crossbandlaw02.ClipMore", spec := "clipMore", unfollowed := true, recurses := true, plainKeys := false, apart := false }
def ClipMoreSaid : Prop := clipMoreRow.holds Try.pinned (OpenSpec.ofChange clipMoreSpec)

/-- ITS FALSE NEIGHBOUR: 'it returns false'. Refute it at one input. -/
def clipMoreWrong : ChangeSpec := { name := "clipMore", fn := fun _ => fun
  | [d1, d2, d3, d4, d5] => { results := [.lit (.bool false)], args := [d1, d2, d3, d4, d5] }
  | _ => none }
def ClipMoreWrongFalsely : Prop := clipMoreRow.holds Try.pinned (OpenSpec.ofChange clipMoreWrong)

/-- 'crossbandlaw02.ClipJoined': WHATEVER THE INPUT: true; the input reads as it did. -/
def clipJoinedSpec : ChangeSpec := { name := "clipJoined", fn := fun _ => fun
  | [d1, d2, d3] => { results := [.lit (.bool true)], args := [d1, d2, d3] }
  | _ => none }
def clipJoinedRow : OpenClaim := { program := "ytnkeikhkafbokaa", sum := "b627bc617a229ffc345a68937303e97db0e12b278d0558c3ad36ed49453185ca", func := "crossband/crossbandlaw02.ClipJoined", spec := "clipJoined", unfollowed := true, recurses := true, plainKeys := false, apart := false }
def ClipJoinedSaid : Prop := clipJoinedRow.holds Try.pinned (OpenSpec.ofChange clipJoinedSpec)

/-- ITS FALSE NEIGHBOUR: 'it returns false'. Refute it at one input. -/
def clipJoinedWrong : ChangeSpec := { name := "clipJoined", fn := fun _ => fun
  | [d1, d2, d3] => { results := [.lit (.bool false)], args := [d1, d2, d3] }
  | _ => none }
def ClipJoinedWrongFalsely : Prop := clipJoinedRow.holds Try.pinned (OpenSpec.ofChange clipJoinedWrong)

/-- 'crossbandlaw02.ClipKnown': WHATEVER THE INPUT: true; the input reads as it did. -/
def clipKnownSpec : ChangeSpec := { name := "clipKnown", fn := fun _ => fun
  | [] => { results := [.lit (.bool true)], args := [] }
  | _ => none }
def clipKnownRow : OpenClaim := { program := "ytnkeikhkafbokaa", sum := "b627bc617a229ffc345a68937303e97db0e12b278d0558c3ad36ed49453185ca", func := "crossband/crossbandlaw02.ClipKnown", spec := "clipKnown", unfollowed := true, recurses := true, plainKeys := false, apart := false }
def ClipKnownSaid : Prop := clipKnownRow.holds Try.pinned (OpenSpec.ofChange clipKnownSpec)

/-- ITS FALSE NEIGHBOUR: 'it returns false'. Refute it at one input. -/
def clipKnownWrong : ChangeSpec := { name := "clipKnown", fn := fun _ => fun
  | [] => { results := [.lit (.bool false)], args := [] }
  | _ => none }
def ClipKnownWrongFalsely : Prop := clipKnownRow.holds Try.pinned (OpenSpec.ofChange clipKnownWrong)

/- THE SECOND FORM. 'bulk': how many values and letters a reading holds, each counted each time it is reached (what is shared counts as often as it is met; a slice's spare places count too). A statement '..UptoSaid' is the law's where the arguments, and the package variables that the reading takes, are together of bulk at most 1048576: NARROWER than '..Said'. Prove '..Said' where nothing that the law and all that it calls make is longer than what came in: it says more and counts as full. Else prove '..UptoSaid'. A law counts once. -/
mutual
def uptoBulk {H : Type} : DataW H → Nat
  | .lit (.string bytes) => bytes.length + 1
  | .lit _ => 1
  | .nil => 1
  | .ptr d => uptoBulk d + 1
  | .slice elems spare => uptoBulkAll elems + uptoBulkAll spare + 1
  | .agg parts => uptoBulkAll parts + 1
  | .iface _ d => uptoBulk d + 1
  | .map entries => uptoBulkEntries entries + 1
  | .held _ => 1
def uptoBulkAll {H : Type} : List (DataW H) → Nat
  | [] => 0
  | d :: r => uptoBulk d + uptoBulkAll r
def uptoBulkEntries {H : Type} : List (Lit × DataW H) → Nat
  | [] => 0
  | x :: r => uptoBulkEntry x + uptoBulkEntries r
def uptoBulkEntry {H : Type} : Lit × DataW H → Nat
  | (.string bytes, d) => bytes.length + uptoBulk d + 1
  | (_, d) => uptoBulk d + 1
 end
def uptoSmall : (H : Type) → List (DataW H) → Bool := fun _ ds => decide (uptoBulkAll ds ≤ 1048576)
def OpenSpec.upto (s : _root_.Go.ChangeSpec) : _root_.Go.OpenSpec := { _root_.Go.OpenSpec.ofChange s with cond := some uptoSmall }

/-- 'crossbandlaw02.ClipRibbons', WHERE WHAT IT READS IS OF BULK AT MOST 1048576: true; the input reads as it did. -/
def clipRibbonsUptoRow : OpenClaim := { program := "ytnkeikhkafbokaa", sum := "b627bc617a229ffc345a68937303e97db0e12b278d0558c3ad36ed49453185ca", func := "crossband/crossbandlaw02.ClipRibbons", spec := "clipRibbons", unfollowed := true, recurses := true, plainKeys := false, apart := false, narrowed := true }
def ClipRibbonsUptoSaid : Prop := clipRibbonsUptoRow.holds Try.pinned (OpenSpec.upto clipRibbonsSpec)

/-- 'crossbandlaw02.ClipBests', WHERE WHAT IT READS IS OF BULK AT MOST 1048576: true; the input reads as it did. -/
def clipBestsUptoRow : OpenClaim := { program := "ytnkeikhkafbokaa", sum := "b627bc617a229ffc345a68937303e97db0e12b278d0558c3ad36ed49453185ca", func := "crossband/crossbandlaw02.ClipBests", spec := "clipBests", unfollowed := true, recurses := true, plainKeys := false, apart := false, narrowed := true }
def ClipBestsUptoSaid : Prop := clipBestsUptoRow.holds Try.pinned (OpenSpec.upto clipBestsSpec)

/-- 'crossbandlaw02.ClipPrices', WHERE WHAT IT READS IS OF BULK AT MOST 1048576: true; the input reads as it did. -/
def clipPricesUptoRow : OpenClaim := { program := "ytnkeikhkafbokaa", sum := "b627bc617a229ffc345a68937303e97db0e12b278d0558c3ad36ed49453185ca", func := "crossband/crossbandlaw02.ClipPrices", spec := "clipPrices", unfollowed := true, recurses := true, plainKeys := false, apart := false, narrowed := true }
def ClipPricesUptoSaid : Prop := clipPricesUptoRow.holds Try.pinned (OpenSpec.upto clipPricesSpec)

/-- 'crossbandlaw02.ClipParts', WHERE WHAT IT READS IS OF BULK AT MOST 1048576: true; the input reads as it did. -/
def clipPartsUptoRow : OpenClaim := { program := "ytnkeikhkafbokaa", sum := "b627bc617a229ffc345a68937303e97db0e12b278d0558c3ad36ed49453185ca", func := "crossband/crossbandlaw02.ClipParts", spec := "clipParts", unfollowed := true, recurses := true, plainKeys := false, apart := false, narrowed := true }
def ClipPartsUptoSaid : Prop := clipPartsUptoRow.holds Try.pinned (OpenSpec.upto clipPartsSpec)

/-- 'crossbandlaw02.ClipProved', WHERE WHAT IT READS IS OF BULK AT MOST 1048576: true; the input reads as it did. -/
def clipProvedUptoRow : OpenClaim := { program := "ytnkeikhkafbokaa", sum := "b627bc617a229ffc345a68937303e97db0e12b278d0558c3ad36ed49453185ca", func := "crossband/crossbandlaw02.ClipProved", spec := "clipProved", unfollowed := true, recurses := true, plainKeys := false, apart := false, narrowed := true }
def ClipProvedUptoSaid : Prop := clipProvedUptoRow.holds Try.pinned (OpenSpec.upto clipProvedSpec)

/-- 'crossbandlaw02.ClipFirst', WHERE WHAT IT READS IS OF BULK AT MOST 1048576: true; the input reads as it did. -/
def clipFirstUptoRow : OpenClaim := { program := "ytnkeikhkafbokaa", sum := "b627bc617a229ffc345a68937303e97db0e12b278d0558c3ad36ed49453185ca", func := "crossband/crossbandlaw02.ClipFirst", spec := "clipFirst", unfollowed := true, recurses := true, plainKeys := false, apart := false, narrowed := true }
def ClipFirstUptoSaid : Prop := clipFirstUptoRow.holds Try.pinned (OpenSpec.upto clipFirstSpec)

/-- 'crossbandlaw02.ClipTight', WHERE WHAT IT READS IS OF BULK AT MOST 1048576: true; the input reads as it did. -/
def clipTightUptoRow : OpenClaim := { program := "ytnkeikhkafbokaa", sum := "b627bc617a229ffc345a68937303e97db0e12b278d0558c3ad36ed49453185ca", func := "crossband/crossbandlaw02.ClipTight", spec := "clipTight", unfollowed := true, recurses := true, plainKeys := false, apart := false, narrowed := true }
def ClipTightUptoSaid : Prop := clipTightUptoRow.holds Try.pinned (OpenSpec.upto clipTightSpec)

/-- 'crossbandlaw02.ClipParted', WHERE WHAT IT READS IS OF BULK AT MOST 1048576: true; the input reads as it did. -/
def clipPartedUptoRow : OpenClaim := { program := "ytnkeikhkafbokaa", sum := "b627bc617a229ffc345a68937303e97db0e12b278d0558c3ad36ed49453185ca", func := "crossband/crossbandlaw02.ClipParted", spec := "clipParted", unfollowed := true, recurses := true, plainKeys := false, apart := false, narrowed := true }
def ClipPartedUptoSaid : Prop := clipPartedUptoRow.holds Try.pinned (OpenSpec.upto clipPartedSpec)

/-- 'crossbandlaw02.ClipFaults', WHERE WHAT IT READS IS OF BULK AT MOST 1048576: true; the input reads as it did. -/
def clipFaultsUptoRow : OpenClaim := { program := "ytnkeikhkafbokaa", sum := "b627bc617a229ffc345a68937303e97db0e12b278d0558c3ad36ed49453185ca", func := "crossband/crossbandlaw02.ClipFaults", spec := "clipFaults", unfollowed := true, recurses := true, plainKeys := false, apart := false, narrowed := true }
def ClipFaultsUptoSaid : Prop := clipFaultsUptoRow.holds Try.pinned (OpenSpec.upto clipFaultsSpec)

/-- 'crossbandlaw02.ClipBehind', WHERE WHAT IT READS IS OF BULK AT MOST 1048576: true; the input reads as it did. -/
def clipBehindUptoRow : OpenClaim := { program := "ytnkeikhkafbokaa", sum := "b627bc617a229ffc345a68937303e97db0e12b278d0558c3ad36ed49453185ca", func := "crossband/crossbandlaw02.ClipBehind", spec := "clipBehind", unfollowed := true, recurses := true, plainKeys := false, apart := false, narrowed := true }
def ClipBehindUptoSaid : Prop := clipBehindUptoRow.holds Try.pinned (OpenSpec.upto clipBehindSpec)

/-- 'crossbandlaw02.ClipMore', WHERE WHAT IT READS IS OF BULK AT MOST 1048576: true; the input reads as it did. -/
def clipMoreUptoRow : OpenClaim := { program := "ytnkeikhkafbokaa", sum := "b627bc617a229ffc345a68937303e97db0e12b278d0558c3ad36ed49453185ca", func := "crossband/crossbandlaw02.ClipMore", spec := "clipMore", unfollowed := true, recurses := true, plainKeys := false, apart := false, narrowed := true }
def ClipMoreUptoSaid : Prop := clipMoreUptoRow.holds Try.pinned (OpenSpec.upto clipMoreSpec)

/-- 'crossbandlaw02.ClipJoined', WHERE WHAT IT READS IS OF BULK AT MOST 1048576: true; the input reads as it did. -/
def clipJoinedUptoRow : OpenClaim := { program := "ytnkeikhkafbokaa", sum := "b627bc617a229ffc345a68937303e97db0e12b278d0558c3ad36ed49453185ca", func := "crossband/crossbandlaw02.ClipJoined", spec := "clipJoined", unfollowed := true, recurses := true, plainKeys := false, apart := false, narrowed := true }
def ClipJoinedUptoSaid : Prop := clipJoinedUptoRow.holds Try.pinned (OpenSpec.upto clipJoinedSpec)

/-- 'crossbandlaw02.ClipKnown', WHERE WHAT IT READS IS OF BULK AT MOST 1048576: true; the input reads as it did. -/
def clipKnownUptoRow : OpenClaim := { program := "ytnkeikhkafbokaa", sum := "b627bc617a229ffc345a68937303e97db0e12b278d0558c3ad36ed49453185ca", func := "crossband/crossbandlaw02.ClipKnown", spec := "clipKnown", unfollowed := true, recurses := true, plainKeys := false, apart := false, narrowed := true }
def ClipKnownUptoSaid : Prop := clipKnownUptoRow.holds Try.pinned (OpenSpec.upto clipKnownSpec)

end Rows
end Go.Proofs.Ytnkeikhkafbokaa
