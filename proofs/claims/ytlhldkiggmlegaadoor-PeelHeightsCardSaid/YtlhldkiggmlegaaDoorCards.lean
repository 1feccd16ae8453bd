/-
  DERIVED. GIVEN WITH THE SEED: THE CARDS: each row of YtlhldkiggmlegaaDoorRows.lean that lists a variable, with what it lists TIED to the program's text (the seventh form; the later family's looks); each row that meets fmt, with fmt's text TOLD by the authors' own Lean function (tested against real Go, not proved from fmt's source: count such statements apart). THE CARD IS WHAT COUNTS. Prove the row's statement (the work); the ties are given (YtlhldkiggmlegaaDoorTie.lean); close each card by the builder's one call (the guide's Derived/Test/ToyasCard.lean, 'card_holds'). Laid BY PROGRAM, IN A SANDBOX (cutbox-door.mjs). By AI agents, Wed Nov 11 2026. No macro, syntax, notation, axiom, sorry.
-/
import Derived.Test.YtlhldkiggmlegaaDoorRows
import GoSem.ClaimSeven
namespace Go.Proofs.YtlhldkiggmlegaaDoor
namespace Rows

/-- THE TIED CARD OF 'crossbandlaw01.PeelLogs'. -/
def peelLogsCard : Claim7 := { stood := { row := peelLogsRow, standIns := [], harness := (true, "eea77578588e93f8194d032e24c2d550ca4a880fee27378792455784f9005411"), looks := false }, kinds := [], alts := [], laidByText := true, laidKinds := [.data], laidTests := true, laidLooks := .later }
def PeelLogsCardSaid : Prop := Claim7.holds Tryd.pinned (.plain (OpenSpec.ofChange peelLogsSpec)) peelLogsCard

/-- THE TIED CARD OF 'crossbandlaw01.PeelBests'. -/
def peelBestsCard : Claim7 := { stood := { row := peelBestsRow, standIns := [], harness := (true, "eea77578588e93f8194d032e24c2d550ca4a880fee27378792455784f9005411"), looks := false }, kinds := [], alts := [], laidByText := true, laidKinds := [.data], laidTests := true, laidLooks := .later }
def PeelBestsCardSaid : Prop := Claim7.holds Tryd.pinned (.plain (OpenSpec.ofChange peelBestsSpec)) peelBestsCard

/-- THE TIED CARD OF 'crossbandlaw01.PeelProofs'. -/
def peelProofsCard : Claim7 := { stood := { row := peelProofsRow, standIns := [], harness := (true, "eea77578588e93f8194d032e24c2d550ca4a880fee27378792455784f9005411"), looks := false }, kinds := [], alts := [], laidByText := true, laidKinds := [.data], laidTests := true, laidLooks := .later }
def PeelProofsCardSaid : Prop := Claim7.holds Tryd.pinned (.plain (OpenSpec.ofChange peelProofsSpec)) peelProofsCard

/-- THE TIED CARD OF 'crossbandlaw01.PeelHeights'. -/
def peelHeightsCard : Claim7 := { stood := { row := peelHeightsRow, standIns := [], harness := (true, "eea77578588e93f8194d032e24c2d550ca4a880fee27378792455784f9005411"), looks := false }, kinds := [], alts := [], laidByText := true, laidKinds := [.data], laidTests := true, laidLooks := .later }
def PeelHeightsCardSaid : Prop := Claim7.holds Tryd.pinned (.plain (OpenSpec.ofChange peelHeightsSpec)) peelHeightsCard

/-- THE TIED CARD OF 'crossbandlaw01.PeelRoughs'. -/
def peelRoughsCard : Claim7 := { stood := { row := peelRoughsRow, standIns := [], harness := (true, "eea77578588e93f8194d032e24c2d550ca4a880fee27378792455784f9005411"), looks := false }, kinds := [], alts := [], laidByText := true, laidKinds := [.data], laidTests := true, laidLooks := .later }
def PeelRoughsCardSaid : Prop := Claim7.holds Tryd.pinned (.plain (OpenSpec.ofChange peelRoughsSpec)) peelRoughsCard

/-- THE TIED CARD OF 'crossbandlaw01.PeelProved'. -/
def peelProvedCard : Claim7 := { stood := { row := peelProvedRow, standIns := [], harness := (true, "eea77578588e93f8194d032e24c2d550ca4a880fee27378792455784f9005411"), looks := false }, kinds := [], alts := [], laidByText := true, laidKinds := [.data], laidTests := true, laidLooks := .later }
def PeelProvedCardSaid : Prop := Claim7.holds Tryd.pinned (.plain (OpenSpec.ofChange peelProvedSpec)) peelProvedCard

/-- THE TIED CARD OF 'crossbandlaw01.PeelKept'. -/
def peelKeptCard : Claim7 := { stood := { row := peelKeptRow, standIns := [], harness := (true, "eea77578588e93f8194d032e24c2d550ca4a880fee27378792455784f9005411"), looks := false }, kinds := [], alts := [], laidByText := true, laidKinds := [.data], laidTests := true, laidLooks := .later }
def PeelKeptCardSaid : Prop := Claim7.holds Tryd.pinned (.plain (OpenSpec.ofChange peelKeptSpec)) peelKeptCard

/-- THE TIED CARD OF 'crossbandlaw01.PeelNone'. -/
def peelNoneCard : Claim7 := { stood := { row := peelNoneRow, standIns := [], harness := (true, "eea77578588e93f8194d032e24c2d550ca4a880fee27378792455784f9005411"), looks := false }, kinds := [], alts := [], laidByText := true, laidKinds := [.data], laidTests := true, laidLooks := .later }
def PeelNoneCardSaid : Prop := Claim7.holds Tryd.pinned (.plain (OpenSpec.ofChange peelNoneSpec)) peelNoneCard

/-- THE TIED CARD OF 'crossbandlaw01.PeelTurned'. -/
def peelTurnedCard : Claim7 := { stood := { row := peelTurnedRow, standIns := [], harness := (true, "eea77578588e93f8194d032e24c2d550ca4a880fee27378792455784f9005411"), looks := false }, kinds := [], alts := [], laidByText := true, laidKinds := [.data], laidTests := true, laidLooks := .later }
def PeelTurnedCardSaid : Prop := Claim7.holds Tryd.pinned (.plain (OpenSpec.ofChange peelTurnedSpec)) peelTurnedCard

/-- THE TIED CARD OF 'crossbandlaw01.PeelMoved'. -/
def peelMovedCard : Claim7 := { stood := { row := peelMovedRow, standIns := [], harness := (true, "eea77578588e93f8194d032e24c2d550ca4a880fee27378792455784f9005411"), looks := false }, kinds := [], alts := [], laidByText := true, laidKinds := [.data], laidTests := true, laidLooks := .later }
def PeelMovedCardSaid : Prop := Claim7.holds Tryd.pinned (.plain (OpenSpec.ofChange peelMovedSpec)) peelMovedCard

/-- THE TIED CARD OF 'crossbandlaw01.PeelScaled'. -/
def peelScaledCard : Claim7 := { stood := { row := peelScaledRow, standIns := [], harness := (true, "eea77578588e93f8194d032e24c2d550ca4a880fee27378792455784f9005411"), looks := false }, kinds := [], alts := [], laidByText := true, laidKinds := [.data], laidTests := true, laidLooks := .later }
def PeelScaledCardSaid : Prop := Claim7.holds Tryd.pinned (.plain (OpenSpec.ofChange peelScaledSpec)) peelScaledCard

/-- THE TIED CARD OF 'crossbandlaw01.PeelMore'. -/
def peelMoreCard : Claim7 := { stood := { row := peelMoreRow, standIns := [], harness := (true, "eea77578588e93f8194d032e24c2d550ca4a880fee27378792455784f9005411"), looks := false }, kinds := [], alts := [], laidByText := true, laidKinds := [.data], laidTests := true, laidLooks := .later }
def PeelMoreCardSaid : Prop := Claim7.holds Tryd.pinned (.plain (OpenSpec.ofChange peelMoreSpec)) peelMoreCard

/-- THE TIED CARD OF 'crossbandlaw01.PeelTrue'. -/
def peelTrueCard : Claim7 := { stood := { row := peelTrueRow, standIns := [], harness := (true, "eea77578588e93f8194d032e24c2d550ca4a880fee27378792455784f9005411"), looks := false }, kinds := [], alts := [], laidByText := true, laidKinds := [.data], laidTests := true, laidLooks := .later }
def PeelTrueCardSaid : Prop := Claim7.holds Tryd.pinned (.plain (OpenSpec.ofChange peelTrueSpec)) peelTrueCard

/-- THE TIED CARD OF 'crossbandlaw01.PeelStraight'. -/
def peelStraightCard : Claim7 := { stood := { row := peelStraightRow, standIns := [], harness := (true, "eea77578588e93f8194d032e24c2d550ca4a880fee27378792455784f9005411"), looks := false }, kinds := [], alts := [], laidByText := true, laidKinds := [.data], laidTests := true, laidLooks := .later }
def PeelStraightCardSaid : Prop := Claim7.holds Tryd.pinned (.plain (OpenSpec.ofChange peelStraightSpec)) peelStraightCard

/-- THE TIED CARD OF 'crossbandlaw01.PeelKnown'. -/
def peelKnownCard : Claim7 := { stood := { row := peelKnownRow, standIns := [], harness := (true, "eea77578588e93f8194d032e24c2d550ca4a880fee27378792455784f9005411"), looks := false }, kinds := [], alts := [], laidByText := true, laidKinds := [.data], laidTests := true, laidLooks := .later }
def PeelKnownCardSaid : Prop := Claim7.holds Tryd.pinned (.plain (OpenSpec.ofChange peelKnownSpec)) peelKnownCard

/-- THE SECOND FORM's CARD OF 'crossbandlaw01.PeelLogs'. -/
def peelLogsUptoCard : Claim7 := { stood := { row := peelLogsUptoRow, standIns := [], harness := (true, "eea77578588e93f8194d032e24c2d550ca4a880fee27378792455784f9005411"), looks := false }, kinds := [], alts := [], laidByText := true, laidKinds := [.data], laidTests := true, laidLooks := .later }
def PeelLogsUptoCardSaid : Prop := Claim7.holds Tryd.pinned (.plain (OpenSpec.upto peelLogsSpec)) peelLogsUptoCard

/-- THE SECOND FORM's CARD OF 'crossbandlaw01.PeelBests'. -/
def peelBestsUptoCard : Claim7 := { stood := { row := peelBestsUptoRow, standIns := [], harness := (true, "eea77578588e93f8194d032e24c2d550ca4a880fee27378792455784f9005411"), looks := false }, kinds := [], alts := [], laidByText := true, laidKinds := [.data], laidTests := true, laidLooks := .later }
def PeelBestsUptoCardSaid : Prop := Claim7.holds Tryd.pinned (.plain (OpenSpec.upto peelBestsSpec)) peelBestsUptoCard

/-- THE SECOND FORM's CARD OF 'crossbandlaw01.PeelProofs'. -/
def peelProofsUptoCard : Claim7 := { stood := { row := peelProofsUptoRow, standIns := [], harness := (true, "eea77578588e93f8194d032e24c2d550ca4a880fee27378792455784f9005411"), looks := false }, kinds := [], alts := [], laidByText := true, laidKinds := [.data], laidTests := true, laidLooks := .later }
def PeelProofsUptoCardSaid : Prop := Claim7.holds Tryd.pinned (.plain (OpenSpec.upto peelProofsSpec)) peelProofsUptoCard

/-- THE SECOND FORM's CARD OF 'crossbandlaw01.PeelHeights'. -/
def peelHeightsUptoCard : Claim7 := { stood := { row := peelHeightsUptoRow, standIns := [], harness := (true, "eea77578588e93f8194d032e24c2d550ca4a880fee27378792455784f9005411"), looks := false }, kinds := [], alts := [], laidByText := true, laidKinds := [.data], laidTests := true, laidLooks := .later }
def PeelHeightsUptoCardSaid : Prop := Claim7.holds Tryd.pinned (.plain (OpenSpec.upto peelHeightsSpec)) peelHeightsUptoCard

/-- THE SECOND FORM's CARD OF 'crossbandlaw01.PeelRoughs'. -/
def peelRoughsUptoCard : Claim7 := { stood := { row := peelRoughsUptoRow, standIns := [], harness := (true, "eea77578588e93f8194d032e24c2d550ca4a880fee27378792455784f9005411"), looks := false }, kinds := [], alts := [], laidByText := true, laidKinds := [.data], laidTests := true, laidLooks := .later }
def PeelRoughsUptoCardSaid : Prop := Claim7.holds Tryd.pinned (.plain (OpenSpec.upto peelRoughsSpec)) peelRoughsUptoCard

/-- THE SECOND FORM's CARD OF 'crossbandlaw01.PeelProved'. -/
def peelProvedUptoCard : Claim7 := { stood := { row := peelProvedUptoRow, standIns := [], harness := (true, "eea77578588e93f8194d032e24c2d550ca4a880fee27378792455784f9005411"), looks := false }, kinds := [], alts := [], laidByText := true, laidKinds := [.data], laidTests := true, laidLooks := .later }
def PeelProvedUptoCardSaid : Prop := Claim7.holds Tryd.pinned (.plain (OpenSpec.upto peelProvedSpec)) peelProvedUptoCard

/-- THE SECOND FORM's CARD OF 'crossbandlaw01.PeelKept'. -/
def peelKeptUptoCard : Claim7 := { stood := { row := peelKeptUptoRow, standIns := [], harness := (true, "eea77578588e93f8194d032e24c2d550ca4a880fee27378792455784f9005411"), looks := false }, kinds := [], alts := [], laidByText := true, laidKinds := [.data], laidTests := true, laidLooks := .later }
def PeelKeptUptoCardSaid : Prop := Claim7.holds Tryd.pinned (.plain (OpenSpec.upto peelKeptSpec)) peelKeptUptoCard

/-- THE SECOND FORM's CARD OF 'crossbandlaw01.PeelNone'. -/
def peelNoneUptoCard : Claim7 := { stood := { row := peelNoneUptoRow, standIns := [], harness := (true, "eea77578588e93f8194d032e24c2d550ca4a880fee27378792455784f9005411"), looks := false }, kinds := [], alts := [], laidByText := true, laidKinds := [.data], laidTests := true, laidLooks := .later }
def PeelNoneUptoCardSaid : Prop := Claim7.holds Tryd.pinned (.plain (OpenSpec.upto peelNoneSpec)) peelNoneUptoCard

/-- THE SECOND FORM's CARD OF 'crossbandlaw01.PeelTurned'. -/
def peelTurnedUptoCard : Claim7 := { stood := { row := peelTurnedUptoRow, standIns := [], harness := (true, "eea77578588e93f8194d032e24c2d550ca4a880fee27378792455784f9005411"), looks := false }, kinds := [], alts := [], laidByText := true, laidKinds := [.data], laidTests := true, laidLooks := .later }
def PeelTurnedUptoCardSaid : Prop := Claim7.holds Tryd.pinned (.plain (OpenSpec.upto peelTurnedSpec)) peelTurnedUptoCard

/-- THE SECOND FORM's CARD OF 'crossbandlaw01.PeelMoved'. -/
def peelMovedUptoCard : Claim7 := { stood := { row := peelMovedUptoRow, standIns := [], harness := (true, "eea77578588e93f8194d032e24c2d550ca4a880fee27378792455784f9005411"), looks := false }, kinds := [], alts := [], laidByText := true, laidKinds := [.data], laidTests := true, laidLooks := .later }
def PeelMovedUptoCardSaid : Prop := Claim7.holds Tryd.pinned (.plain (OpenSpec.upto peelMovedSpec)) peelMovedUptoCard

/-- THE SECOND FORM's CARD OF 'crossbandlaw01.PeelScaled'. -/
def peelScaledUptoCard : Claim7 := { stood := { row := peelScaledUptoRow, standIns := [], harness := (true, "eea77578588e93f8194d032e24c2d550ca4a880fee27378792455784f9005411"), looks := false }, kinds := [], alts := [], laidByText := true, laidKinds := [.data], laidTests := true, laidLooks := .later }
def PeelScaledUptoCardSaid : Prop := Claim7.holds Tryd.pinned (.plain (OpenSpec.upto peelScaledSpec)) peelScaledUptoCard

/-- THE SECOND FORM's CARD OF 'crossbandlaw01.PeelMore'. -/
def peelMoreUptoCard : Claim7 := { stood := { row := peelMoreUptoRow, standIns := [], harness := (true, "eea77578588e93f8194d032e24c2d550ca4a880fee27378792455784f9005411"), looks := false }, kinds := [], alts := [], laidByText := true, laidKinds := [.data], laidTests := true, laidLooks := .later }
def PeelMoreUptoCardSaid : Prop := Claim7.holds Tryd.pinned (.plain (OpenSpec.upto peelMoreSpec)) peelMoreUptoCard

/-- THE SECOND FORM's CARD OF 'crossbandlaw01.PeelTrue'. -/
def peelTrueUptoCard : Claim7 := { stood := { row := peelTrueUptoRow, standIns := [], harness := (true, "eea77578588e93f8194d032e24c2d550ca4a880fee27378792455784f9005411"), looks := false }, kinds := [], alts := [], laidByText := true, laidKinds := [.data], laidTests := true, laidLooks := .later }
def PeelTrueUptoCardSaid : Prop := Claim7.holds Tryd.pinned (.plain (OpenSpec.upto peelTrueSpec)) peelTrueUptoCard

/-- THE SECOND FORM's CARD OF 'crossbandlaw01.PeelStraight'. -/
def peelStraightUptoCard : Claim7 := { stood := { row := peelStraightUptoRow, standIns := [], harness := (true, "eea77578588e93f8194d032e24c2d550ca4a880fee27378792455784f9005411"), looks := false }, kinds := [], alts := [], laidByText := true, laidKinds := [.data], laidTests := true, laidLooks := .later }
def PeelStraightUptoCardSaid : Prop := Claim7.holds Tryd.pinned (.plain (OpenSpec.upto peelStraightSpec)) peelStraightUptoCard

/-- THE SECOND FORM's CARD OF 'crossbandlaw01.PeelKnown'. -/
def peelKnownUptoCard : Claim7 := { stood := { row := peelKnownUptoRow, standIns := [], harness := (true, "eea77578588e93f8194d032e24c2d550ca4a880fee27378792455784f9005411"), looks := false }, kinds := [], alts := [], laidByText := true, laidKinds := [.data], laidTests := true, laidLooks := .later }
def PeelKnownUptoCardSaid : Prop := Claim7.holds Tryd.pinned (.plain (OpenSpec.upto peelKnownSpec)) peelKnownUptoCard
end Rows
end Go.Proofs.YtlhldkiggmlegaaDoor
