/-
  No cell of these rows narrows 'for every input' (looked for: loops, veiled, ifaces, maps, wideKeys, modest, calm, conditions, laid).
  DERIVED. THE GIVEN ROWS OF THIS SEAT. 14 by the template 'for every input the law returns true; each argument reads behind the call as it read before'; 0 by the template 'total and deterministic' (their statements: YtjbeoakikdkdaaaTotals.lean).
  GIVEN WITH THE SEED: the statements are not yours to turn. If you find one false, say at which input.
  Laid BY PROGRAM, IN A SANDBOX (cutbox-rows.mjs): the forced cells as the released guide's own fill.sh prints them over the translation 06350257f41d0379… (all of the seat's roots in one cut). By AI agents, Wed Nov 11 2026. No macro, syntax, notation, axiom, sorry.
-/
import Derived.Test.YtjbeoakikdkdaaaChecked
import GoSem.Claim
import GoSem.ClaimJoined
import GoSem.ClaimMapViews
import Derived.JoinedTies
import Derived.KernelRfl
namespace Go.Proofs.Ytjbeoakikdkdaaa
/- THE CELL 'sum', in the pinned program and in every row, IS THE sha256 OF THE DUMP (.gsa) THAT YtjbeoakikdkdaaaProg.lean LOADS. Nothing in Lean hashes anything: it is a label: what it is worth is what the hold of that sum in a sandbox is worth. -/
noncomputable def Try.pinned : Pinned := { name := "ytjbeoakikdkdaaa", sum := "06350257f41d0379d00feadd6176658d18a4b21aad93b606d3963f070a5b62cd", checked := Try.checked }
namespace Rows
def none {H : Type} : Left H := { results := [], args := [] }

/-- 'crossbandlaw03.SteamYards': WHATEVER THE INPUT: true; the input reads as it did. -/
def steamYardsSpec : ChangeSpec := { name := "steamYards", fn := fun _ => fun
  | [d1, d2, d3] => { results := [.lit (.bool true)], args := [d1, d2, d3] }
  | _ => none }
def steamYardsRow : OpenClaim := { program := "ytjbeoakikdkdaaa", sum := "06350257f41d0379d00feadd6176658d18a4b21aad93b606d3963f070a5b62cd", func := "crossband/crossbandlaw03.SteamYards", spec := "steamYards", unfollowed := true, recurses := true, plainKeys := false, apart := false }
def SteamYardsSaid : Prop := steamYardsRow.holds Try.pinned (OpenSpec.ofChange steamYardsSpec)

/-- ITS FALSE NEIGHBOUR: 'it returns false'. Refute it at one input. -/
def steamYardsWrong : ChangeSpec := { name := "steamYards", fn := fun _ => fun
  | [d1, d2, d3] => { results := [.lit (.bool false)], args := [d1, d2, d3] }
  | _ => none }
def SteamYardsWrongFalsely : Prop := steamYardsRow.holds Try.pinned (OpenSpec.ofChange steamYardsWrong)

/-- 'crossbandlaw03.SteamFewests': WHATEVER THE INPUT: true; the input reads as it did. -/
def steamFewestsSpec : ChangeSpec := { name := "steamFewests", fn := fun _ => fun
  | [d1, d2] => { results := [.lit (.bool true)], args := [d1, d2] }
  | _ => none }
def steamFewestsRow : OpenClaim := { program := "ytjbeoakikdkdaaa", sum := "06350257f41d0379d00feadd6176658d18a4b21aad93b606d3963f070a5b62cd", func := "crossband/crossbandlaw03.SteamFewests", spec := "steamFewests", unfollowed := true, recurses := true, plainKeys := false, apart := false }
def SteamFewestsSaid : Prop := steamFewestsRow.holds Try.pinned (OpenSpec.ofChange steamFewestsSpec)

/-- ITS FALSE NEIGHBOUR: 'it returns false'. Refute it at one input. -/
def steamFewestsWrong : ChangeSpec := { name := "steamFewests", fn := fun _ => fun
  | [d1, d2] => { results := [.lit (.bool false)], args := [d1, d2] }
  | _ => none }
def SteamFewestsWrongFalsely : Prop := steamFewestsRow.holds Try.pinned (OpenSpec.ofChange steamFewestsWrong)

/-- 'crossbandlaw03.SteamOrders': WHATEVER THE INPUT: true; the input reads as it did. -/
def steamOrdersSpec : ChangeSpec := { name := "steamOrders", fn := fun _ => fun
  | [d] => { results := [.lit (.bool true)], args := [d] }
  | _ => none }
def steamOrdersRow : OpenClaim := { program := "ytjbeoakikdkdaaa", sum := "06350257f41d0379d00feadd6176658d18a4b21aad93b606d3963f070a5b62cd", func := "crossband/crossbandlaw03.SteamOrders", spec := "steamOrders", unfollowed := true, recurses := true, plainKeys := false, apart := false }
def SteamOrdersSaid : Prop := steamOrdersRow.holds Try.pinned (OpenSpec.ofChange steamOrdersSpec)

/-- ITS FALSE NEIGHBOUR: 'it returns false'. Refute it at one input. -/
def steamOrdersWrong : ChangeSpec := { name := "steamOrders", fn := fun _ => fun
  | [d] => { results := [.lit (.bool false)], args := [d] }
  | _ => none }
def SteamOrdersWrongFalsely : Prop := steamOrdersRow.holds Try.pinned (OpenSpec.ofChange steamOrdersWrong)

/-- 'crossbandlaw03.SteamKeeps': WHATEVER THE INPUT: true; the input reads as it did. -/
def steamKeepsSpec : ChangeSpec := { name := "steamKeeps", fn := fun _ => fun
  | [d1, d2] => { results := [.lit (.bool true)], args := [d1, d2] }
  | _ => none }
def steamKeepsRow : OpenClaim := { program := "ytjbeoakikdkdaaa", sum := "06350257f41d0379d00feadd6176658d18a4b21aad93b606d3963f070a5b62cd", func := "crossband/crossbandlaw03.SteamKeeps", spec := "steamKeeps", unfollowed := true, recurses := true, plainKeys := false, apart := false }
def SteamKeepsSaid : Prop := steamKeepsRow.holds Try.pinned (OpenSpec.ofChange steamKeepsSpec)

/-- ITS FALSE NEIGHBOUR: 'it returns false'. Refute it at one input. -/
def steamKeepsWrong : ChangeSpec := { name := "steamKeeps", fn := fun _ => fun
  | [d1, d2] => { results := [.lit (.bool false)], args := [d1, d2] }
  | _ => none }
def SteamKeepsWrongFalsely : Prop := steamKeepsRow.holds Try.pinned (OpenSpec.ofChange steamKeepsWrong)

/-- 'crossbandlaw03.SteamProved': WHATEVER THE INPUT: true; the input reads as it did. -/
def steamProvedSpec : ChangeSpec := { name := "steamProved", fn := fun _ => fun
  | [d1, d2, d3] => { results := [.lit (.bool true)], args := [d1, d2, d3] }
  | _ => none }
def steamProvedRow : OpenClaim := { program := "ytjbeoakikdkdaaa", sum := "06350257f41d0379d00feadd6176658d18a4b21aad93b606d3963f070a5b62cd", func := "crossband/crossbandlaw03.SteamProved", spec := "steamProved", unfollowed := true, recurses := true, plainKeys := false, apart := false }
def SteamProvedSaid : Prop := steamProvedRow.holds Try.pinned (OpenSpec.ofChange steamProvedSpec)

/-- ITS FALSE NEIGHBOUR: 'it returns false'. Refute it at one input. -/
def steamProvedWrong : ChangeSpec := { name := "steamProved", fn := fun _ => fun
  | [d1, d2, d3] => { results := [.lit (.bool false)], args := [d1, d2, d3] }
  | _ => none }
def SteamProvedWrongFalsely : Prop := steamProvedRow.holds Try.pinned (OpenSpec.ofChange steamProvedWrong)

/-- 'crossbandlaw03.SteamOrder': WHATEVER THE INPUT: true; the input reads as it did. -/
def steamOrderSpec : ChangeSpec := { name := "steamOrder", fn := fun _ => fun
  | [d1, d2] => { results := [.lit (.bool true)], args := [d1, d2] }
  | _ => none }
def steamOrderRow : OpenClaim := { program := "ytjbeoakikdkdaaa", sum := "06350257f41d0379d00feadd6176658d18a4b21aad93b606d3963f070a5b62cd", func := "crossband/crossbandlaw03.SteamOrder", spec := "steamOrder", unfollowed := true, recurses := true, plainKeys := false, apart := false }
def SteamOrderSaid : Prop := steamOrderRow.holds Try.pinned (OpenSpec.ofChange steamOrderSpec)

/-- ITS FALSE NEIGHBOUR: 'it returns false'. Refute it at one input. -/
def steamOrderWrong : ChangeSpec := { name := "steamOrder", fn := fun _ => fun
  | [d1, d2] => { results := [.lit (.bool false)], args := [d1, d2] }
  | _ => none }
def SteamOrderWrongFalsely : Prop := steamOrderRow.holds Try.pinned (OpenSpec.ofChange steamOrderWrong)

/-- 'crossbandlaw03.SteamReached': WHATEVER THE INPUT: true; the input reads as it did. -/
def steamReachedSpec : ChangeSpec := { name := "steamReached", fn := fun _ => fun
  | [d] => { results := [.lit (.bool true)], args := [d] }
  | _ => none }
def steamReachedRow : OpenClaim := { program := "ytjbeoakikdkdaaa", sum := "06350257f41d0379d00feadd6176658d18a4b21aad93b606d3963f070a5b62cd", func := "crossband/crossbandlaw03.SteamReached", spec := "steamReached", unfollowed := true, recurses := true, plainKeys := false, apart := false }
def SteamReachedSaid : Prop := steamReachedRow.holds Try.pinned (OpenSpec.ofChange steamReachedSpec)

/-- ITS FALSE NEIGHBOUR: 'it returns false'. Refute it at one input. -/
def steamReachedWrong : ChangeSpec := { name := "steamReached", fn := fun _ => fun
  | [d] => { results := [.lit (.bool false)], args := [d] }
  | _ => none }
def SteamReachedWrongFalsely : Prop := steamReachedRow.holds Try.pinned (OpenSpec.ofChange steamReachedWrong)

/-- 'crossbandlaw03.SteamTurned': WHATEVER THE INPUT: true; the input reads as it did. -/
def steamTurnedSpec : ChangeSpec := { name := "steamTurned", fn := fun _ => fun
  | [d] => { results := [.lit (.bool true)], args := [d] }
  | _ => none }
def steamTurnedRow : OpenClaim := { program := "ytjbeoakikdkdaaa", sum := "06350257f41d0379d00feadd6176658d18a4b21aad93b606d3963f070a5b62cd", func := "crossband/crossbandlaw03.SteamTurned", spec := "steamTurned", unfollowed := true, recurses := true, plainKeys := false, apart := false }
def SteamTurnedSaid : Prop := steamTurnedRow.holds Try.pinned (OpenSpec.ofChange steamTurnedSpec)

/-- ITS FALSE NEIGHBOUR: 'it returns false'. Refute it at one input. -/
def steamTurnedWrong : ChangeSpec := { name := "steamTurned", fn := fun _ => fun
  | [d] => { results := [.lit (.bool false)], args := [d] }
  | _ => none }
def SteamTurnedWrongFalsely : Prop := steamTurnedRow.holds Try.pinned (OpenSpec.ofChange steamTurnedWrong)

/-- 'crossbandlaw03.SteamLater': WHATEVER THE INPUT: true; the input reads as it did. -/
def steamLaterSpec : ChangeSpec := { name := "steamLater", fn := fun _ => fun
  | [d1, d2] => { results := [.lit (.bool true)], args := [d1, d2] }
  | _ => none }
def steamLaterRow : OpenClaim := { program := "ytjbeoakikdkdaaa", sum := "06350257f41d0379d00feadd6176658d18a4b21aad93b606d3963f070a5b62cd", func := "crossband/crossbandlaw03.SteamLater", spec := "steamLater", unfollowed := true, recurses := true, plainKeys := false, apart := false }
def SteamLaterSaid : Prop := steamLaterRow.holds Try.pinned (OpenSpec.ofChange steamLaterSpec)

/-- ITS FALSE NEIGHBOUR: 'it returns false'. Refute it at one input. -/
def steamLaterWrong : ChangeSpec := { name := "steamLater", fn := fun _ => fun
  | [d1, d2] => { results := [.lit (.bool false)], args := [d1, d2] }
  | _ => none }
def SteamLaterWrongFalsely : Prop := steamLaterRow.holds Try.pinned (OpenSpec.ofChange steamLaterWrong)

/-- 'crossbandlaw03.SteamMore': WHATEVER THE INPUT: true; the input reads as it did. -/
def steamMoreSpec : ChangeSpec := { name := "steamMore", fn := fun _ => fun
  | [d1, d2, d3, d4] => { results := [.lit (.bool true)], args := [d1, d2, d3, d4] }
  | _ => none }
def steamMoreRow : OpenClaim := { program := "ytjbeoakikdkdaaa", sum := "06350257f41d0379d00feadd6176658d18a4b21aad93b606d3963f070a5b62cd", func := "crossband/crossbandlaw03.SteamMore", spec := "steamMore", unfollowed := true, recurses := true, plainKeys := false, apart := false }
def SteamMoreSaid : Prop := steamMoreRow.holds Try.pinned (OpenSpec.ofChange steamMoreSpec)

/-- ITS FALSE NEIGHBOUR: 'it returns false'. Refute it at one input. -/
def steamMoreWrong : ChangeSpec := { name := "steamMore", fn := fun _ => fun
  | [d1, d2, d3, d4] => { results := [.lit (.bool false)], args := [d1, d2, d3, d4] }
  | _ => none }
def SteamMoreWrongFalsely : Prop := steamMoreRow.holds Try.pinned (OpenSpec.ofChange steamMoreWrong)

/-- 'crossbandlaw03.SteamKept': WHATEVER THE INPUT: true; the input reads as it did. -/
def steamKeptSpec : ChangeSpec := { name := "steamKept", fn := fun _ => fun
  | [d1, d2, d3] => { results := [.lit (.bool true)], args := [d1, d2, d3] }
  | _ => none }
def steamKeptRow : OpenClaim := { program := "ytjbeoakikdkdaaa", sum := "06350257f41d0379d00feadd6176658d18a4b21aad93b606d3963f070a5b62cd", func := "crossband/crossbandlaw03.SteamKept", spec := "steamKept", unfollowed := true, recurses := true, plainKeys := false, apart := false }
def SteamKeptSaid : Prop := steamKeptRow.holds Try.pinned (OpenSpec.ofChange steamKeptSpec)

/-- ITS FALSE NEIGHBOUR: 'it returns false'. Refute it at one input. -/
def steamKeptWrong : ChangeSpec := { name := "steamKept", fn := fun _ => fun
  | [d1, d2, d3] => { results := [.lit (.bool false)], args := [d1, d2, d3] }
  | _ => none }
def SteamKeptWrongFalsely : Prop := steamKeptRow.holds Try.pinned (OpenSpec.ofChange steamKeptWrong)

/-- 'crossbandlaw03.SteamApart': WHATEVER THE INPUT: true; the input reads as it did. -/
def steamApartSpec : ChangeSpec := { name := "steamApart", fn := fun _ => fun
  | [d1, d2] => { results := [.lit (.bool true)], args := [d1, d2] }
  | _ => none }
def steamApartRow : OpenClaim := { program := "ytjbeoakikdkdaaa", sum := "06350257f41d0379d00feadd6176658d18a4b21aad93b606d3963f070a5b62cd", func := "crossband/crossbandlaw03.SteamApart", spec := "steamApart", unfollowed := true, recurses := true, plainKeys := false, apart := false }
def SteamApartSaid : Prop := steamApartRow.holds Try.pinned (OpenSpec.ofChange steamApartSpec)

/-- ITS FALSE NEIGHBOUR: 'it returns false'. Refute it at one input. -/
def steamApartWrong : ChangeSpec := { name := "steamApart", fn := fun _ => fun
  | [d1, d2] => { results := [.lit (.bool false)], args := [d1, d2] }
  | _ => none }
def SteamApartWrongFalsely : Prop := steamApartRow.holds Try.pinned (OpenSpec.ofChange steamApartWrong)

/-- 'crossbandlaw03.SteamAlone': WHATEVER THE INPUT: true; the input reads as it did. -/
def steamAloneSpec : ChangeSpec := { name := "steamAlone", fn := fun _ => fun
  | [d] => { results := [.lit (.bool true)], args := [d] }
  | _ => none }
def steamAloneRow : OpenClaim := { program := "ytjbeoakikdkdaaa", sum := "06350257f41d0379d00feadd6176658d18a4b21aad93b606d3963f070a5b62cd", func := "crossband/crossbandlaw03.SteamAlone", spec := "steamAlone", unfollowed := true, recurses := true, plainKeys := false, apart := false }
def SteamAloneSaid : Prop := steamAloneRow.holds Try.pinned (OpenSpec.ofChange steamAloneSpec)

/-- ITS FALSE NEIGHBOUR: 'it returns false'. Refute it at one input. -/
def steamAloneWrong : ChangeSpec := { name := "steamAlone", fn := fun _ => fun
  | [d] => { results := [.lit (.bool false)], args := [d] }
  | _ => none }
def SteamAloneWrongFalsely : Prop := steamAloneRow.holds Try.pinned (OpenSpec.ofChange steamAloneWrong)

/-- 'crossbandlaw03.SteamKnown': WHATEVER THE INPUT: true; the input reads as it did. -/
def steamKnownSpec : ChangeSpec := { name := "steamKnown", fn := fun _ => fun
  | [] => { results := [.lit (.bool true)], args := [] }
  | _ => none }
def steamKnownRow : OpenClaim := { program := "ytjbeoakikdkdaaa", sum := "06350257f41d0379d00feadd6176658d18a4b21aad93b606d3963f070a5b62cd", func := "crossband/crossbandlaw03.SteamKnown", spec := "steamKnown", unfollowed := true, recurses := true, plainKeys := false, apart := false }
def SteamKnownSaid : Prop := steamKnownRow.holds Try.pinned (OpenSpec.ofChange steamKnownSpec)

/-- ITS FALSE NEIGHBOUR: 'it returns false'. Refute it at one input. -/
def steamKnownWrong : ChangeSpec := { name := "steamKnown", fn := fun _ => fun
  | [] => { results := [.lit (.bool false)], args := [] }
  | _ => none }
def SteamKnownWrongFalsely : Prop := steamKnownRow.holds Try.pinned (OpenSpec.ofChange steamKnownWrong)

/- THE SECOND FORM. 'bulk': how many values and letters a reading holds, each counted each time it is reached (what is shared counts as often as it is met; a slice's spare places count too). A statement '..UptoSaid' is the law's where the arguments, and the package variables that the reading takes, are together of bulk at most 1048576: NARROWER than '..Said'. Prove '..Said' where nothing that the law and all that it calls make is longer than what came in: it says more and counts as full. Else prove '..UptoSaid'. A law counts once. -/
mutual
def uptoBulk {H : Type} : DataW H → Nat
  | .lit (.string bytes) => bytes.length + 1
  | .lit _ => 1
  | .nil => 1
  | .ptr d => uptoBulk d + 1
  | .slice elems spare => uptoBulkAll elems + uptoBulkAll spare + 1
  | .agg parts => uptoBulkAll parts + 1
  | .iface _ d => uptoBulk d + 1
  | .map entries => uptoBulkEntries entries + 1
  | .held _ => 1
def uptoBulkAll {H : Type} : List (DataW H) → Nat
  | [] => 0
  | d :: r => uptoBulk d + uptoBulkAll r
def uptoBulkEntries {H : Type} : List (Lit × DataW H) → Nat
  | [] => 0
  | x :: r => uptoBulkEntry x + uptoBulkEntries r
def uptoBulkEntry {H : Type} : Lit × DataW H → Nat
  | (.string bytes, d) => bytes.length + uptoBulk d + 1
  | (_, d) => uptoBulk d + 1
 end
def uptoSmall : (H : Type) → List (DataW H) → Bool := fun _ ds => decide (uptoBulkAll ds ≤ 1048576)
def OpenSpec.upto (s : _root_.Go.ChangeSpec) : _root_.Go.OpenSpec := { _root_.Go.OpenSpec.ofChange s with cond := some uptoSmall }

/-- 'crossbandlaw03.SteamYards', WHERE WHAT IT READS IS OF BULK AT MOST 1048576: true; the input reads as it did. -/
def steamYardsUptoRow : OpenClaim := { program := "ytjbeoakikdkdaaa", sum := "06350257f41d0379d00feadd6176658d18a4b21aad93b606d3963f070a5b62cd", func := "crossband/crossbandlaw03.SteamYards", spec := "steamYards", unfollowed := true, recurses := true, plainKeys := false, apart := false, narrowed := true }
def SteamYardsUptoSaid : Prop := steamYardsUptoRow.holds Try.pinned (OpenSpec.upto steamYardsSpec)

/-- 'crossbandlaw03.SteamFewests', WHERE WHAT IT READS IS OF BULK AT MOST 1048576: true; the input reads as it did. -/
def steamFewestsUptoRow : OpenClaim := { program := "ytjbeoakikdkdaaa", sum := "06350257f41d0379d00feadd6176658d18a4b21aad93b606d3963f070a5b62cd", func := "crossband/crossbandlaw03.SteamFewests", spec := "steamFewests", unfollowed := true, recurses := true, plainKeys := false, apart := false, narrowed := true }
def SteamFewestsUptoSaid : Prop := steamFewestsUptoRow.holds Try.pinned (OpenSpec.upto steamFewestsSpec)

/-- 'crossbandlaw03.SteamOrders', WHERE WHAT IT READS IS OF BULK AT MOST 1048576: true; the input reads as it did. -/
def steamOrdersUptoRow : OpenClaim := { program := "ytjbeoakikdkdaaa", sum := "06350257f41d0379d00feadd6176658d18a4b21aad93b606d3963f070a5b62cd", func := "crossband/crossbandlaw03.SteamOrders", spec := "steamOrders", unfollowed := true, recurses := true, plainKeys := false, apart := false, narrowed := true }
def SteamOrdersUptoSaid : Prop := steamOrdersUptoRow.holds Try.pinned (OpenSpec.upto steamOrdersSpec)

/-- 'crossbandlaw03.SteamKeeps', WHERE WHAT IT READS IS OF BULK AT MOST 1048576: true; the input reads as it did. -/
def steamKeepsUptoRow : OpenClaim := { program := "ytjbeoakikdkdaaa", sum := "06350257f41d0379d00feadd6176658d18a4b21aad93b606d3963f070a5b62cd", func := "crossband/crossbandlaw03.SteamKeeps", spec := "steamKeeps", unfollowed := true, recurses := true, plainKeys := false, apart := false, narrowed := true }
def SteamKeepsUptoSaid : Prop := steamKeepsUptoRow.holds Try.pinned (OpenSpec.upto steamKeepsSpec)

/-- 'crossbandlaw03.SteamProved', WHERE WHAT IT READS IS OF BULK AT MOST 1048576: true; the input reads as it did. -/
def steamProvedUptoRow : OpenClaim := { program := "ytjbeoakikdkdaaa", sum := "06350257f41d0379d00feadd6176658d18a4b21aad93b606d3963f070a5b62cd", func := "crossband/crossbandlaw03.SteamProved", spec := "steamProved", unfollowed := true, recurses := true, plainKeys := false, apart := false, narrowed := true }
def SteamProvedUptoSaid : Prop := steamProvedUptoRow.holds Try.pinned (OpenSpec.upto steamProvedSpec)

/-- 'crossbandlaw03.SteamOrder', WHERE WHAT IT READS IS OF BULK AT MOST 1048576: true; the input reads as it did. -/
def steamOrderUptoRow : OpenClaim := { program := "ytjbeoakikdkdaaa", sum := "06350257f41d0379d00feadd6176658d18a4b21aad93b606d3963f070a5b62cd", func := "crossband/crossbandlaw03.SteamOrder", spec := "steamOrder", unfollowed := true, recurses := true, plainKeys := false, apart := false, narrowed := true }
def SteamOrderUptoSaid : Prop := steamOrderUptoRow.holds Try.pinned (OpenSpec.upto steamOrderSpec)

/-- 'crossbandlaw03.SteamReached', WHERE WHAT IT READS IS OF BULK AT MOST 1048576: true; the input reads as it did. -/
def steamReachedUptoRow : OpenClaim := { program := "ytjbeoakikdkdaaa", sum := "06350257f41d0379d00feadd6176658d18a4b21aad93b606d3963f070a5b62cd", func := "crossband/crossbandlaw03.SteamReached", spec := "steamReached", unfollowed := true, recurses := true, plainKeys := false, apart := false, narrowed := true }
def SteamReachedUptoSaid : Prop := steamReachedUptoRow.holds Try.pinned (OpenSpec.upto steamReachedSpec)

/-- 'crossbandlaw03.SteamTurned', WHERE WHAT IT READS IS OF BULK AT MOST 1048576: true; the input reads as it did. -/
def steamTurnedUptoRow : OpenClaim := { program := "ytjbeoakikdkdaaa", sum := "06350257f41d0379d00feadd6176658d18a4b21aad93b606d3963f070a5b62cd", func := "crossband/crossbandlaw03.SteamTurned", spec := "steamTurned", unfollowed := true, recurses := true, plainKeys := false, apart := false, narrowed := true }
def SteamTurnedUptoSaid : Prop := steamTurnedUptoRow.holds Try.pinned (OpenSpec.upto steamTurnedSpec)

/-- 'crossbandlaw03.SteamLater', WHERE WHAT IT READS IS OF BULK AT MOST 1048576: true; the input reads as it did. -/
def steamLaterUptoRow : OpenClaim := { program := "ytjbeoakikdkdaaa", sum := "06350257f41d0379d00feadd6176658d18a4b21aad93b606d3963f070a5b62cd", func := "crossband/crossbandlaw03.SteamLater", spec := "steamLater", unfollowed := true, recurses := true, plainKeys := false, apart := false, narrowed := true }
def SteamLaterUptoSaid : Prop := steamLaterUptoRow.holds Try.pinned (OpenSpec.upto steamLaterSpec)

/-- 'crossbandlaw03.SteamMore', WHERE WHAT IT READS IS OF BULK AT MOST 1048576: true; the input reads as it did. -/
def steamMoreUptoRow : OpenClaim := { program := "ytjbeoakikdkdaaa", sum := "06350257f41d0379d00feadd6176658d18a4b21aad93b606d3963f070a5b62cd", func := "crossband/crossbandlaw03.SteamMore", spec := "steamMore", unfollowed := true, recurses := true, plainKeys := false, apart := false, narrowed := true }
def SteamMoreUptoSaid : Prop := steamMoreUptoRow.holds Try.pinned (OpenSpec.upto steamMoreSpec)

/-- 'crossbandlaw03.SteamKept', WHERE WHAT IT READS IS OF BULK AT MOST 1048576: true; the input reads as it did. -/
def steamKeptUptoRow : OpenClaim := { program := "ytjbeoakikdkdaaa", sum := "06350257f41d0379d00feadd6176658d18a4b21aad93b606d3963f070a5b62cd", func := "crossband/crossbandlaw03.SteamKept", spec := "steamKept", unfollowed := true, recurses := true, plainKeys := false, apart := false, narrowed := true }
def SteamKeptUptoSaid : Prop := steamKeptUptoRow.holds Try.pinned (OpenSpec.upto steamKeptSpec)

/-- 'crossbandlaw03.SteamApart', WHERE WHAT IT READS IS OF BULK AT MOST 1048576: true; the input reads as it did. -/
def steamApartUptoRow : OpenClaim := { program := "ytjbeoakikdkdaaa", sum := "06350257f41d0379d00feadd6176658d18a4b21aad93b606d3963f070a5b62cd", func := "crossband/crossbandlaw03.SteamApart", spec := "steamApart", unfollowed := true, recurses := true, plainKeys := false, apart := false, narrowed := true }
def SteamApartUptoSaid : Prop := steamApartUptoRow.holds Try.pinned (OpenSpec.upto steamApartSpec)

/-- 'crossbandlaw03.SteamAlone', WHERE WHAT IT READS IS OF BULK AT MOST 1048576: true; the input reads as it did. -/
def steamAloneUptoRow : OpenClaim := { program := "ytjbeoakikdkdaaa", sum := "06350257f41d0379d00feadd6176658d18a4b21aad93b606d3963f070a5b62cd", func := "crossband/crossbandlaw03.SteamAlone", spec := "steamAlone", unfollowed := true, recurses := true, plainKeys := false, apart := false, narrowed := true }
def SteamAloneUptoSaid : Prop := steamAloneUptoRow.holds Try.pinned (OpenSpec.upto steamAloneSpec)

/-- 'crossbandlaw03.SteamKnown', WHERE WHAT IT READS IS OF BULK AT MOST 1048576: true; the input reads as it did. -/
def steamKnownUptoRow : OpenClaim := { program := "ytjbeoakikdkdaaa", sum := "06350257f41d0379d00feadd6176658d18a4b21aad93b606d3963f070a5b62cd", func := "crossband/crossbandlaw03.SteamKnown", spec := "steamKnown", unfollowed := true, recurses := true, plainKeys := false, apart := false, narrowed := true }
def SteamKnownUptoSaid : Prop := steamKnownUptoRow.holds Try.pinned (OpenSpec.upto steamKnownSpec)

end Rows
end Go.Proofs.Ytjbeoakikdkdaaa
