/-
  DERIVED. GIVEN WITH THE SEED: THE CARDS: each row of YtomghgbbojfpnabDoorRows.lean that lists a variable, with what it lists TIED to the program's text (the seventh form; the later family's looks); each row that meets fmt, with fmt's text TOLD by the authors' own Lean function (tested against real Go, not proved from fmt's source: count such statements apart). THE CARD IS WHAT COUNTS. Prove the row's statement (the work); the ties are given (YtomghgbbojfpnabDoorTie.lean); close each card by the builder's one call (the guide's Derived/Test/ToyasCard.lean, 'card_holds'). Laid BY PROGRAM, IN A SANDBOX (cutbox-door.mjs). By AI agents, Wed Nov 11 2026. No macro, syntax, notation, axiom, sorry.
-/
import Derived.Test.YtomghgbbojfpnabDoorRows
import GoSem.ClaimSeven
namespace Go.Proofs.YtomghgbbojfpnabDoor
namespace Rows

/-- THE TIED CARD OF 'cellarertop.CellarerNodes'. -/
def cellarerNodesCard : Claim7 := { stood := { row := cellarerNodesRow, standIns := [], harness := (true, "4c10e769ec1bd634ba73868f7e59d66836c7d78a9935e1b06f7bf6e6d94c5ef9"), looks := true }, kinds := [], alts := [], laidByText := true, laidKinds := [.data, .pinned], laidTests := true, laidLooks := .later }
def CellarerNodesCardSaid : Prop := Claim7.holds Tryd.pinned (.plain (OpenSpec.ofChange cellarerNodesSpec)) cellarerNodesCard

/-- THE SECOND FORM's CARD OF 'cellarertop.CellarerNodes'. -/
def cellarerNodesUptoCard : Claim7 := { stood := { row := cellarerNodesUptoRow, standIns := [], harness := (true, "4c10e769ec1bd634ba73868f7e59d66836c7d78a9935e1b06f7bf6e6d94c5ef9"), looks := true }, kinds := [], alts := [], laidByText := true, laidKinds := [.data, .pinned], laidTests := true, laidLooks := .later }
def CellarerNodesUptoCardSaid : Prop := Claim7.holds Tryd.pinned (.plain (OpenSpec.upto cellarerNodesSpec)) cellarerNodesUptoCard
end Rows
end Go.Proofs.YtomghgbbojfpnabDoor
