/-
  DERIVED. GIVEN WITH THE SEED: THE CARDS: each row of YtmflekhhakadeaaDoorRows.lean that lists a variable, with what it lists TIED to the program's text (the seventh form; the later family's looks); each row that meets fmt, with fmt's text TOLD by the authors' own Lean function (tested against real Go, not proved from fmt's source: count such statements apart). THE CARD IS WHAT COUNTS. Prove the row's statement (the work); the ties are given (YtmflekhhakadeaaDoorTie.lean); close each card by the builder's one call (the guide's Derived/Test/ToyasCard.lean, 'card_holds'). Laid BY PROGRAM, IN A SANDBOX (cutbox-door.mjs). By AI agents, Wed Nov 11 2026. No macro, syntax, notation, axiom, sorry.
-/
import Derived.Test.YtmflekhhakadeaaDoorRows
import GoSem.ClaimSeven
namespace Go.Proofs.YtmflekhhakadeaaDoor
namespace Rows

/-- THE TIED CARD OF 'cellarerlaw11.PathNames'. -/
def pathNamesCard : Claim7 := { stood := { row := pathNamesRow, standIns := [], harness := (true, "2f70a410e1bdd8b7b26af11685f41d9cc160e7b1f4cde6f6d6e155f5016c916a"), looks := false }, kinds := [], alts := [], laidByText := true, laidKinds := [.data, .pinned], laidTests := true, laidLooks := .later }
def PathNamesCardSaid : Prop := Claim7.holds Tryd.pinned (.plain (OpenSpec.ofChange pathNamesSpec)) pathNamesCard

/-- THE TIED CARD OF 'cellarerlaw11.PathOrders'. -/
def pathOrdersCard : Claim7 := { stood := { row := pathOrdersRow, standIns := [], harness := (true, "2f70a410e1bdd8b7b26af11685f41d9cc160e7b1f4cde6f6d6e155f5016c916a"), looks := false }, kinds := [], alts := [], laidByText := true, laidKinds := [.data, .pinned], laidTests := true, laidLooks := .later }
def PathOrdersCardSaid : Prop := Claim7.holds Tryd.pinned (.plain (OpenSpec.ofChange pathOrdersSpec)) pathOrdersCard

/-- THE TIED CARD OF 'cellarerlaw11.PathRunes'. -/
def pathRunesCard : Claim7 := { stood := { row := pathRunesRow, standIns := [], harness := (true, "2f70a410e1bdd8b7b26af11685f41d9cc160e7b1f4cde6f6d6e155f5016c916a"), looks := false }, kinds := [], alts := [], laidByText := true, laidKinds := [.data, .pinned], laidTests := true, laidLooks := .later }
def PathRunesCardSaid : Prop := Claim7.holds Tryd.pinned (.plain (OpenSpec.ofChange pathRunesSpec)) pathRunesCard

/-- THE TIED CARD OF 'cellarerlaw11.PathTotal'. -/
def pathTotalCard : Claim7 := { stood := { row := pathTotalRow, standIns := [], harness := (true, "2f70a410e1bdd8b7b26af11685f41d9cc160e7b1f4cde6f6d6e155f5016c916a"), looks := false }, kinds := [], alts := [], laidByText := true, laidKinds := [.data, .pinned], laidTests := true, laidLooks := .later }
def PathTotalCardSaid : Prop := Claim7.holds Tryd.pinned (.plain (OpenSpec.ofChange pathTotalSpec)) pathTotalCard

/-- THE TIED CARD OF 'cellarerlaw11.PathFolds'. -/
def pathFoldsCard : Claim7 := { stood := { row := pathFoldsRow, standIns := [], harness := (true, "2f70a410e1bdd8b7b26af11685f41d9cc160e7b1f4cde6f6d6e155f5016c916a"), looks := false }, kinds := [], alts := [], laidByText := true, laidKinds := [.data, .pinned], laidTests := true, laidLooks := .later }
def PathFoldsCardSaid : Prop := Claim7.holds Tryd.pinned (.plain (OpenSpec.ofChange pathFoldsSpec)) pathFoldsCard

/-- THE TIED CARD OF 'cellarerlaw11.PathParts'. -/
def pathPartsCard : Claim7 := { stood := { row := pathPartsRow, standIns := [], harness := (true, "2f70a410e1bdd8b7b26af11685f41d9cc160e7b1f4cde6f6d6e155f5016c916a"), looks := false }, kinds := [], alts := [], laidByText := true, laidKinds := [.data, .pinned], laidTests := true, laidLooks := .later }
def PathPartsCardSaid : Prop := Claim7.holds Tryd.pinned (.plain (OpenSpec.ofChange pathPartsSpec)) pathPartsCard

/-- THE SECOND FORM's CARD OF 'cellarerlaw11.PathNames'. -/
def pathNamesUptoCard : Claim7 := { stood := { row := pathNamesUptoRow, standIns := [], harness := (true, "2f70a410e1bdd8b7b26af11685f41d9cc160e7b1f4cde6f6d6e155f5016c916a"), looks := false }, kinds := [], alts := [], laidByText := true, laidKinds := [.data, .pinned], laidTests := true, laidLooks := .later }
def PathNamesUptoCardSaid : Prop := Claim7.holds Tryd.pinned (.plain (OpenSpec.upto pathNamesSpec)) pathNamesUptoCard

/-- THE SECOND FORM's CARD OF 'cellarerlaw11.PathOrders'. -/
def pathOrdersUptoCard : Claim7 := { stood := { row := pathOrdersUptoRow, standIns := [], harness := (true, "2f70a410e1bdd8b7b26af11685f41d9cc160e7b1f4cde6f6d6e155f5016c916a"), looks := false }, kinds := [], alts := [], laidByText := true, laidKinds := [.data, .pinned], laidTests := true, laidLooks := .later }
def PathOrdersUptoCardSaid : Prop := Claim7.holds Tryd.pinned (.plain (OpenSpec.upto pathOrdersSpec)) pathOrdersUptoCard

/-- THE SECOND FORM's CARD OF 'cellarerlaw11.PathRunes'. -/
def pathRunesUptoCard : Claim7 := { stood := { row := pathRunesUptoRow, standIns := [], harness := (true, "2f70a410e1bdd8b7b26af11685f41d9cc160e7b1f4cde6f6d6e155f5016c916a"), looks := false }, kinds := [], alts := [], laidByText := true, laidKinds := [.data, .pinned], laidTests := true, laidLooks := .later }
def PathRunesUptoCardSaid : Prop := Claim7.holds Tryd.pinned (.plain (OpenSpec.upto pathRunesSpec)) pathRunesUptoCard

/-- THE SECOND FORM's CARD OF 'cellarerlaw11.PathTotal'. -/
def pathTotalUptoCard : Claim7 := { stood := { row := pathTotalUptoRow, standIns := [], harness := (true, "2f70a410e1bdd8b7b26af11685f41d9cc160e7b1f4cde6f6d6e155f5016c916a"), looks := false }, kinds := [], alts := [], laidByText := true, laidKinds := [.data, .pinned], laidTests := true, laidLooks := .later }
def PathTotalUptoCardSaid : Prop := Claim7.holds Tryd.pinned (.plain (OpenSpec.upto pathTotalSpec)) pathTotalUptoCard

/-- THE SECOND FORM's CARD OF 'cellarerlaw11.PathFolds'. -/
def pathFoldsUptoCard : Claim7 := { stood := { row := pathFoldsUptoRow, standIns := [], harness := (true, "2f70a410e1bdd8b7b26af11685f41d9cc160e7b1f4cde6f6d6e155f5016c916a"), looks := false }, kinds := [], alts := [], laidByText := true, laidKinds := [.data, .pinned], laidTests := true, laidLooks := .later }
def PathFoldsUptoCardSaid : Prop := Claim7.holds Tryd.pinned (.plain (OpenSpec.upto pathFoldsSpec)) pathFoldsUptoCard

/-- THE SECOND FORM's CARD OF 'cellarerlaw11.PathParts'. -/
def pathPartsUptoCard : Claim7 := { stood := { row := pathPartsUptoRow, standIns := [], harness := (true, "2f70a410e1bdd8b7b26af11685f41d9cc160e7b1f4cde6f6d6e155f5016c916a"), looks := false }, kinds := [], alts := [], laidByText := true, laidKinds := [.data, .pinned], laidTests := true, laidLooks := .later }
def PathPartsUptoCardSaid : Prop := Claim7.holds Tryd.pinned (.plain (OpenSpec.upto pathPartsSpec)) pathPartsUptoCard
end Rows
end Go.Proofs.YtmflekhhakadeaaDoor
