/-
  DERIVED. GIVEN WITH THE SEED: THE CARDS: each row of YtecpapifkbfblaaDoorRows.lean that lists a variable, with what it lists TIED to the program's text (the seventh form; the later family's looks); each row that meets fmt, with fmt's text TOLD by the authors' own Lean function (tested against real Go, not proved from fmt's source: count such statements apart). THE CARD IS WHAT COUNTS. Prove the row's statement (the work); the ties are given (YtecpapifkbfblaaDoorTie.lean); close each card by the builder's one call (the guide's Derived/Test/ToyasCard.lean, 'card_holds'). Laid BY PROGRAM, IN A SANDBOX (cutbox-door.mjs). By AI agents, Wed Nov 11 2026. No macro, syntax, notation, axiom, sorry.
-/
import Derived.Test.YtecpapifkbfblaaDoorRows
import GoSem.ClaimSeven
namespace Go.Proofs.YtecpapifkbfblaaDoor
namespace Rows

/-- THE TIED CARD OF 'cellarerlaw12.NodeUnlike'. -/
def nodeUnlikeCard : Claim7 := { stood := { row := nodeUnlikeRow, standIns := [], harness := (true, "b51b683b63cb4da4d9c18897eb163b1b1b337e29c8131d95f49e0993d8b62a96"), looks := true }, kinds := [], alts := [], laidByText := true, laidKinds := [.data, .pinned], laidTests := true, laidLooks := .later }
def NodeUnlikeCardSaid : Prop := Claim7.holds Tryd.pinned (.plain (OpenSpec.ofChange nodeUnlikeSpec)) nodeUnlikeCard

/-- THE TIED CARD OF 'cellarerlaw19.ManifestUnlike'. -/
def manifestUnlikeCard : Claim7 := { stood := { row := manifestUnlikeRow, standIns := [], harness := (true, "b51b683b63cb4da4d9c18897eb163b1b1b337e29c8131d95f49e0993d8b62a96"), looks := true }, kinds := [], alts := [], laidByText := true, laidKinds := [.data, .pinned], laidTests := true, laidLooks := .later }
def ManifestUnlikeCardSaid : Prop := Claim7.holds Tryd.pinned (.plain (OpenSpec.ofChange manifestUnlikeSpec)) manifestUnlikeCard

/-- THE SECOND FORM's CARD OF 'cellarerlaw12.NodeUnlike'. -/
def nodeUnlikeUptoCard : Claim7 := { stood := { row := nodeUnlikeUptoRow, standIns := [], harness := (true, "b51b683b63cb4da4d9c18897eb163b1b1b337e29c8131d95f49e0993d8b62a96"), looks := true }, kinds := [], alts := [], laidByText := true, laidKinds := [.data, .pinned], laidTests := true, laidLooks := .later }
def NodeUnlikeUptoCardSaid : Prop := Claim7.holds Tryd.pinned (.plain (OpenSpec.upto nodeUnlikeSpec)) nodeUnlikeUptoCard

/-- THE SECOND FORM's CARD OF 'cellarerlaw19.ManifestUnlike'. -/
def manifestUnlikeUptoCard : Claim7 := { stood := { row := manifestUnlikeUptoRow, standIns := [], harness := (true, "b51b683b63cb4da4d9c18897eb163b1b1b337e29c8131d95f49e0993d8b62a96"), looks := true }, kinds := [], alts := [], laidByText := true, laidKinds := [.data, .pinned], laidTests := true, laidLooks := .later }
def ManifestUnlikeUptoCardSaid : Prop := Claim7.holds Tryd.pinned (.plain (OpenSpec.upto manifestUnlikeSpec)) manifestUnlikeUptoCard
end Rows
end Go.Proofs.YtecpapifkbfblaaDoor
