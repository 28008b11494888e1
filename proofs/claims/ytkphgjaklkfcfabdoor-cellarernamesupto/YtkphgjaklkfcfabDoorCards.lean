/-
  DERIVED. GIVEN WITH THE SEED: THE CARDS: each row of YtkphgjaklkfcfabDoorRows.lean that lists a variable, with what it lists TIED to the program's text (the seventh form; the later family's looks); each row that meets fmt, with fmt's text TOLD by the authors' own Lean function (tested against real Go, not proved from fmt's source: count such statements apart). THE CARD IS WHAT COUNTS. Prove the row's statement (the work); the ties are given (YtkphgjaklkfcfabDoorTie.lean); close each card by the builder's one call (the guide's Derived/Test/ToyasCard.lean, 'card_holds'). Laid BY PROGRAM, IN A SANDBOX (cutbox-door.mjs). By AI agents, Wed Nov 11 2026. No macro, syntax, notation, axiom, sorry.
-/
import Derived.Test.YtkphgjaklkfcfabDoorRows
import GoSem.ClaimSeven
namespace Go.Proofs.YtkphgjaklkfcfabDoor
namespace Rows

/-- THE TIED CARD OF 'cellarerlaw02.DigestSums'. -/
def digestSumsCard : Claim7 := { stood := { row := digestSumsRow, standIns := [], harness := (true, "debbdf49fddb5fb815576cbc6e956039d84f4dec942a0aeb61ca5c27f2006b5f"), looks := false }, kinds := [], alts := [], laidByText := true, laidKinds := [.data], laidTests := true, laidLooks := .later }
def DigestSumsCardSaid : Prop := Claim7.holds Tryd.pinned (.plain (OpenSpec.ofChange digestSumsSpec)) digestSumsCard

/-- THE TIED CARD OF 'cellarerlaw02.DigestParts'. -/
def digestPartsCard : Claim7 := { stood := { row := digestPartsRow, standIns := [], harness := (true, "debbdf49fddb5fb815576cbc6e956039d84f4dec942a0aeb61ca5c27f2006b5f"), looks := false }, kinds := [], alts := [], laidByText := true, laidKinds := [.data], laidTests := true, laidLooks := .later }
def DigestPartsCardSaid : Prop := Claim7.holds Tryd.pinned (.plain (OpenSpec.ofChange digestPartsSpec)) digestPartsCard

/-- THE TIED CARD OF 'cellarertop.CellarerNames'. -/
def cellarerNamesCard : Claim7 := { stood := { row := cellarerNamesRow, standIns := [], harness := (true, "debbdf49fddb5fb815576cbc6e956039d84f4dec942a0aeb61ca5c27f2006b5f"), looks := false }, kinds := [], alts := [], laidByText := true, laidKinds := [.data], laidTests := true, laidLooks := .later }
def CellarerNamesCardSaid : Prop := Claim7.holds Tryd.pinned (.plain (OpenSpec.ofChange cellarerNamesSpec)) cellarerNamesCard

/-- THE SECOND FORM's CARD OF 'cellarerlaw02.DigestSums'. -/
def digestSumsUptoCard : Claim7 := { stood := { row := digestSumsUptoRow, standIns := [], harness := (true, "debbdf49fddb5fb815576cbc6e956039d84f4dec942a0aeb61ca5c27f2006b5f"), looks := false }, kinds := [], alts := [], laidByText := true, laidKinds := [.data], laidTests := true, laidLooks := .later }
def DigestSumsUptoCardSaid : Prop := Claim7.holds Tryd.pinned (.plain (OpenSpec.upto digestSumsSpec)) digestSumsUptoCard

/-- THE SECOND FORM's CARD OF 'cellarerlaw02.DigestParts'. -/
def digestPartsUptoCard : Claim7 := { stood := { row := digestPartsUptoRow, standIns := [], harness := (true, "debbdf49fddb5fb815576cbc6e956039d84f4dec942a0aeb61ca5c27f2006b5f"), looks := false }, kinds := [], alts := [], laidByText := true, laidKinds := [.data], laidTests := true, laidLooks := .later }
def DigestPartsUptoCardSaid : Prop := Claim7.holds Tryd.pinned (.plain (OpenSpec.upto digestPartsSpec)) digestPartsUptoCard

/-- THE SECOND FORM's CARD OF 'cellarertop.CellarerNames'. -/
def cellarerNamesUptoCard : Claim7 := { stood := { row := cellarerNamesUptoRow, standIns := [], harness := (true, "debbdf49fddb5fb815576cbc6e956039d84f4dec942a0aeb61ca5c27f2006b5f"), looks := false }, kinds := [], alts := [], laidByText := true, laidKinds := [.data], laidTests := true, laidLooks := .later }
def CellarerNamesUptoCardSaid : Prop := Claim7.holds Tryd.pinned (.plain (OpenSpec.upto cellarerNamesSpec)) cellarerNamesUptoCard
end Rows
end Go.Proofs.YtkphgjaklkfcfabDoor
