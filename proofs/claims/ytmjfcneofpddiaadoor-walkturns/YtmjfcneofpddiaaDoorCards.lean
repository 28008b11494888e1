/-
  DERIVED. GIVEN WITH THE SEED: THE CARDS: each row of YtmjfcneofpddiaaDoorRows.lean that lists a variable, with what it lists TIED to the program's text (the seventh form; the later family's looks); each row that meets fmt, with fmt's text TOLD by the authors' own Lean function (tested against real Go, not proved from fmt's source: count such statements apart). THE CARD IS WHAT COUNTS. Prove the row's statement (the work); the ties are given (YtmjfcneofpddiaaDoorTie.lean); close each card by the builder's one call (the guide's Derived/Test/ToyasCard.lean, 'card_holds'). Laid BY PROGRAM, IN A SANDBOX (cutbox-door.mjs). By AI agents, Wed Nov 11 2026. No macro, syntax, notation, axiom, sorry.
-/
import Derived.Test.YtmjfcneofpddiaaDoorRows
import GoSem.ClaimSeven
namespace Go.Proofs.YtmjfcneofpddiaaDoor
namespace Rows

/-- THE TIED CARD OF 'cellarerlaw13.WalkTurns'. -/
def walkTurnsCard : Claim7 := { stood := { row := walkTurnsRow, standIns := [], harness := (true, "495c0beef48b1e7a2fb41c61367b0e65cb5fce03badd3ed758539bc4457e6219"), looks := true }, kinds := [], alts := [], laidByText := true, laidKinds := [.data, .pinned], laidTests := true, laidLooks := .later }
def WalkTurnsCardSaid : Prop := Claim7.holds Tryd.pinned (.plain (OpenSpec.ofChange walkTurnsSpec)) walkTurnsCard

/-- THE TIED CARD OF 'cellarerlaw13.WalkParts'. -/
def walkPartsCard : Claim7 := { stood := { row := walkPartsRow, standIns := [], harness := (true, "495c0beef48b1e7a2fb41c61367b0e65cb5fce03badd3ed758539bc4457e6219"), looks := true }, kinds := [], alts := [], laidByText := true, laidKinds := [.data, .pinned], laidTests := true, laidLooks := .later }
def WalkPartsCardSaid : Prop := Claim7.holds Tryd.pinned (.plain (OpenSpec.ofChange walkPartsSpec)) walkPartsCard

/-- THE TIED CARD OF 'cellarertop.CellarerFiles'. -/
def cellarerFilesCard : Claim7 := { stood := { row := cellarerFilesRow, standIns := [], harness := (true, "495c0beef48b1e7a2fb41c61367b0e65cb5fce03badd3ed758539bc4457e6219"), looks := true }, kinds := [], alts := [], laidByText := true, laidKinds := [.data, .pinned], laidTests := true, laidLooks := .later }
def CellarerFilesCardSaid : Prop := Claim7.holds Tryd.pinned (.plain (OpenSpec.ofChange cellarerFilesSpec)) cellarerFilesCard

/-- THE SECOND FORM's CARD OF 'cellarerlaw13.WalkTurns'. -/
def walkTurnsUptoCard : Claim7 := { stood := { row := walkTurnsUptoRow, standIns := [], harness := (true, "495c0beef48b1e7a2fb41c61367b0e65cb5fce03badd3ed758539bc4457e6219"), looks := true }, kinds := [], alts := [], laidByText := true, laidKinds := [.data, .pinned], laidTests := true, laidLooks := .later }
def WalkTurnsUptoCardSaid : Prop := Claim7.holds Tryd.pinned (.plain (OpenSpec.upto walkTurnsSpec)) walkTurnsUptoCard

/-- THE SECOND FORM's CARD OF 'cellarerlaw13.WalkParts'. -/
def walkPartsUptoCard : Claim7 := { stood := { row := walkPartsUptoRow, standIns := [], harness := (true, "495c0beef48b1e7a2fb41c61367b0e65cb5fce03badd3ed758539bc4457e6219"), looks := true }, kinds := [], alts := [], laidByText := true, laidKinds := [.data, .pinned], laidTests := true, laidLooks := .later }
def WalkPartsUptoCardSaid : Prop := Claim7.holds Tryd.pinned (.plain (OpenSpec.upto walkPartsSpec)) walkPartsUptoCard

/-- THE SECOND FORM's CARD OF 'cellarertop.CellarerFiles'. -/
def cellarerFilesUptoCard : Claim7 := { stood := { row := cellarerFilesUptoRow, standIns := [], harness := (true, "495c0beef48b1e7a2fb41c61367b0e65cb5fce03badd3ed758539bc4457e6219"), looks := true }, kinds := [], alts := [], laidByText := true, laidKinds := [.data, .pinned], laidTests := true, laidLooks := .later }
def CellarerFilesUptoCardSaid : Prop := Claim7.holds Tryd.pinned (.plain (OpenSpec.upto cellarerFilesSpec)) cellarerFilesUptoCard
end Rows
end Go.Proofs.YtmjfcneofpddiaaDoor
