/-
  DERIVED. GIVEN WITH THE SEED: THE CARDS: each row of YtdgicclmjloigaaDoorRows.lean that lists a variable, with what it lists TIED to the program's text (the seventh form; the later family's looks); each row that meets fmt, with fmt's text TOLD by the authors' own Lean function (tested against real Go, not proved from fmt's source: count such statements apart). THE CARD IS WHAT COUNTS. Prove the row's statement (the work); the ties are given (YtdgicclmjloigaaDoorTie.lean); close each card by the builder's one call (the guide's Derived/Test/ToyasCard.lean, 'card_holds'). Laid BY PROGRAM, IN A SANDBOX (cutbox-door.mjs). By AI agents, Wed Nov 11 2026. No macro, syntax, notation, axiom, sorry.
-/
import Derived.Test.YtdgicclmjloigaaDoorRows
import GoSem.ClaimSeven
namespace Go.Proofs.YtdgicclmjloigaaDoor
namespace Rows

/-- THE TIED CARD OF 'cellarerlaw13.WalkUnder'. -/
def walkUnderCard : Claim7 := { stood := { row := walkUnderRow, standIns := [], harness := (true, "eb582efcfacc3aef04fa670765c38e270b54387ace259da737dec03a6716d81b"), looks := true }, kinds := [], alts := [], laidByText := true, laidKinds := [.data, .pinned], laidTests := true, laidLooks := .later }
def WalkUnderCardSaid : Prop := Claim7.holds Tryd.pinned (.plain (OpenSpec.ofChange walkUnderSpec)) walkUnderCard

/-- THE TIED CARD OF 'cellarerlaw13.WalkTurns'. -/
def walkTurnsCard : Claim7 := { stood := { row := walkTurnsRow, standIns := [], harness := (true, "eb582efcfacc3aef04fa670765c38e270b54387ace259da737dec03a6716d81b"), looks := true }, kinds := [], alts := [], laidByText := true, laidKinds := [.data, .pinned], laidTests := true, laidLooks := .later }
def WalkTurnsCardSaid : Prop := Claim7.holds Tryd.pinned (.plain (OpenSpec.ofChange walkTurnsSpec)) walkTurnsCard

/-- THE TIED CARD OF 'cellarerlaw13.WalkFull'. -/
def walkFullCard : Claim7 := { stood := { row := walkFullRow, standIns := [], harness := (true, "eb582efcfacc3aef04fa670765c38e270b54387ace259da737dec03a6716d81b"), looks := true }, kinds := [], alts := [], laidByText := true, laidKinds := [.data, .pinned], laidTests := true, laidLooks := .later }
def WalkFullCardSaid : Prop := Claim7.holds Tryd.pinned (.plain (OpenSpec.ofChange walkFullSpec)) walkFullCard

/-- THE TIED CARD OF 'cellarerlaw13.WalkParts'. -/
def walkPartsCard : Claim7 := { stood := { row := walkPartsRow, standIns := [], harness := (true, "eb582efcfacc3aef04fa670765c38e270b54387ace259da737dec03a6716d81b"), looks := true }, kinds := [], alts := [], laidByText := true, laidKinds := [.data, .pinned], laidTests := true, laidLooks := .later }
def WalkPartsCardSaid : Prop := Claim7.holds Tryd.pinned (.plain (OpenSpec.ofChange walkPartsSpec)) walkPartsCard

/-- THE TIED CARD OF 'cellarertop.CellarerFiles'. -/
def cellarerFilesCard : Claim7 := { stood := { row := cellarerFilesRow, standIns := [], harness := (true, "eb582efcfacc3aef04fa670765c38e270b54387ace259da737dec03a6716d81b"), looks := true }, kinds := [], alts := [], laidByText := true, laidKinds := [.data, .pinned], laidTests := true, laidLooks := .later }
def CellarerFilesCardSaid : Prop := Claim7.holds Tryd.pinned (.plain (OpenSpec.ofChange cellarerFilesSpec)) cellarerFilesCard

/-- THE SECOND FORM's CARD OF 'cellarerlaw13.WalkUnder'. -/
def walkUnderUptoCard : Claim7 := { stood := { row := walkUnderUptoRow, standIns := [], harness := (true, "eb582efcfacc3aef04fa670765c38e270b54387ace259da737dec03a6716d81b"), looks := true }, kinds := [], alts := [], laidByText := true, laidKinds := [.data, .pinned], laidTests := true, laidLooks := .later }
def WalkUnderUptoCardSaid : Prop := Claim7.holds Tryd.pinned (.plain (OpenSpec.upto walkUnderSpec)) walkUnderUptoCard

/-- THE SECOND FORM's CARD OF 'cellarerlaw13.WalkTurns'. -/
def walkTurnsUptoCard : Claim7 := { stood := { row := walkTurnsUptoRow, standIns := [], harness := (true, "eb582efcfacc3aef04fa670765c38e270b54387ace259da737dec03a6716d81b"), looks := true }, kinds := [], alts := [], laidByText := true, laidKinds := [.data, .pinned], laidTests := true, laidLooks := .later }
def WalkTurnsUptoCardSaid : Prop := Claim7.holds Tryd.pinned (.plain (OpenSpec.upto walkTurnsSpec)) walkTurnsUptoCard

/-- THE SECOND FORM's CARD OF 'cellarerlaw13.WalkFull'. -/
def walkFullUptoCard : Claim7 := { stood := { row := walkFullUptoRow, standIns := [], harness := (true, "eb582efcfacc3aef04fa670765c38e270b54387ace259da737dec03a6716d81b"), looks := true }, kinds := [], alts := [], laidByText := true, laidKinds := [.data, .pinned], laidTests := true, laidLooks := .later }
def WalkFullUptoCardSaid : Prop := Claim7.holds Tryd.pinned (.plain (OpenSpec.upto walkFullSpec)) walkFullUptoCard

/-- THE SECOND FORM's CARD OF 'cellarerlaw13.WalkParts'. -/
def walkPartsUptoCard : Claim7 := { stood := { row := walkPartsUptoRow, standIns := [], harness := (true, "eb582efcfacc3aef04fa670765c38e270b54387ace259da737dec03a6716d81b"), looks := true }, kinds := [], alts := [], laidByText := true, laidKinds := [.data, .pinned], laidTests := true, laidLooks := .later }
def WalkPartsUptoCardSaid : Prop := Claim7.holds Tryd.pinned (.plain (OpenSpec.upto walkPartsSpec)) walkPartsUptoCard

/-- THE SECOND FORM's CARD OF 'cellarertop.CellarerFiles'. -/
def cellarerFilesUptoCard : Claim7 := { stood := { row := cellarerFilesUptoRow, standIns := [], harness := (true, "eb582efcfacc3aef04fa670765c38e270b54387ace259da737dec03a6716d81b"), looks := true }, kinds := [], alts := [], laidByText := true, laidKinds := [.data, .pinned], laidTests := true, laidLooks := .later }
def CellarerFilesUptoCardSaid : Prop := Claim7.holds Tryd.pinned (.plain (OpenSpec.upto cellarerFilesSpec)) cellarerFilesUptoCard
end Rows
end Go.Proofs.YtdgicclmjloigaaDoor
