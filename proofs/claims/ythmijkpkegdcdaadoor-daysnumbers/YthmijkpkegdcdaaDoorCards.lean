/-
  DERIVED. GIVEN WITH THE SEED: THE CARDS: each row of YthmijkpkegdcdaaDoorRows.lean that lists a variable, with what it lists TIED to the program's text (the seventh form; the later family's looks); each row that meets fmt, with fmt's text TOLD by the authors' own Lean function (tested against real Go, not proved from fmt's source: count such statements apart). THE CARD IS WHAT COUNTS. Prove the row's statement (the work); the ties are given (YthmijkpkegdcdaaDoorTie.lean); close each card by the builder's one call (the guide's Derived/Test/ToyasCard.lean, 'card_holds'). Laid BY PROGRAM, IN A SANDBOX (cutbox-door.mjs). By AI agents, Wed Nov 11 2026. No macro, syntax, notation, axiom, sorry.
-/
import Derived.Test.YthmijkpkegdcdaaDoorRows
import GoSem.ClaimSeven
namespace Go.Proofs.YthmijkpkegdcdaaDoor
namespace Rows

/-- THE TIED CARD OF 'cellarerlaw20.DaysNumbers'. -/
def daysNumbersCard : Claim7 := { stood := { row := daysNumbersRow, standIns := [], harness := (true, "425a64eaa68aa037876fec37bd5d3d1f643e91a8eee96145b1865936f7761d08"), looks := false }, kinds := [], alts := [], laidByText := true, laidKinds := [.data, .data, .data], laidTests := true, laidLooks := .later }
def DaysNumbersCardSaid : Prop := Claim7.holds Tryd.pinned (.plain (OpenSpec.ofChange daysNumbersSpec)) daysNumbersCard

/-- THE TIED CARD OF 'cellarerlaw20.DaysGo'. -/
def daysGoCard : Claim7 := { stood := { row := daysGoRow, standIns := [], harness := (true, "425a64eaa68aa037876fec37bd5d3d1f643e91a8eee96145b1865936f7761d08"), looks := false }, kinds := [], alts := [], laidByText := true, laidKinds := [.data, .data, .data], laidTests := true, laidLooks := .later }
def DaysGoCardSaid : Prop := Claim7.holds Tryd.pinned (.plain (OpenSpec.ofChange daysGoSpec)) daysGoCard

/-- THE TIED CARD OF 'cellarerlaw20.DaysDates'. -/
def daysDatesCard : Claim7 := { stood := { row := daysDatesRow, standIns := [], harness := (true, "425a64eaa68aa037876fec37bd5d3d1f643e91a8eee96145b1865936f7761d08"), looks := false }, kinds := [], alts := [], laidByText := true, laidKinds := [.data, .data, .data], laidTests := true, laidLooks := .later }
def DaysDatesCardSaid : Prop := Claim7.holds Tryd.pinned (.plain (OpenSpec.ofChange daysDatesSpec)) daysDatesCard

/-- THE TIED CARD OF 'cellarerlaw20.DaysFour'. -/
def daysFourCard : Claim7 := { stood := { row := daysFourRow, standIns := [], harness := (true, "425a64eaa68aa037876fec37bd5d3d1f643e91a8eee96145b1865936f7761d08"), looks := false }, kinds := [], alts := [], laidByText := true, laidKinds := [.data, .data, .data], laidTests := true, laidLooks := .later }
def DaysFourCardSaid : Prop := Claim7.holds Tryd.pinned (.plain (OpenSpec.ofChange daysFourSpec)) daysFourCard

/-- THE SECOND FORM's CARD OF 'cellarerlaw20.DaysNumbers'. -/
def daysNumbersUptoCard : Claim7 := { stood := { row := daysNumbersUptoRow, standIns := [], harness := (true, "425a64eaa68aa037876fec37bd5d3d1f643e91a8eee96145b1865936f7761d08"), looks := false }, kinds := [], alts := [], laidByText := true, laidKinds := [.data, .data, .data], laidTests := true, laidLooks := .later }
def DaysNumbersUptoCardSaid : Prop := Claim7.holds Tryd.pinned (.plain (OpenSpec.upto daysNumbersSpec)) daysNumbersUptoCard

/-- THE SECOND FORM's CARD OF 'cellarerlaw20.DaysGo'. -/
def daysGoUptoCard : Claim7 := { stood := { row := daysGoUptoRow, standIns := [], harness := (true, "425a64eaa68aa037876fec37bd5d3d1f643e91a8eee96145b1865936f7761d08"), looks := false }, kinds := [], alts := [], laidByText := true, laidKinds := [.data, .data, .data], laidTests := true, laidLooks := .later }
def DaysGoUptoCardSaid : Prop := Claim7.holds Tryd.pinned (.plain (OpenSpec.upto daysGoSpec)) daysGoUptoCard

/-- THE SECOND FORM's CARD OF 'cellarerlaw20.DaysDates'. -/
def daysDatesUptoCard : Claim7 := { stood := { row := daysDatesUptoRow, standIns := [], harness := (true, "425a64eaa68aa037876fec37bd5d3d1f643e91a8eee96145b1865936f7761d08"), looks := false }, kinds := [], alts := [], laidByText := true, laidKinds := [.data, .data, .data], laidTests := true, laidLooks := .later }
def DaysDatesUptoCardSaid : Prop := Claim7.holds Tryd.pinned (.plain (OpenSpec.upto daysDatesSpec)) daysDatesUptoCard

/-- THE SECOND FORM's CARD OF 'cellarerlaw20.DaysFour'. -/
def daysFourUptoCard : Claim7 := { stood := { row := daysFourUptoRow, standIns := [], harness := (true, "425a64eaa68aa037876fec37bd5d3d1f643e91a8eee96145b1865936f7761d08"), looks := false }, kinds := [], alts := [], laidByText := true, laidKinds := [.data, .data, .data], laidTests := true, laidLooks := .later }
def DaysFourUptoCardSaid : Prop := Claim7.holds Tryd.pinned (.plain (OpenSpec.upto daysFourSpec)) daysFourUptoCard
end Rows
end Go.Proofs.YthmijkpkegdcdaaDoor
