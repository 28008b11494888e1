/-
  No cell of these rows narrows 'for every input' (looked for: loops, veiled, ifaces, maps, wideKeys, modest, calm, conditions, laid).
  DERIVED. THE GIVEN ROWS OF THIS SEAT. 6 by the template 'for every input the law returns true; each argument reads behind the call as it read before'; 0 by the template 'total and deterministic' (their statements: YtnfemofighgenaaTotals.lean).
  GIVEN WITH THE SEED: the statements are not yours to turn. If you find one false, say at which input.
  Laid BY PROGRAM, IN A SANDBOX (cutbox-rows.mjs): the forced cells as the released guide's own fill.sh prints them over the translation da4667a9b0f82205… (all of the seat's roots in one cut). By AI agents, Wed Nov 11 2026. No macro, syntax, notation, axiom, sorry.
-/
import Derived.Test.YtnfemofighgenaaChecked
import GoSem.Claim
import GoSem.ClaimJoined
import GoSem.ClaimMapViews
import Derived.JoinedTies
import Derived.KernelRfl
namespace Go.Proofs.Ytnfemofighgenaa
/- THE CELL 'sum', in the pinned program and in every row, IS THE sha256 OF THE DUMP (.gsa) THAT YtnfemofighgenaaProg.lean LOADS. Nothing in Lean hashes anything: it is a label: what it is worth is what the hold of that sum in a sandbox is worth. -/
noncomputable def Try.pinned : Pinned := { name := "ytnfemofighgenaa", sum := "da4667a9b0f822057e7e53d9c5d0e18014ab86d27c721e460992adb9e48c93e7", checked := Try.checked }
namespace Rows
def none {H : Type} : Left H := { results := [], args := [] }

/-- 'cellarerlaw09.PolyRests': WHATEVER THE INPUT: true; the input reads as it did. -/
def polyRestsSpec : ChangeSpec := { name := "polyRests", fn := fun _ => fun
  | [d1, d2, d3] => { results := [.lit (.bool true)], args := [d1, d2, d3] }
  | _ => none }
def polyRestsRow : OpenClaim := { program := "ytnfemofighgenaa", sum := "da4667a9b0f822057e7e53d9c5d0e18014ab86d27c721e460992adb9e48c93e7", func := "cellarer/cellarerlaw09.PolyRests", spec := "polyRests", apart := false }
def PolyRestsSaid : Prop := polyRestsRow.holds Try.pinned (OpenSpec.ofChange polyRestsSpec)

/-- ITS FALSE NEIGHBOUR: 'it returns false'. Refute it at one input. -/
def polyRestsWrong : ChangeSpec := { name := "polyRests", fn := fun _ => fun
  | [d1, d2, d3] => { results := [.lit (.bool false)], args := [d1, d2, d3] }
  | _ => none }
def PolyRestsWrongFalsely : Prop := polyRestsRow.holds Try.pinned (OpenSpec.ofChange polyRestsWrong)

/-- 'cellarerlaw09.PolyTexts': WHATEVER THE INPUT: true; the input reads as it did. -/
def polyTextsSpec : ChangeSpec := { name := "polyTexts", fn := fun _ => fun
  | [d1, d2, d3, d4, d5] => { results := [.lit (.bool true)], args := [d1, d2, d3, d4, d5] }
  | _ => none }
def polyTextsRow : OpenClaim := { program := "ytnfemofighgenaa", sum := "da4667a9b0f822057e7e53d9c5d0e18014ab86d27c721e460992adb9e48c93e7", func := "cellarer/cellarerlaw09.PolyTexts", spec := "polyTexts", apart := false }
def PolyTextsSaid : Prop := polyTextsRow.holds Try.pinned (OpenSpec.ofChange polyTextsSpec)

/-- ITS FALSE NEIGHBOUR: 'it returns false'. Refute it at one input. -/
def polyTextsWrong : ChangeSpec := { name := "polyTexts", fn := fun _ => fun
  | [d1, d2, d3, d4, d5] => { results := [.lit (.bool false)], args := [d1, d2, d3, d4, d5] }
  | _ => none }
def PolyTextsWrongFalsely : Prop := polyTextsRow.holds Try.pinned (OpenSpec.ofChange polyTextsWrong)

/-- 'cellarerlaw09.PolyDivides': WHATEVER THE INPUT: true; the input reads as it did. -/
def polyDividesSpec : ChangeSpec := { name := "polyDivides", fn := fun _ => fun
  | [d1, d2, d3, d4] => { results := [.lit (.bool true)], args := [d1, d2, d3, d4] }
  | _ => none }
def polyDividesRow : OpenClaim := { program := "ytnfemofighgenaa", sum := "da4667a9b0f822057e7e53d9c5d0e18014ab86d27c721e460992adb9e48c93e7", func := "cellarer/cellarerlaw09.PolyDivides", spec := "polyDivides", apart := false }
def PolyDividesSaid : Prop := polyDividesRow.holds Try.pinned (OpenSpec.ofChange polyDividesSpec)

/-- ITS FALSE NEIGHBOUR: 'it returns false'. Refute it at one input. -/
def polyDividesWrong : ChangeSpec := { name := "polyDivides", fn := fun _ => fun
  | [d1, d2, d3, d4] => { results := [.lit (.bool false)], args := [d1, d2, d3, d4] }
  | _ => none }
def PolyDividesWrongFalsely : Prop := polyDividesRow.holds Try.pinned (OpenSpec.ofChange polyDividesWrong)

/-- 'cellarerlaw09.PolyRing': WHATEVER THE INPUT: true; the input reads as it did. -/
def polyRingSpec : ChangeSpec := { name := "polyRing", fn := fun _ => fun
  | [d1, d2, d3, d4, d5, d6] => { results := [.lit (.bool true)], args := [d1, d2, d3, d4, d5, d6] }
  | _ => none }
def polyRingRow : OpenClaim := { program := "ytnfemofighgenaa", sum := "da4667a9b0f822057e7e53d9c5d0e18014ab86d27c721e460992adb9e48c93e7", func := "cellarer/cellarerlaw09.PolyRing", spec := "polyRing", apart := false }
def PolyRingSaid : Prop := polyRingRow.holds Try.pinned (OpenSpec.ofChange polyRingSpec)

/-- ITS FALSE NEIGHBOUR: 'it returns false'. Refute it at one input. -/
def polyRingWrong : ChangeSpec := { name := "polyRing", fn := fun _ => fun
  | [d1, d2, d3, d4, d5, d6] => { results := [.lit (.bool false)], args := [d1, d2, d3, d4, d5, d6] }
  | _ => none }
def PolyRingWrongFalsely : Prop := polyRingRow.holds Try.pinned (OpenSpec.ofChange polyRingWrong)

/-- 'cellarerlaw09.PolyPrimes': WHATEVER THE INPUT: true; the input reads as it did. -/
def polyPrimesSpec : ChangeSpec := { name := "polyPrimes", fn := fun _ => fun
  | [d1, d2] => { results := [.lit (.bool true)], args := [d1, d2] }
  | _ => none }
def polyPrimesRow : OpenClaim := { program := "ytnfemofighgenaa", sum := "da4667a9b0f822057e7e53d9c5d0e18014ab86d27c721e460992adb9e48c93e7", func := "cellarer/cellarerlaw09.PolyPrimes", spec := "polyPrimes", apart := false }
def PolyPrimesSaid : Prop := polyPrimesRow.holds Try.pinned (OpenSpec.ofChange polyPrimesSpec)

/-- ITS FALSE NEIGHBOUR: 'it returns false'. Refute it at one input. -/
def polyPrimesWrong : ChangeSpec := { name := "polyPrimes", fn := fun _ => fun
  | [d1, d2] => { results := [.lit (.bool false)], args := [d1, d2] }
  | _ => none }
def PolyPrimesWrongFalsely : Prop := polyPrimesRow.holds Try.pinned (OpenSpec.ofChange polyPrimesWrong)

/-- 'cellarerlaw10.ChunkerSplits': WHATEVER THE INPUT: true; the input reads as it did. -/
def chunkerSplitsSpec : ChangeSpec := { name := "chunkerSplits", fn := fun _ => fun
  | [d1, d2] => { results := [.lit (.bool true)], args := [d1, d2] }
  | _ => none }
def chunkerSplitsRow : OpenClaim := { program := "ytnfemofighgenaa", sum := "da4667a9b0f822057e7e53d9c5d0e18014ab86d27c721e460992adb9e48c93e7", func := "cellarer/cellarerlaw10.ChunkerSplits", spec := "chunkerSplits", apart := false }
def ChunkerSplitsSaid : Prop := chunkerSplitsRow.holds Try.pinned (OpenSpec.ofChange chunkerSplitsSpec)

/-- ITS FALSE NEIGHBOUR: 'it returns false'. Refute it at one input. -/
def chunkerSplitsWrong : ChangeSpec := { name := "chunkerSplits", fn := fun _ => fun
  | [d1, d2] => { results := [.lit (.bool false)], args := [d1, d2] }
  | _ => none }
def ChunkerSplitsWrongFalsely : Prop := chunkerSplitsRow.holds Try.pinned (OpenSpec.ofChange chunkerSplitsWrong)

/- THE SECOND FORM. 'bulk': how many values and letters a reading holds, each counted each time it is reached (what is shared counts as often as it is met; a slice's spare places count too). A statement '..UptoSaid' is the law's where the arguments, and the package variables that the reading takes, are together of bulk at most 1048576: NARROWER than '..Said'. Prove '..Said' where nothing that the law and all that it calls make is longer than what came in: it says more and counts as full. Else prove '..UptoSaid'. A law counts once. -/
mutual
def uptoBulk {H : Type} : DataW H → Nat
  | .lit (.string bytes) => bytes.length + 1
  | .lit _ => 1
  | .nil => 1
  | .ptr d => uptoBulk d + 1
  | .slice elems spare => uptoBulkAll elems + uptoBulkAll spare + 1
  | .agg parts => uptoBulkAll parts + 1
  | .iface _ d => uptoBulk d + 1
  | .map entries => uptoBulkEntries entries + 1
  | .held _ => 1
def uptoBulkAll {H : Type} : List (DataW H) → Nat
  | [] => 0
  | d :: r => uptoBulk d + uptoBulkAll r
def uptoBulkEntries {H : Type} : List (Lit × DataW H) → Nat
  | [] => 0
  | x :: r => uptoBulkEntry x + uptoBulkEntries r
def uptoBulkEntry {H : Type} : Lit × DataW H → Nat
  | (.string bytes, d) => bytes.length + uptoBulk d + 1
  | (_, d) => uptoBulk d + 1
 end
def uptoSmall : (H : Type) → List (DataW H) → Bool := fun _ ds => decide (uptoBulkAll ds ≤ 1048576)
def OpenSpec.upto (s : _root_.Go.ChangeSpec) : _root_.Go.OpenSpec := { _root_.Go.OpenSpec.ofChange s with cond := some uptoSmall }

/-- 'cellarerlaw09.PolyRests', WHERE WHAT IT READS IS OF BULK AT MOST 1048576: true; the input reads as it did. -/
def polyRestsUptoRow : OpenClaim := { program := "ytnfemofighgenaa", sum := "da4667a9b0f822057e7e53d9c5d0e18014ab86d27c721e460992adb9e48c93e7", func := "cellarer/cellarerlaw09.PolyRests", spec := "polyRests", apart := false, narrowed := true }
def PolyRestsUptoSaid : Prop := polyRestsUptoRow.holds Try.pinned (OpenSpec.upto polyRestsSpec)

/-- 'cellarerlaw09.PolyTexts', WHERE WHAT IT READS IS OF BULK AT MOST 1048576: true; the input reads as it did. -/
def polyTextsUptoRow : OpenClaim := { program := "ytnfemofighgenaa", sum := "da4667a9b0f822057e7e53d9c5d0e18014ab86d27c721e460992adb9e48c93e7", func := "cellarer/cellarerlaw09.PolyTexts", spec := "polyTexts", apart := false, narrowed := true }
def PolyTextsUptoSaid : Prop := polyTextsUptoRow.holds Try.pinned (OpenSpec.upto polyTextsSpec)

/-- 'cellarerlaw09.PolyDivides', WHERE WHAT IT READS IS OF BULK AT MOST 1048576: true; the input reads as it did. -/
def polyDividesUptoRow : OpenClaim := { program := "ytnfemofighgenaa", sum := "da4667a9b0f822057e7e53d9c5d0e18014ab86d27c721e460992adb9e48c93e7", func := "cellarer/cellarerlaw09.PolyDivides", spec := "polyDivides", apart := false, narrowed := true }
def PolyDividesUptoSaid : Prop := polyDividesUptoRow.holds Try.pinned (OpenSpec.upto polyDividesSpec)

/-- 'cellarerlaw09.PolyRing', WHERE WHAT IT READS IS OF BULK AT MOST 1048576: true; the input reads as it did. -/
def polyRingUptoRow : OpenClaim := { program := "ytnfemofighgenaa", sum := "da4667a9b0f822057e7e53d9c5d0e18014ab86d27c721e460992adb9e48c93e7", func := "cellarer/cellarerlaw09.PolyRing", spec := "polyRing", apart := false, narrowed := true }
def PolyRingUptoSaid : Prop := polyRingUptoRow.holds Try.pinned (OpenSpec.upto polyRingSpec)

/-- 'cellarerlaw09.PolyPrimes', WHERE WHAT IT READS IS OF BULK AT MOST 1048576: true; the input reads as it did. -/
def polyPrimesUptoRow : OpenClaim := { program := "ytnfemofighgenaa", sum := "da4667a9b0f822057e7e53d9c5d0e18014ab86d27c721e460992adb9e48c93e7", func := "cellarer/cellarerlaw09.PolyPrimes", spec := "polyPrimes", apart := false, narrowed := true }
def PolyPrimesUptoSaid : Prop := polyPrimesUptoRow.holds Try.pinned (OpenSpec.upto polyPrimesSpec)

/-- 'cellarerlaw10.ChunkerSplits', WHERE WHAT IT READS IS OF BULK AT MOST 1048576: true; the input reads as it did. -/
def chunkerSplitsUptoRow : OpenClaim := { program := "ytnfemofighgenaa", sum := "da4667a9b0f822057e7e53d9c5d0e18014ab86d27c721e460992adb9e48c93e7", func := "cellarer/cellarerlaw10.ChunkerSplits", spec := "chunkerSplits", apart := false, narrowed := true }
def ChunkerSplitsUptoSaid : Prop := chunkerSplitsUptoRow.holds Try.pinned (OpenSpec.upto chunkerSplitsSpec)

end Rows
end Go.Proofs.Ytnfemofighgenaa
