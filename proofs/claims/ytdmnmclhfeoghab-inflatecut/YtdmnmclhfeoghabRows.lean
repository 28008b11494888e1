/-
  No cell of these rows narrows 'for every input' (looked for: loops, veiled, ifaces, maps, wideKeys, modest, calm, conditions, laid).
  DERIVED. THE GIVEN ROWS OF THIS SEAT. 6 by the template 'for every input the law returns true; each argument reads behind the call as it read before'; 0 by the template 'total and deterministic' (their statements: YtdmnmclhfeoghabTotals.lean).
  GIVEN WITH THE SEED: the statements are not yours to turn. If you find one false, say at which input.
  Laid BY PROGRAM, IN A SANDBOX (cutbox-rows.mjs): the forced cells as the released guide's own fill.sh prints them over the translation a71e48b468d02eed… (all of the seat's roots in one cut). By AI agents, Wed Nov 11 2026. No macro, syntax, notation, axiom, sorry.
-/
import Derived.Test.YtdmnmclhfeoghabChecked
import GoSem.Claim
import GoSem.ClaimJoined
import GoSem.ClaimMapViews
import Derived.JoinedTies
import Derived.KernelRfl
namespace Go.Proofs.Ytdmnmclhfeoghab
/- THE CELL 'sum', in the pinned program and in every row, IS THE sha256 OF THE DUMP (.gsa) THAT YtdmnmclhfeoghabProg.lean LOADS. Nothing in Lean hashes anything: it is a label: what it is worth is what the hold of that sum in a sandbox is worth. -/
noncomputable def Try.pinned : Pinned := { name := "ytdmnmclhfeoghab", sum := "a71e48b468d02eed3f3a1954b669667bbbec2b9eb85dcac639d317fda8b80ece", checked := Try.checked }
namespace Rows
def none {H : Type} : Left H := { results := [], args := [] }

/-- 'cellarerlaw06.InflateBlocks': WHATEVER THE INPUT: true; the input reads as it did. -/
def inflateBlocksSpec : ChangeSpec := { name := "inflateBlocks", fn := fun _ => fun
  | [d1, d2, d3] => { results := [.lit (.bool true)], args := [d1, d2, d3] }
  | _ => none }
def inflateBlocksRow : OpenClaim := { program := "ytdmnmclhfeoghab", sum := "a71e48b468d02eed3f3a1954b669667bbbec2b9eb85dcac639d317fda8b80ece", func := "cellarer/cellarerlaw06.InflateBlocks", spec := "inflateBlocks", apart := false }
def InflateBlocksSaid : Prop := inflateBlocksRow.holds Try.pinned (OpenSpec.ofChange inflateBlocksSpec)

/-- ITS FALSE NEIGHBOUR: 'it returns false'. Refute it at one input. -/
def inflateBlocksWrong : ChangeSpec := { name := "inflateBlocks", fn := fun _ => fun
  | [d1, d2, d3] => { results := [.lit (.bool false)], args := [d1, d2, d3] }
  | _ => none }
def InflateBlocksWrongFalsely : Prop := inflateBlocksRow.holds Try.pinned (OpenSpec.ofChange inflateBlocksWrong)

/-- 'cellarerlaw06.InflateSizes': WHATEVER THE INPUT: true; the input reads as it did. -/
def inflateSizesSpec : ChangeSpec := { name := "inflateSizes", fn := fun _ => fun
  | [d] => { results := [.lit (.bool true)], args := [d] }
  | _ => none }
def inflateSizesRow : OpenClaim := { program := "ytdmnmclhfeoghab", sum := "a71e48b468d02eed3f3a1954b669667bbbec2b9eb85dcac639d317fda8b80ece", func := "cellarer/cellarerlaw06.InflateSizes", spec := "inflateSizes", apart := false }
def InflateSizesSaid : Prop := inflateSizesRow.holds Try.pinned (OpenSpec.ofChange inflateSizesSpec)

/-- ITS FALSE NEIGHBOUR: 'it returns false'. Refute it at one input. -/
def inflateSizesWrong : ChangeSpec := { name := "inflateSizes", fn := fun _ => fun
  | [d] => { results := [.lit (.bool false)], args := [d] }
  | _ => none }
def InflateSizesWrongFalsely : Prop := inflateSizesRow.holds Try.pinned (OpenSpec.ofChange inflateSizesWrong)

/-- 'cellarerlaw06.InflateAnywhere': WHATEVER THE INPUT: true; the input reads as it did. -/
def inflateAnywhereSpec : ChangeSpec := { name := "inflateAnywhere", fn := fun _ => fun
  | [d1, d2, d3] => { results := [.lit (.bool true)], args := [d1, d2, d3] }
  | _ => none }
def inflateAnywhereRow : OpenClaim := { program := "ytdmnmclhfeoghab", sum := "a71e48b468d02eed3f3a1954b669667bbbec2b9eb85dcac639d317fda8b80ece", func := "cellarer/cellarerlaw06.InflateAnywhere", spec := "inflateAnywhere", apart := false }
def InflateAnywhereSaid : Prop := inflateAnywhereRow.holds Try.pinned (OpenSpec.ofChange inflateAnywhereSpec)

/-- ITS FALSE NEIGHBOUR: 'it returns false'. Refute it at one input. -/
def inflateAnywhereWrong : ChangeSpec := { name := "inflateAnywhere", fn := fun _ => fun
  | [d1, d2, d3] => { results := [.lit (.bool false)], args := [d1, d2, d3] }
  | _ => none }
def InflateAnywhereWrongFalsely : Prop := inflateAnywhereRow.holds Try.pinned (OpenSpec.ofChange inflateAnywhereWrong)

/-- 'cellarerlaw06.InflateCut': WHATEVER THE INPUT: true; the input reads as it did. -/
def inflateCutSpec : ChangeSpec := { name := "inflateCut", fn := fun _ => fun
  | [d1, d2, d3] => { results := [.lit (.bool true)], args := [d1, d2, d3] }
  | _ => none }
def inflateCutRow : OpenClaim := { program := "ytdmnmclhfeoghab", sum := "a71e48b468d02eed3f3a1954b669667bbbec2b9eb85dcac639d317fda8b80ece", func := "cellarer/cellarerlaw06.InflateCut", spec := "inflateCut", apart := false }
def InflateCutSaid : Prop := inflateCutRow.holds Try.pinned (OpenSpec.ofChange inflateCutSpec)

/-- ITS FALSE NEIGHBOUR: 'it returns false'. Refute it at one input. -/
def inflateCutWrong : ChangeSpec := { name := "inflateCut", fn := fun _ => fun
  | [d1, d2, d3] => { results := [.lit (.bool false)], args := [d1, d2, d3] }
  | _ => none }
def InflateCutWrongFalsely : Prop := inflateCutRow.holds Try.pinned (OpenSpec.ofChange inflateCutWrong)

/-- 'cellarerlaw06.InflateLong': WHATEVER THE INPUT: true; the input reads as it did. -/
def inflateLongSpec : ChangeSpec := { name := "inflateLong", fn := fun _ => fun
  | [d1, d2] => { results := [.lit (.bool true)], args := [d1, d2] }
  | _ => none }
def inflateLongRow : OpenClaim := { program := "ytdmnmclhfeoghab", sum := "a71e48b468d02eed3f3a1954b669667bbbec2b9eb85dcac639d317fda8b80ece", func := "cellarer/cellarerlaw06.InflateLong", spec := "inflateLong", apart := false }
def InflateLongSaid : Prop := inflateLongRow.holds Try.pinned (OpenSpec.ofChange inflateLongSpec)

/-- ITS FALSE NEIGHBOUR: 'it returns false'. Refute it at one input. -/
def inflateLongWrong : ChangeSpec := { name := "inflateLong", fn := fun _ => fun
  | [d1, d2] => { results := [.lit (.bool false)], args := [d1, d2] }
  | _ => none }
def InflateLongWrongFalsely : Prop := inflateLongRow.holds Try.pinned (OpenSpec.ofChange inflateLongWrong)

/-- 'cellarertop.CellarerCodes': WHATEVER THE INPUT: true; the input reads as it did. -/
def cellarerCodesSpec : ChangeSpec := { name := "cellarerCodes", fn := fun _ => fun
  | [d1, d2] => { results := [.lit (.bool true)], args := [d1, d2] }
  | _ => none }
def cellarerCodesRow : OpenClaim := { program := "ytdmnmclhfeoghab", sum := "a71e48b468d02eed3f3a1954b669667bbbec2b9eb85dcac639d317fda8b80ece", func := "cellarer/cellarertop.CellarerCodes", spec := "cellarerCodes", unfollowed := true, recurses := true, apart := false }
def CellarerCodesSaid : Prop := cellarerCodesRow.holds Try.pinned (OpenSpec.ofChange cellarerCodesSpec)

/-- ITS FALSE NEIGHBOUR: 'it returns false'. Refute it at one input. -/
def cellarerCodesWrong : ChangeSpec := { name := "cellarerCodes", fn := fun _ => fun
  | [d1, d2] => { results := [.lit (.bool false)], args := [d1, d2] }
  | _ => none }
def CellarerCodesWrongFalsely : Prop := cellarerCodesRow.holds Try.pinned (OpenSpec.ofChange cellarerCodesWrong)

/- THE SECOND FORM. 'bulk': how many values and letters a reading holds, each counted each time it is reached (what is shared counts as often as it is met; a slice's spare places count too). A statement '..UptoSaid' is the law's where the arguments, and the package variables that the reading takes, are together of bulk at most 1048576: NARROWER than '..Said'. Prove '..Said' where nothing that the law and all that it calls make is longer than what came in: it says more and counts as full. Else prove '..UptoSaid'. A law counts once. -/
mutual
def uptoBulk {H : Type} : DataW H → Nat
  | .lit (.string bytes) => bytes.length + 1
  | .lit _ => 1
  | .nil => 1
  | .ptr d => uptoBulk d + 1
  | .slice elems spare => uptoBulkAll elems + uptoBulkAll spare + 1
  | .agg parts => uptoBulkAll parts + 1
  | .iface _ d => uptoBulk d + 1
  | .map entries => uptoBulkEntries entries + 1
  | .held _ => 1
def uptoBulkAll {H : Type} : List (DataW H) → Nat
  | [] => 0
  | d :: r => uptoBulk d + uptoBulkAll r
def uptoBulkEntries {H : Type} : List (Lit × DataW H) → Nat
  | [] => 0
  | x :: r => uptoBulkEntry x + uptoBulkEntries r
def uptoBulkEntry {H : Type} : Lit × DataW H → Nat
  | (.string bytes, d) => bytes.length + uptoBulk d + 1
  | (_, d) => uptoBulk d + 1
 end
def uptoSmall : (H : Type) → List (DataW H) → Bool := fun _ ds => decide (uptoBulkAll ds ≤ 1048576)
def OpenSpec.upto (s : _root_.Go.ChangeSpec) : _root_.Go.OpenSpec := { _root_.Go.OpenSpec.ofChange s with cond := some uptoSmall }

/-- 'cellarerlaw06.InflateBlocks', WHERE WHAT IT READS IS OF BULK AT MOST 1048576: true; the input reads as it did. -/
def inflateBlocksUptoRow : OpenClaim := { program := "ytdmnmclhfeoghab", sum := "a71e48b468d02eed3f3a1954b669667bbbec2b9eb85dcac639d317fda8b80ece", func := "cellarer/cellarerlaw06.InflateBlocks", spec := "inflateBlocks", apart := false, narrowed := true }
def InflateBlocksUptoSaid : Prop := inflateBlocksUptoRow.holds Try.pinned (OpenSpec.upto inflateBlocksSpec)

/-- 'cellarerlaw06.InflateSizes', WHERE WHAT IT READS IS OF BULK AT MOST 1048576: true; the input reads as it did. -/
def inflateSizesUptoRow : OpenClaim := { program := "ytdmnmclhfeoghab", sum := "a71e48b468d02eed3f3a1954b669667bbbec2b9eb85dcac639d317fda8b80ece", func := "cellarer/cellarerlaw06.InflateSizes", spec := "inflateSizes", apart := false, narrowed := true }
def InflateSizesUptoSaid : Prop := inflateSizesUptoRow.holds Try.pinned (OpenSpec.upto inflateSizesSpec)

/-- 'cellarerlaw06.InflateAnywhere', WHERE WHAT IT READS IS OF BULK AT MOST 1048576: true; the input reads as it did. -/
def inflateAnywhereUptoRow : OpenClaim := { program := "ytdmnmclhfeoghab", sum := "a71e48b468d02eed3f3a1954b669667bbbec2b9eb85dcac639d317fda8b80ece", func := "cellarer/cellarerlaw06.InflateAnywhere", spec := "inflateAnywhere", apart := false, narrowed := true }
def InflateAnywhereUptoSaid : Prop := inflateAnywhereUptoRow.holds Try.pinned (OpenSpec.upto inflateAnywhereSpec)

/-- 'cellarerlaw06.InflateCut', WHERE WHAT IT READS IS OF BULK AT MOST 1048576: true; the input reads as it did. -/
def inflateCutUptoRow : OpenClaim := { program := "ytdmnmclhfeoghab", sum := "a71e48b468d02eed3f3a1954b669667bbbec2b9eb85dcac639d317fda8b80ece", func := "cellarer/cellarerlaw06.InflateCut", spec := "inflateCut", apart := false, narrowed := true }
def InflateCutUptoSaid : Prop := inflateCutUptoRow.holds Try.pinned (OpenSpec.upto inflateCutSpec)

/-- 'cellarerlaw06.InflateLong', WHERE WHAT IT READS IS OF BULK AT MOST 1048576: true; the input reads as it did. -/
def inflateLongUptoRow : OpenClaim := { program := "ytdmnmclhfeoghab", sum := "a71e48b468d02eed3f3a1954b669667bbbec2b9eb85dcac639d317fda8b80ece", func := "cellarer/cellarerlaw06.InflateLong", spec := "inflateLong", apart := false, narrowed := true }
def InflateLongUptoSaid : Prop := inflateLongUptoRow.holds Try.pinned (OpenSpec.upto inflateLongSpec)

/-- 'cellarertop.CellarerCodes', WHERE WHAT IT READS IS OF BULK AT MOST 1048576: true; the input reads as it did. -/
def cellarerCodesUptoRow : OpenClaim := { program := "ytdmnmclhfeoghab", sum := "a71e48b468d02eed3f3a1954b669667bbbec2b9eb85dcac639d317fda8b80ece", func := "cellarer/cellarertop.CellarerCodes", spec := "cellarerCodes", unfollowed := true, recurses := true, apart := false, narrowed := true }
def CellarerCodesUptoSaid : Prop := cellarerCodesUptoRow.holds Try.pinned (OpenSpec.upto cellarerCodesSpec)

end Rows
end Go.Proofs.Ytdmnmclhfeoghab
