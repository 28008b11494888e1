/-
  No cell of these rows narrows 'for every input' (looked for: loops, veiled, ifaces, maps, wideKeys, modest, calm, conditions, laid).
  DERIVED. THE GIVEN ROWS OF THIS SEAT. 5 by the template 'for every input the law returns true; each argument reads behind the call as it read before'; 0 by the template 'total and deterministic' (their statements: YtibnkpfginffhaaTotals.lean).
  GIVEN WITH THE SEED: the statements are not yours to turn. If you find one false, say at which input.
  Laid BY PROGRAM, IN A SANDBOX (cutbox-rows.mjs): the forced cells as the released guide's own fill.sh prints them over the translation c2704a4582a0e8b5… (all of the seat's roots in one cut). By AI agents, Wed Nov 11 2026. No macro, syntax, notation, axiom, sorry.
-/
import Derived.Test.YtibnkpfginffhaaChecked
import GoSem.Claim
import GoSem.ClaimJoined
import GoSem.ClaimMapViews
import Derived.JoinedTies
import Derived.KernelRfl
namespace Go.Proofs.Ytibnkpfginffhaa
/- THE CELL 'sum', in the pinned program and in every row, IS THE sha256 OF THE DUMP (.gsa) THAT YtibnkpfginffhaaProg.lean LOADS. Nothing in Lean hashes anything: it is a label: what it is worth is what the hold of that sum in a sandbox is worth. -/
noncomputable def Try.pinned : Pinned := { name := "ytibnkpfginffhaa", sum := "c2704a4582a0e8b5411e14f43f83f8bad36305eb114316958c442f7587ede760", checked := Try.checked }
namespace Rows
def none {H : Type} : Left H := { results := [], args := [] }

/-- 'cellarerlaw04.HuffLengths': WHATEVER THE INPUT: true; the input reads as it did. -/
def huffLengthsSpec : ChangeSpec := { name := "huffLengths", fn := fun _ => fun
  | [d1, d2] => { results := [.lit (.bool true)], args := [d1, d2] }
  | _ => none }
def huffLengthsRow : OpenClaim := { program := "ytibnkpfginffhaa", sum := "c2704a4582a0e8b5411e14f43f83f8bad36305eb114316958c442f7587ede760", func := "cellarer/cellarerlaw04.HuffLengths", spec := "huffLengths", unfollowed := true, recurses := true, apart := false }
def HuffLengthsSaid : Prop := huffLengthsRow.holds Try.pinned (OpenSpec.ofChange huffLengthsSpec)

/-- ITS FALSE NEIGHBOUR: 'it returns false'. Refute it at one input. -/
def huffLengthsWrong : ChangeSpec := { name := "huffLengths", fn := fun _ => fun
  | [d1, d2] => { results := [.lit (.bool false)], args := [d1, d2] }
  | _ => none }
def HuffLengthsWrongFalsely : Prop := huffLengthsRow.holds Try.pinned (OpenSpec.ofChange huffLengthsWrong)

/-- 'cellarerlaw06.InflateBlocks': WHATEVER THE INPUT: true; the input reads as it did. -/
def inflateBlocksSpec : ChangeSpec := { name := "inflateBlocks", fn := fun _ => fun
  | [d1, d2, d3] => { results := [.lit (.bool true)], args := [d1, d2, d3] }
  | _ => none }
def inflateBlocksRow : OpenClaim := { program := "ytibnkpfginffhaa", sum := "c2704a4582a0e8b5411e14f43f83f8bad36305eb114316958c442f7587ede760", func := "cellarer/cellarerlaw06.InflateBlocks", spec := "inflateBlocks", apart := false }
def InflateBlocksSaid : Prop := inflateBlocksRow.holds Try.pinned (OpenSpec.ofChange inflateBlocksSpec)

/-- ITS FALSE NEIGHBOUR: 'it returns false'. Refute it at one input. -/
def inflateBlocksWrong : ChangeSpec := { name := "inflateBlocks", fn := fun _ => fun
  | [d1, d2, d3] => { results := [.lit (.bool false)], args := [d1, d2, d3] }
  | _ => none }
def InflateBlocksWrongFalsely : Prop := inflateBlocksRow.holds Try.pinned (OpenSpec.ofChange inflateBlocksWrong)

/-- 'cellarerlaw06.InflateLong': WHATEVER THE INPUT: true; the input reads as it did. -/
def inflateLongSpec : ChangeSpec := { name := "inflateLong", fn := fun _ => fun
  | [d1, d2] => { results := [.lit (.bool true)], args := [d1, d2] }
  | _ => none }
def inflateLongRow : OpenClaim := { program := "ytibnkpfginffhaa", sum := "c2704a4582a0e8b5411e14f43f83f8bad36305eb114316958c442f7587ede760", func := "cellarer/cellarerlaw06.InflateLong", spec := "inflateLong", apart := false }
def InflateLongSaid : Prop := inflateLongRow.holds Try.pinned (OpenSpec.ofChange inflateLongSpec)

/-- ITS FALSE NEIGHBOUR: 'it returns false'. Refute it at one input. -/
def inflateLongWrong : ChangeSpec := { name := "inflateLong", fn := fun _ => fun
  | [d1, d2] => { results := [.lit (.bool false)], args := [d1, d2] }
  | _ => none }
def InflateLongWrongFalsely : Prop := inflateLongRow.holds Try.pinned (OpenSpec.ofChange inflateLongWrong)

/-- 'cellarerlaw07.DeflateSteps': WHATEVER THE INPUT: true; the input reads as it did. -/
def deflateStepsSpec : ChangeSpec := { name := "deflateSteps", fn := fun _ => fun
  | [d] => { results := [.lit (.bool true)], args := [d] }
  | _ => none }
def deflateStepsRow : OpenClaim := { program := "ytibnkpfginffhaa", sum := "c2704a4582a0e8b5411e14f43f83f8bad36305eb114316958c442f7587ede760", func := "cellarer/cellarerlaw07.DeflateSteps", spec := "deflateSteps", inPlace := ["internal/abi.NoEscape"], apart := false }
def DeflateStepsSaid : Prop := deflateStepsRow.holds Try.pinned (OpenSpec.ofChange deflateStepsSpec)

/-- ITS FALSE NEIGHBOUR: 'it returns false'. Refute it at one input. -/
def deflateStepsWrong : ChangeSpec := { name := "deflateSteps", fn := fun _ => fun
  | [d] => { results := [.lit (.bool false)], args := [d] }
  | _ => none }
def DeflateStepsWrongFalsely : Prop := deflateStepsRow.holds Try.pinned (OpenSpec.ofChange deflateStepsWrong)

/-- 'cellarerlaw07.DeflateStores': WHATEVER THE INPUT: true; the input reads as it did. -/
def deflateStoresSpec : ChangeSpec := { name := "deflateStores", fn := fun _ => fun
  | [d1, d2] => { results := [.lit (.bool true)], args := [d1, d2] }
  | _ => none }
def deflateStoresRow : OpenClaim := { program := "ytibnkpfginffhaa", sum := "c2704a4582a0e8b5411e14f43f83f8bad36305eb114316958c442f7587ede760", func := "cellarer/cellarerlaw07.DeflateStores", spec := "deflateStores", inPlace := ["internal/abi.NoEscape"], recurses := true, apart := false }
def DeflateStoresSaid : Prop := deflateStoresRow.holds Try.pinned (OpenSpec.ofChange deflateStoresSpec)

/-- ITS FALSE NEIGHBOUR: 'it returns false'. Refute it at one input. -/
def deflateStoresWrong : ChangeSpec := { name := "deflateStores", fn := fun _ => fun
  | [d1, d2] => { results := [.lit (.bool false)], args := [d1, d2] }
  | _ => none }
def DeflateStoresWrongFalsely : Prop := deflateStoresRow.holds Try.pinned (OpenSpec.ofChange deflateStoresWrong)

/- THE SECOND FORM. 'bulk': how many values and letters a reading holds, each counted each time it is reached (what is shared counts as often as it is met; a slice's spare places count too). A statement '..UptoSaid' is the law's where the arguments, and the package variables that the reading takes, are together of bulk at most 1048576: NARROWER than '..Said'. Prove '..Said' where nothing that the law and all that it calls make is longer than what came in: it says more and counts as full. Else prove '..UptoSaid'. A law counts once. -/
mutual
def uptoBulk {H : Type} : DataW H → Nat
  | .lit (.string bytes) => bytes.length + 1
  | .lit _ => 1
  | .nil => 1
  | .ptr d => uptoBulk d + 1
  | .slice elems spare => uptoBulkAll elems + uptoBulkAll spare + 1
  | .agg parts => uptoBulkAll parts + 1
  | .iface _ d => uptoBulk d + 1
  | .map entries => uptoBulkEntries entries + 1
  | .held _ => 1
def uptoBulkAll {H : Type} : List (DataW H) → Nat
  | [] => 0
  | d :: r => uptoBulk d + uptoBulkAll r
def uptoBulkEntries {H : Type} : List (Lit × DataW H) → Nat
  | [] => 0
  | x :: r => uptoBulkEntry x + uptoBulkEntries r
def uptoBulkEntry {H : Type} : Lit × DataW H → Nat
  | (.string bytes, d) => bytes.length + uptoBulk d + 1
  | (_, d) => uptoBulk d + 1
 end
def uptoSmall : (H : Type) → List (DataW H) → Bool := fun _ ds => decide (uptoBulkAll ds ≤ 1048576)
def OpenSpec.upto (s : _root_.Go.ChangeSpec) : _root_.Go.OpenSpec := { _root_.Go.OpenSpec.ofChange s with cond := some uptoSmall }

/-- 'cellarerlaw04.HuffLengths', WHERE WHAT IT READS IS OF BULK AT MOST 1048576: true; the input reads as it did. -/
def huffLengthsUptoRow : OpenClaim := { program := "ytibnkpfginffhaa", sum := "c2704a4582a0e8b5411e14f43f83f8bad36305eb114316958c442f7587ede760", func := "cellarer/cellarerlaw04.HuffLengths", spec := "huffLengths", unfollowed := true, recurses := true, apart := false, narrowed := true }
def HuffLengthsUptoSaid : Prop := huffLengthsUptoRow.holds Try.pinned (OpenSpec.upto huffLengthsSpec)

/-- 'cellarerlaw06.InflateBlocks', WHERE WHAT IT READS IS OF BULK AT MOST 1048576: true; the input reads as it did. -/
def inflateBlocksUptoRow : OpenClaim := { program := "ytibnkpfginffhaa", sum := "c2704a4582a0e8b5411e14f43f83f8bad36305eb114316958c442f7587ede760", func := "cellarer/cellarerlaw06.InflateBlocks", spec := "inflateBlocks", apart := false, narrowed := true }
def InflateBlocksUptoSaid : Prop := inflateBlocksUptoRow.holds Try.pinned (OpenSpec.upto inflateBlocksSpec)

/-- 'cellarerlaw06.InflateLong', WHERE WHAT IT READS IS OF BULK AT MOST 1048576: true; the input reads as it did. -/
def inflateLongUptoRow : OpenClaim := { program := "ytibnkpfginffhaa", sum := "c2704a4582a0e8b5411e14f43f83f8bad36305eb114316958c442f7587ede760", func := "cellarer/cellarerlaw06.InflateLong", spec := "inflateLong", apart := false, narrowed := true }
def InflateLongUptoSaid : Prop := inflateLongUptoRow.holds Try.pinned (OpenSpec.upto inflateLongSpec)

/-- 'cellarerlaw07.DeflateSteps', WHERE WHAT IT READS IS OF BULK AT MOST 1048576: true; the input reads as it did. -/
def deflateStepsUptoRow : OpenClaim := { program := "ytibnkpfginffhaa", sum := "c2704a4582a0e8b5411e14f43f83f8bad36305eb114316958c442f7587ede760", func := "cellarer/cellarerlaw07.DeflateSteps", spec := "deflateSteps", inPlace := ["internal/abi.NoEscape"], apart := false, narrowed := true }
def DeflateStepsUptoSaid : Prop := deflateStepsUptoRow.holds Try.pinned (OpenSpec.upto deflateStepsSpec)

/-- 'cellarerlaw07.DeflateStores', WHERE WHAT IT READS IS OF BULK AT MOST 1048576: true; the input reads as it did. -/
def deflateStoresUptoRow : OpenClaim := { program := "ytibnkpfginffhaa", sum := "c2704a4582a0e8b5411e14f43f83f8bad36305eb114316958c442f7587ede760", func := "cellarer/cellarerlaw07.DeflateStores", spec := "deflateStores", inPlace := ["internal/abi.NoEscape"], recurses := true, apart := false, narrowed := true }
def DeflateStoresUptoSaid : Prop := deflateStoresUptoRow.holds Try.pinned (OpenSpec.upto deflateStoresSpec)

end Rows
end Go.Proofs.Ytibnkpfginffhaa
