/-
  No cell of these rows narrows 'for every input' (looked for: loops, veiled, ifaces, maps, wideKeys, modest, calm, conditions, laid).
  DERIVED. THE GIVEN ROWS OF THIS SEAT. 5 by the template 'for every input the law returns true; each argument reads behind the call as it read before'; 0 by the template 'total and deterministic' (their statements: YtbkaeibjhnndfaaTotals.lean).
  GIVEN WITH THE SEED: the statements are not yours to turn. If you find one false, say at which input.
  Laid BY PROGRAM, IN A SANDBOX (cutbox-rows.mjs): the forced cells as the released guide's own fill.sh prints them over the translation bae95b26bd376104… (all of the seat's roots in one cut). By AI agents, Wed Nov 11 2026. No macro, syntax, notation, axiom, sorry.
-/
import Derived.Test.YtbkaeibjhnndfaaChecked
import GoSem.Claim
import GoSem.ClaimJoined
import GoSem.ClaimMapViews
import Derived.JoinedTies
import Derived.KernelRfl
namespace Go.Proofs.Ytbkaeibjhnndfaa
/- THE CELL 'sum', in the pinned program and in every row, IS THE sha256 OF THE DUMP (.gsa) THAT YtbkaeibjhnndfaaProg.lean LOADS. Nothing in Lean hashes anything: it is a label: what it is worth is what the hold of that sum in a sandbox is worth. -/
noncomputable def Try.pinned : Pinned := { name := "ytbkaeibjhnndfaa", sum := "bae95b26bd3761043e40aff48de786d001e91ac0d6f7303c5dc67f935c2a3c6d", checked := Try.checked }
namespace Rows
def none {H : Type} : Left H := { results := [], args := [] }

/-- 'cellarerlaw03.BitioTakes': WHATEVER THE INPUT: true; the input reads as it did. -/
def bitioTakesSpec : ChangeSpec := { name := "bitioTakes", fn := fun _ => fun
  | [d1, d2] => { results := [.lit (.bool true)], args := [d1, d2] }
  | _ => none }
def bitioTakesRow : OpenClaim := { program := "ytbkaeibjhnndfaa", sum := "bae95b26bd3761043e40aff48de786d001e91ac0d6f7303c5dc67f935c2a3c6d", func := "cellarer/cellarerlaw03.BitioTakes", spec := "bitioTakes", apart := false }
def BitioTakesSaid : Prop := bitioTakesRow.holds Try.pinned (OpenSpec.ofChange bitioTakesSpec)

/-- ITS FALSE NEIGHBOUR: 'it returns false'. Refute it at one input. -/
def bitioTakesWrong : ChangeSpec := { name := "bitioTakes", fn := fun _ => fun
  | [d1, d2] => { results := [.lit (.bool false)], args := [d1, d2] }
  | _ => none }
def BitioTakesWrongFalsely : Prop := bitioTakesRow.holds Try.pinned (OpenSpec.ofChange bitioTakesWrong)

/-- 'cellarerlaw03.BitioPuts': WHATEVER THE INPUT: true; the input reads as it did. -/
def bitioPutsSpec : ChangeSpec := { name := "bitioPuts", fn := fun _ => fun
  | [d] => { results := [.lit (.bool true)], args := [d] }
  | _ => none }
def bitioPutsRow : OpenClaim := { program := "ytbkaeibjhnndfaa", sum := "bae95b26bd3761043e40aff48de786d001e91ac0d6f7303c5dc67f935c2a3c6d", func := "cellarer/cellarerlaw03.BitioPuts", spec := "bitioPuts", apart := false }
def BitioPutsSaid : Prop := bitioPutsRow.holds Try.pinned (OpenSpec.ofChange bitioPutsSpec)

/-- ITS FALSE NEIGHBOUR: 'it returns false'. Refute it at one input. -/
def bitioPutsWrong : ChangeSpec := { name := "bitioPuts", fn := fun _ => fun
  | [d] => { results := [.lit (.bool false)], args := [d] }
  | _ => none }
def BitioPutsWrongFalsely : Prop := bitioPutsRow.holds Try.pinned (OpenSpec.ofChange bitioPutsWrong)

/-- 'cellarerlaw03.BitioAgain': WHATEVER THE INPUT: true; the input reads as it did. -/
def bitioAgainSpec : ChangeSpec := { name := "bitioAgain", fn := fun _ => fun
  | [d] => { results := [.lit (.bool true)], args := [d] }
  | _ => none }
def bitioAgainRow : OpenClaim := { program := "ytbkaeibjhnndfaa", sum := "bae95b26bd3761043e40aff48de786d001e91ac0d6f7303c5dc67f935c2a3c6d", func := "cellarer/cellarerlaw03.BitioAgain", spec := "bitioAgain", apart := false }
def BitioAgainSaid : Prop := bitioAgainRow.holds Try.pinned (OpenSpec.ofChange bitioAgainSpec)

/-- ITS FALSE NEIGHBOUR: 'it returns false'. Refute it at one input. -/
def bitioAgainWrong : ChangeSpec := { name := "bitioAgain", fn := fun _ => fun
  | [d] => { results := [.lit (.bool false)], args := [d] }
  | _ => none }
def BitioAgainWrongFalsely : Prop := bitioAgainRow.holds Try.pinned (OpenSpec.ofChange bitioAgainWrong)

/-- 'cellarerlaw03.BitioParts': WHATEVER THE INPUT: true; the input reads as it did. -/
def bitioPartsSpec : ChangeSpec := { name := "bitioParts", fn := fun _ => fun
  | [d1, d2, d3, d4] => { results := [.lit (.bool true)], args := [d1, d2, d3, d4] }
  | _ => none }
def bitioPartsRow : OpenClaim := { program := "ytbkaeibjhnndfaa", sum := "bae95b26bd3761043e40aff48de786d001e91ac0d6f7303c5dc67f935c2a3c6d", func := "cellarer/cellarerlaw03.BitioParts", spec := "bitioParts", apart := false }
def BitioPartsSaid : Prop := bitioPartsRow.holds Try.pinned (OpenSpec.ofChange bitioPartsSpec)

/-- ITS FALSE NEIGHBOUR: 'it returns false'. Refute it at one input. -/
def bitioPartsWrong : ChangeSpec := { name := "bitioParts", fn := fun _ => fun
  | [d1, d2, d3, d4] => { results := [.lit (.bool false)], args := [d1, d2, d3, d4] }
  | _ => none }
def BitioPartsWrongFalsely : Prop := bitioPartsRow.holds Try.pinned (OpenSpec.ofChange bitioPartsWrong)

/-- 'cellarerlaw04.HuffCodes': WHATEVER THE INPUT: true; the input reads as it did. -/
def huffCodesSpec : ChangeSpec := { name := "huffCodes", fn := fun _ => fun
  | [d] => { results := [.lit (.bool true)], args := [d] }
  | _ => none }
def huffCodesRow : OpenClaim := { program := "ytbkaeibjhnndfaa", sum := "bae95b26bd3761043e40aff48de786d001e91ac0d6f7303c5dc67f935c2a3c6d", func := "cellarer/cellarerlaw04.HuffCodes", spec := "huffCodes", apart := false }
def HuffCodesSaid : Prop := huffCodesRow.holds Try.pinned (OpenSpec.ofChange huffCodesSpec)

/-- ITS FALSE NEIGHBOUR: 'it returns false'. Refute it at one input. -/
def huffCodesWrong : ChangeSpec := { name := "huffCodes", fn := fun _ => fun
  | [d] => { results := [.lit (.bool false)], args := [d] }
  | _ => none }
def HuffCodesWrongFalsely : Prop := huffCodesRow.holds Try.pinned (OpenSpec.ofChange huffCodesWrong)

/- THE SECOND FORM. 'bulk': how many values and letters a reading holds, each counted each time it is reached (what is shared counts as often as it is met; a slice's spare places count too). A statement '..UptoSaid' is the law's where the arguments, and the package variables that the reading takes, are together of bulk at most 1048576: NARROWER than '..Said'. Prove '..Said' where nothing that the law and all that it calls make is longer than what came in: it says more and counts as full. Else prove '..UptoSaid'. A law counts once. -/
mutual
def uptoBulk {H : Type} : DataW H → Nat
  | .lit (.string bytes) => bytes.length + 1
  | .lit _ => 1
  | .nil => 1
  | .ptr d => uptoBulk d + 1
  | .slice elems spare => uptoBulkAll elems + uptoBulkAll spare + 1
  | .agg parts => uptoBulkAll parts + 1
  | .iface _ d => uptoBulk d + 1
  | .map entries => uptoBulkEntries entries + 1
  | .held _ => 1
def uptoBulkAll {H : Type} : List (DataW H) → Nat
  | [] => 0
  | d :: r => uptoBulk d + uptoBulkAll r
def uptoBulkEntries {H : Type} : List (Lit × DataW H) → Nat
  | [] => 0
  | x :: r => uptoBulkEntry x + uptoBulkEntries r
def uptoBulkEntry {H : Type} : Lit × DataW H → Nat
  | (.string bytes, d) => bytes.length + uptoBulk d + 1
  | (_, d) => uptoBulk d + 1
 end
def uptoSmall : (H : Type) → List (DataW H) → Bool := fun _ ds => decide (uptoBulkAll ds ≤ 1048576)
def OpenSpec.upto (s : _root_.Go.ChangeSpec) : _root_.Go.OpenSpec := { _root_.Go.OpenSpec.ofChange s with cond := some uptoSmall }

/-- 'cellarerlaw03.BitioTakes', WHERE WHAT IT READS IS OF BULK AT MOST 1048576: true; the input reads as it did. -/
def bitioTakesUptoRow : OpenClaim := { program := "ytbkaeibjhnndfaa", sum := "bae95b26bd3761043e40aff48de786d001e91ac0d6f7303c5dc67f935c2a3c6d", func := "cellarer/cellarerlaw03.BitioTakes", spec := "bitioTakes", apart := false, narrowed := true }
def BitioTakesUptoSaid : Prop := bitioTakesUptoRow.holds Try.pinned (OpenSpec.upto bitioTakesSpec)

/-- 'cellarerlaw03.BitioPuts', WHERE WHAT IT READS IS OF BULK AT MOST 1048576: true; the input reads as it did. -/
def bitioPutsUptoRow : OpenClaim := { program := "ytbkaeibjhnndfaa", sum := "bae95b26bd3761043e40aff48de786d001e91ac0d6f7303c5dc67f935c2a3c6d", func := "cellarer/cellarerlaw03.BitioPuts", spec := "bitioPuts", apart := false, narrowed := true }
def BitioPutsUptoSaid : Prop := bitioPutsUptoRow.holds Try.pinned (OpenSpec.upto bitioPutsSpec)

/-- 'cellarerlaw03.BitioAgain', WHERE WHAT IT READS IS OF BULK AT MOST 1048576: true; the input reads as it did. -/
def bitioAgainUptoRow : OpenClaim := { program := "ytbkaeibjhnndfaa", sum := "bae95b26bd3761043e40aff48de786d001e91ac0d6f7303c5dc67f935c2a3c6d", func := "cellarer/cellarerlaw03.BitioAgain", spec := "bitioAgain", apart := false, narrowed := true }
def BitioAgainUptoSaid : Prop := bitioAgainUptoRow.holds Try.pinned (OpenSpec.upto bitioAgainSpec)

/-- 'cellarerlaw03.BitioParts', WHERE WHAT IT READS IS OF BULK AT MOST 1048576: true; the input reads as it did. -/
def bitioPartsUptoRow : OpenClaim := { program := "ytbkaeibjhnndfaa", sum := "bae95b26bd3761043e40aff48de786d001e91ac0d6f7303c5dc67f935c2a3c6d", func := "cellarer/cellarerlaw03.BitioParts", spec := "bitioParts", apart := false, narrowed := true }
def BitioPartsUptoSaid : Prop := bitioPartsUptoRow.holds Try.pinned (OpenSpec.upto bitioPartsSpec)

/-- 'cellarerlaw04.HuffCodes', WHERE WHAT IT READS IS OF BULK AT MOST 1048576: true; the input reads as it did. -/
def huffCodesUptoRow : OpenClaim := { program := "ytbkaeibjhnndfaa", sum := "bae95b26bd3761043e40aff48de786d001e91ac0d6f7303c5dc67f935c2a3c6d", func := "cellarer/cellarerlaw04.HuffCodes", spec := "huffCodes", apart := false, narrowed := true }
def HuffCodesUptoSaid : Prop := huffCodesUptoRow.holds Try.pinned (OpenSpec.upto huffCodesSpec)

end Rows
end Go.Proofs.Ytbkaeibjhnndfaa
