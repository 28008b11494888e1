/- Two streams, read: the plain mathematics. -/
import Derived.Test.YtibnkpfginffhacInfI
namespace Go.Proofs.Ytibnkpfginffhac
open Go.RowKit
set_option linter.unusedVariables false

def sA : ByteArray := ⟨#[75, 4, 0]⟩
def sB : ByteArray := ⟨#[1, 2, 0, 253, 255, 97, 98]⟩
theorem awB : blksF (bF8 sB) (8 * sB.size) 9 (8 * sB.size + 1) 0 0 [] = .ok ([⟨0, [97, 98], []⟩], 56) := by kernel_rfl
theorem awA : blksF (bF8 sA) (8 * sA.size) 9 (8 * sA.size + 1) 0 0 [] = .ok ([⟨1, [], [⟨97, 0, 0⟩]⟩], 18) := by kernel_rfl
theorem awE : bs (expF 9223372036854775807 (jkP [⟨1, [], [⟨97, 0, 0⟩]⟩]) []).1 = ⟨#[97]⟩ := by kernel_rfl
theorem awSA : sA = sA.extract 0 sA.size := by decide +kernel
theorem awSB : sB = sB.extract 0 sB.size := by decide +kernel
end Go.Proofs.Ytibnkpfginffhac
