/- A number turned by the table's rule, so often (pure). -/
import Derived.Test.YtkaikjlklhcnlaaTab
namespace Go.Proofs.Ytkaikjlklhcnlaa
open Go.RowKit
set_option linter.unusedVariables false

def shfN : Nat → Nat → Nat
  | 0, b => b
  | k + 1, b => shf (shfN k b)
theorem shfN_lt (b : Nat) (h : b < 4294967296) : ∀ k, shfN k b < 4294967296
  | 0 => h
  | k + 1 => shf_lt _ (shfN_lt b h k)
theorem ent_shfN (b : Nat) : shfN 8 b = ent b := rfl
end Go.Proofs.Ytkaikjlklhcnlaa
