/- A configuration as it lies in memory. -/
import Derived.Test.YtnfemofighgenabChkR
import Derived.Test.YtnfemofighgenabConfO
namespace Go.Proofs.Ytnfemofighgenab
open Go.RowKit
set_option linter.unusedVariables false

/-- A configuration that lies in block g. -/
def CnfAt (w : World) (g : Nat) (mn bt mx : Int) : Prop := w.heap[g]? = some (.cells #[.int .i64 mn, .int .i64 bt, .int .i64 mx] 24 (0, 0))
theorem CnfAt.new (w : World) (mn bt mx : Int) : CnfAt (w.alloc (.cells #[.int .i64 mn, .int .i64 bt, .int .i64 mx] 24)) w.heap.size mn bt mx := heap_alloc_new w _
theorem CnfAt.lt {w : World} {g : Nat} {mn bt mx : Int} (h : CnfAt w g mn bt mx) : g < w.heap.size := (Array.getElem?_eq_some_iff.1 h).1
theorem CnfAt.below {w w' : World} {g : Nat} {mn bt mx : Int} (h : CnfAt w g mn bt mx) (hb : Below w.heap.size w w') : CnfAt w' g mn bt mx := (hb.block g h.lt).trans h
theorem CnfAt.cells {w : World} {g : Nat} {mn bt mx : Int} (h : CnfAt w g mn bt mx) : w.cell? ⟨g, 0, none⟩ = some (.int .i64 mn) ∧ w.cell? ⟨g, 1, none⟩ = some (.int .i64 bt) ∧ w.cell? ⟨g, 2, none⟩ = some (.int .i64 mx) := by
  refine ⟨?_, ?_, ?_⟩ <;> (rw [cell_of_row _ _ _ _ _ _ h]; rfl)
end Go.Proofs.Ytnfemofighgenab
