/- NodeKinds, as the card asks for it. -/
import Derived.Test.YtkgjepgaekbniaaDoorQWNodeKinds
import Derived.Test.YtkgjepgaekbniaaDoorQOpvN
namespace Go.Proofs.YtkgjepgaekbniaaDoor
open Go.RowKit
set_option linter.unusedVariables false

theorem lawNodeKinds_walk (v : Value) (r : Rc) (w : World) (h : IsRv w v r) (hL : Lay11 w) :
    Calls Tryd.prog 3 #[v] w fun e w' => e = .returned (.bool true) ∧ Below w.heap.size w w' := by
  obtain ⟨h1, h2, u, rfl, h3⟩ := h
  exact nodeKinds_x r u w h3 h1 h2 hL
end Go.Proofs.YtkgjepgaekbniaaDoor
