/- Contract of the document's Table: the eight words of the beginning, and the 64 of the steps. -/
import Derived.Test.YtlnagnkiadlfpaaDoorRows
import Derived.Test.YtlnagnkiadlfpaaDoorHashM
import Derived.Great.BuildSlice
namespace Go.Proofs.YtlnagnkiadlfpaaDoor
open Go.RowKit
set_option linter.unusedVariables false

/-- A row of numbers of 64 bits as cells. -/
def ul (l : List Nat) : Array Value := ((l.map fun n : Nat => (n : Int)).map (Value.int .u64)).toArray
theorem ul_at (l : List Nat) (j : Nat) (h : j < l.length) : (ul l)[j]? = some (.int .u64 (l.getD j 0 : Int)) := by
  simp [ul, List.getElem?_map, List.getElem?_eq_getElem h, List.getD_eq_getElem?_getD]
set_option maxRecDepth 100000 in
set_option maxHeartbeats 400000 in
theorem tableR_any (w : World) :
    Calls Tryd.prog 12 #[] w fun e w' => e = .returned (.tuple #[.slice (some ⟨w.heap.size, 0, none⟩) 8 8, .slice (some ⟨w.heap.size + 1, 0, none⟩) 64 64]) ∧
      w'.heap[w.heap.size]? = some (.cells (ul iv.list) 31 (0, 0)) ∧ w'.heap[w.heap.size + 1]? = some (.cells (ul rootsL) 31 (0, 0)) ∧ Below w.heap.size w w' := by
  have hsz : (Tryd.prog.info? 31).map (·.size) = some 1 := by kernel_rfl
  have hzo : ((Tryd.prog.info? 31).bind (·.zero)).isSome = true := by kernel_rfl
  have H1 : Hid _ := hsz
  have H2 : Hid _ := hzo
  clear hsz hzo
  go_enter Tryd.func12, Tryd.ntmps12
  go_wp2_with (first | refine wpList_buildFlat rfl 27 31 8 _ rfl .u64 (iv.list.map fun n : Nat => (n : Int)) Tryd.underlying27 H1.out H2.out rfl (by decide) (by decide) (by kernel_rfl) ?_ | refine wpList_buildFlat rfl 27 31 64 _ rfl .u64 (rootsL.map fun n : Nat => (n : Int)) Tryd.underlying27 H1.out H2.out rfl (by decide) (by decide) (by kernel_rfl) ?_)
  change bodyPost _ _ _ _ _ ((w.alloc (.cells (ul iv.list) 31)).alloc (.cells (ul rootsL) 31))
  have HA : Hid (((w.alloc (.cells (ul iv.list) 31)).alloc (.cells (ul rootsL) 31)).heap[w.heap.size]? = some (.cells (ul iv.list) 31 (0, 0))) := heap_alloc2_old w _ _
  have HB : Hid (((w.alloc (.cells (ul iv.list) 31)).alloc (.cells (ul rootsL) 31)).heap[w.heap.size + 1]? = some (.cells (ul rootsL) 31 (0, 0))) := heap_alloc2_new w _ _
  have HC : Hid (Below w.heap.size w ((w.alloc (.cells (ul iv.list) 31)).alloc (.cells (ul rootsL) 31))) := ((Below.refl _ w).alloc (Nat.le_refl _) _).alloc (by simp) _
  generalize (w.alloc (.cells (ul iv.list) 31)).alloc (.cells (ul rootsL) 31) = W at *
  go_ret2
  exact ⟨rfl, HA.out, HB.out, HC.out⟩
end Go.Proofs.YtlnagnkiadlfpaaDoor
