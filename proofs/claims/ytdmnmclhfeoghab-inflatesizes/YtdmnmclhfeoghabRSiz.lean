/- Contract of the document's Sizes. -/
import Derived.Test.YtdmnmclhfeoghabRFix
import Derived.BigQuiet
namespace Go.Proofs.Ytdmnmclhfeoghab
open Go.RowKit
set_option linter.unusedVariables false

def szA : List Nat := [3, 4, 5, 6, 7, 8, 9, 10, 11, 13, 15, 17, 19, 23, 27, 31, 35, 43, 51, 59, 67, 83, 99, 115, 131, 163, 195, 227, 258]
def szB : List Nat := [0, 0, 0, 0, 0, 0, 0, 0, 1, 1, 1, 1, 2, 2, 2, 2, 3, 3, 3, 3, 4, 4, 4, 4, 5, 5, 5, 5, 0]
def szC : List Nat := [1, 2, 3, 4, 5, 7, 9, 13, 17, 25, 33, 49, 65, 97, 129, 193, 257, 385, 513, 769, 1025, 1537, 2049, 3073, 4097, 6145, 8193, 12289, 16385, 24577]
def szD : List Nat := [0, 0, 0, 0, 1, 1, 2, 2, 3, 3, 4, 4, 5, 5, 6, 6, 7, 7, 8, 8, 9, 9, 10, 10, 11, 11, 12, 12, 13, 13]
theorem szAB : ∀ i : Fin 29, szA[i.val]? = some (szF i.val false).1 ∧ szB[i.val]? = some (szF i.val false).2 := by decide +kernel
theorem szCD : ∀ i : Fin 30, szC[i.val]? = some (szF i.val true).1 ∧ szD[i.val]? = some (szF i.val true).2 := by decide +kernel
set_option maxRecDepth 100000 in
set_option maxHeartbeats 2000000 in
theorem rSizes_any (w : World) : Calls Try.prog 18 #[] w fun e w' => e = .returned (.tuple #[.slice (some ⟨w.heap.size, 0, none⟩) 29 29, .slice (some ⟨w.heap.size + 1, 0, none⟩) 29 29, .slice (some ⟨w.heap.size + 2, 0, none⟩) 30 30, .slice (some ⟨w.heap.size + 3, 0, none⟩) 30 30]) ∧ w' = (((w.alloc (.cells (nc szA).toArray 3)).alloc (.cells (nc szB).toArray 3)).alloc (.cells (nc szC).toArray 3)).alloc (.cells (nc szD).toArray 3) := by
  go_enter Try.func18, Try.ntmps18
  go_wp2
  exact bodyPost_ret (v := .tuple #[.slice (some ⟨w.heap.size, 0, none⟩) 29 29, .slice (some ⟨w.heap.size + 1, 0, none⟩) 29 29, .slice (some ⟨w.heap.size + 2, 0, none⟩) 30 30, .slice (some ⟨w.heap.size + 3, 0, none⟩) 30 30]) (by simp [results, Try.results18, go_sem]) rfl ⟨rfl, rfl⟩
end Go.Proofs.Ytdmnmclhfeoghab
