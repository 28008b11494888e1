/- Cells that go into the midst of a row that is known whole. -/
import Derived.Test.YtclmjopppaknjaaQBase
import Derived.Deep.MidRow
namespace Go.Proofs.Ytclmjopppaknjaa
open Go.RowKit
set_option linter.unusedVariables false

/-- Cells that go into the midst of a row that is known whole. -/
theorem heap_setCells (g : Nat) (ty : TypeId) : ∀ (vs pre A post : List Value) (w : World), A.length = vs.length → w.heap[g]? = some (.cells (pre ++ A ++ post).toArray ty (0, 0)) →
    (w.setCells g pre.length vs).heap[g]? = some (.cells (pre ++ vs ++ post).toArray ty (0, 0))
  | [], pre, A, post, w, hl, h => by
    obtain rfl : A = [] := List.eq_nil_of_length_eq_zero hl
    exact h
  | v :: r, pre, A, post, w, hl, h => by
    obtain ⟨a, A', rfl⟩ : ∃ a A', A = a :: A' := by
      cases A with
      | nil => simp at hl
      | cons a A' => exact ⟨a, A', rfl⟩
    have h1 : (w.setCell ⟨g, pre.length, none⟩ v).heap[g]? = some (.cells ((pre ++ [v]) ++ A' ++ post).toArray ty (0, 0)) := by
      rw [heap_setCell_same _ _ _ _ _ _ h]
      congr 2
      apply Array.ext'
      rw [Array.toList_setIfInBounds]
      simp
    have h2 := heap_setCells g ty r (pre ++ [v]) A' post _ (by simpa using hl) h1
    rw [World.setCells]
    have e : (pre ++ [v]).length = pre.length + 1 := by simp
    rw [e] at h2
    rw [h2]
    simp
theorem heap_setCells_other (g k : Nat) (hk : k ≠ g) : ∀ (vs : List Value) (o : Nat) (w : World), (w.setCells g o vs).heap[k]? = w.heap[k]?
  | [], _, _ => rfl
  | v :: r, o, w => by rw [World.setCells, heap_setCells_other g k hk r, heap_setCell_other _ _ _ _ hk]
end Go.Proofs.Ytclmjopppaknjaa
