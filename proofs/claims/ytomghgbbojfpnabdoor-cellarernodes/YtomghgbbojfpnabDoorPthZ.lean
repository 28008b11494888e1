/- Contract of path.small. -/
import Derived.Test.YtomghgbbojfpnabDoorPthC
namespace Go.Proofs.YtomghgbbojfpnabDoor
open Go.RowKit
set_option linter.unusedVariables false

set_option maxHeartbeats 1000000 in
set_option maxRecDepth 100000 in
theorem small_any (r : Nat) (w : World) (hr : r ≤ 1114111) :
    Calls Tryd.prog 23 #[.int .i32 (r : Int)] w fun e w' => e = .returned (.int .i32 (smol r : Int)) ∧ w' = w := by
  by_cases h1 : (65 ≤ r ∧ r ≤ 90) ∨ (192 ≤ r ∧ r ≤ 222 ∧ r ≠ 215) ∨ (913 ≤ r ∧ r ≤ 937 ∧ r ≠ 930) ∨ (1040 ≤ r ∧ r ≤ 1071)
  · have HE : Hid ((smol r : Int) = (r : Int) + 32) := by unfold Hid smol; rw [if_pos h1]; omega
    rcases h1 with ⟨a, b⟩ | ⟨a, b, c⟩ | ⟨a, b, c⟩ | ⟨a, b⟩
    all_goals
      go_enter Tryd.func23, Tryd.ntmps23
      go_wp2
      all_goals first | (exfalso; omega) | (go_ret; rw [HE.out]; exact ⟨rfl, rfl⟩)
  · by_cases h2 : 1024 ≤ r ∧ r ≤ 1039
    · have HE : Hid ((smol r : Int) = (r : Int) + 80) := by unfold Hid smol; rw [if_neg h1, if_pos h2]; omega
      obtain ⟨a, b⟩ := h2
      clear h1
      go_enter Tryd.func23, Tryd.ntmps23
      go_wp2
      all_goals first | (exfalso; omega) | (go_ret; rw [HE.out]; exact ⟨rfl, rfl⟩)
    · have HE : Hid ((smol r : Int) = (r : Int)) := by unfold Hid smol; rw [if_neg h1, if_neg h2]
      have H1 : Hid (¬ ((65 ≤ r ∧ r ≤ 90) ∨ (192 ≤ r ∧ r ≤ 222 ∧ r ≠ 215) ∨ (913 ≤ r ∧ r ≤ 937 ∧ r ≠ 930) ∨ (1040 ≤ r ∧ r ≤ 1071))) := h1
      have H2 : Hid (¬ (1024 ≤ r ∧ r ≤ 1039)) := h2
      clear h1 h2
      go_enter Tryd.func23, Tryd.ntmps23
      go_wp2
      all_goals first | (exfalso; have := H1.out; have := H2.out; simp only [bne_iff_ne, ne_eq] at *; omega) | (go_ret; rw [HE.out]; exact ⟨rfl, rfl⟩)
end Go.Proofs.YtomghgbbojfpnabDoor
