/- Contract of bits.worth: of a digit; of what is none. -/
import Derived.Test.YtecpapifkbfblaaDoorBase
import Derived.Test.YtecpapifkbfblaaDoorHexM
import Derived.Test.YtecpapifkbfblaaDoorRows
namespace Go.Proofs.YtecpapifkbfblaaDoor
open Go.RowKit
set_option linter.unusedVariables false

theorem tupb {k : IntKind} {a a' : Int} {b b' : Bool} (h : a = a') (h' : b = b') : Ending.returned (.tuple #[.int k a, .bool b]) = .returned (.tuple #[.int k a', .bool b']) := by rw [h, h']
set_option maxRecDepth 100000 in
set_option maxHeartbeats 400000 in
theorem worth_yes (r : Nat) (w : World) (hr : wor r < 16) :
    Calls Tryd.prog 79 #[.int .i32 r] w fun e w' => e = .returned (.tuple #[.int .u8 (wor r : Int), .bool true]) ∧ w' = w := by
  by_cases h1 : 48 ≤ r ∧ r ≤ 57
  · have HW : Hid (wor r = r - 48) := by unfold Hid wor; rw [if_pos h1]
    obtain ⟨a1, a2⟩ := h1
    have b1 : (48 : Int) ≤ (r : Int) := by omega
    have b2 : (r : Int) ≤ 57 := by omega
    clear hr
    go_enter Tryd.func79, Tryd.ntmps79
    go_wp2
    go_ret2
    rw [HW.out]
    exact ⟨tupb (by omega) rfl, rfl⟩
  · by_cases h2 : 97 ≤ r ∧ r ≤ 102
    · have HW : Hid (wor r = r - 87) := by unfold Hid wor; rw [if_neg h1, if_pos h2]
      obtain ⟨a1, a2⟩ := h2
      have b1 : (48 : Int) ≤ (r : Int) := by omega
      have b2 : decide ((r : Int) ≤ 57) = false := by simp; omega
      have b3 : (97 : Int) ≤ (r : Int) := by omega
      have b4 : (r : Int) ≤ 102 := by omega
      clear h1 hr
      go_enter Tryd.func79, Tryd.ntmps79
      go_wp2
      go_ret2
      rw [HW.out]
      exact ⟨tupb (by omega) rfl, rfl⟩
    · unfold wor at hr; rw [if_neg h1, if_neg h2] at hr; omega

set_option maxRecDepth 100000 in
set_option maxHeartbeats 400000 in
theorem worth_no (r : Nat) (w : World) (hr : ¬ wor r < 16) :
    Calls Tryd.prog 79 #[.int .i32 r] w fun e w' => e = .returned (.tuple #[.int .u8 0, .bool false]) ∧ w' = w := by
  have h1 : ¬ (48 ≤ r ∧ r ≤ 57) := fun h => hr (by unfold wor; rw [if_pos h]; omega)
  have h2 : ¬ (97 ≤ r ∧ r ≤ 102) := fun h => hr (by unfold wor; rw [if_neg h1, if_pos h]; omega)
  clear hr
  by_cases c1 : 48 ≤ r
  · have b1 : (48 : Int) ≤ (r : Int) := by omega
    have b2 : decide ((r : Int) ≤ 57) = false := by simp; omega
    by_cases c2 : 97 ≤ r
    · have b3 : (97 : Int) ≤ (r : Int) := by omega
      have b4 : decide ((r : Int) ≤ 102) = false := by simp; omega
      clear h1 h2
      go_enter Tryd.func79, Tryd.ntmps79
      go_wp2
      go_ret2
      exact ⟨rfl, rfl⟩
    · have b3 : decide ((97 : Int) ≤ (r : Int)) = false := by simp; omega
      clear h1 h2
      go_enter Tryd.func79, Tryd.ntmps79
      go_wp2
      go_ret2
      exact ⟨rfl, rfl⟩
  · have b1 : decide ((48 : Int) ≤ (r : Int)) = false := by simp; omega
    have b3 : decide ((97 : Int) ≤ (r : Int)) = false := by simp; omega
    clear h1 h2
    go_enter Tryd.func79, Tryd.ntmps79
    go_wp2
    go_ret2
    exact ⟨rfl, rfl⟩
end Go.Proofs.YtecpapifkbfblaaDoor
