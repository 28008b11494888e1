/- Contracts of the document's leap, Of, Fit, Day, Week, Two, Date, and of the law's awake. -/
import Derived.Test.YtkfaoldpcgokiaaDayB
import Derived.Deep.RegionHeld
import Derived.Deep.RegionHeld3
namespace Go.Proofs.Ytkfaoldpcgokiaa
open Go.RowKit
set_option linter.unusedVariables false

set_option maxRecDepth 100000 in
set_option maxHeartbeats 400000 in
theorem leap_any (y : Nat) (w : World) (h : y ≤ 20000) :
    Calls Try.prog 32 #[.int .i64 y] w fun e w' => e = .returned (.bool (decide (lpN y = 1))) ∧ w' = w := by
  by_cases h4 : y % 400 = 0
  · have HE : Hid (decide (lpN y = 1) = true) := by show _ = _; unfold lpN; rw [if_pos h4]; rfl
    generalize decide (lpN y = 1) = b at *
    have h4' : (y : Int) % 400 = 0 := by omega
    go_enter Try.func32, Try.ntmps32
    go_wp2
    go_ret
    exact ⟨by rw [HE.out]; rfl, rfl⟩
  · have h4' : ¬ (y : Int) % 400 = 0 := by omega
    by_cases h1 : y % 4 = 0
    · have h1' : (y : Int) % 4 = 0 := by omega
      by_cases h2 : y % 100 = 0
      · have HE : Hid (decide (lpN y = 1) = false) := by show _ = _; unfold lpN; rw [if_neg h4, if_neg (by omega)]; rfl
        generalize decide (lpN y = 1) = b at *
        have h2' : (y : Int) % 100 = 0 := by omega
        go_enter Try.func32, Try.ntmps32
        go_wp2
        go_ret
        exact ⟨by rw [HE.out]; rfl, rfl⟩
      · have HE : Hid (decide (lpN y = 1) = true) := by show _ = _; unfold lpN; rw [if_neg h4, if_pos ⟨h1, h2⟩]; rfl
        generalize decide (lpN y = 1) = b at *
        have h2' : ¬ (y : Int) % 100 = 0 := by omega
        go_enter Try.func32, Try.ntmps32
        go_wp2
        go_ret
        exact ⟨by rw [HE.out]; simp [h2'], rfl⟩
    · have h1' : ¬ (y : Int) % 4 = 0 := by omega
      have HE : Hid (decide (lpN y = 1) = false) := by show _ = _; unfold lpN; rw [if_neg h4, if_neg (by omega)]; rfl
      generalize decide (lpN y = 1) = b at *
      go_enter Try.func32, Try.ntmps32
      go_wp2
      go_ret
      exact ⟨by rw [HE.out]; rfl, rfl⟩
theorem leap_yes (y : Nat) (w : World) (h : y ≤ 20000) (hl : lpN y = 1) : Calls Try.prog 32 #[.int .i64 y] w fun e w' => e = .returned (.bool true) ∧ w' = w := by
  have := leap_any y w h
  rwa [decide_eq_true hl] at this
theorem leap_no (y : Nat) (w : World) (h : y ≤ 20000) (hl : lpN y = 0) : Calls Try.prog 32 #[.int .i64 y] w fun e w' => e = .returned (.bool false) ∧ w' = w := by
  have := leap_any y w h
  rwa [decide_eq_false (by omega)] at this
set_option maxRecDepth 100000 in
set_option maxHeartbeats 400000 in
theorem fit_yes (t : Nat) (w : World) (h : t ≤ 253402300799) : Calls Try.prog 20 #[.int .i64 t] w fun e w' => e = .returned (.bool true) ∧ w' = w := by
  go_enter Try.func20, Try.ntmps20
  go_wp2
  go_ret
  exact ⟨by simp; omega, rfl⟩
set_option maxRecDepth 100000 in
set_option maxHeartbeats 400000 in
theorem fit_no (t : Int) (w : World) (h : ¬ (0 ≤ t ∧ t ≤ 253402300799)) : Calls Try.prog 20 #[.int .i64 t] w fun e w' => e = .returned (.bool false) ∧ w' = w := by
  rcases (by omega : t < 0 ∨ (0 ≤ t ∧ 253402300799 < t)) with h0 | ⟨h0, h1⟩
  · clear h
    go_enter Try.func20, Try.ntmps20
    go_wp2
    go_ret
    exact ⟨rfl, rfl⟩
  · clear h
    go_enter Try.func20, Try.ntmps20
    go_wp2
    go_ret
    exact ⟨by simp; omega, rfl⟩
set_option maxRecDepth 100000 in
set_option maxHeartbeats 400000 in
theorem rday_any (t : Nat) (w : World) (h : t ≤ 253402300799) : Calls Try.prog 28 #[.int .i64 t] w fun e w' => e = .returned (.int .i64 (t / 86400 : Nat)) ∧ w' = w := by
  have e1 : ((t : Int) - (t : Int) % 86400).tdiv 86400 = ((t / 86400 : Nat) : Int) := by
    rw [Int.tdiv_eq_ediv_of_nonneg (by omega)]; omega
  have HE : Hid (_ = _) := e1
  clear e1
  go_enter Try.func28, Try.ntmps28
  go_wp2
  go_ret
  refine ⟨?_, rfl⟩
  go_num
set_option maxRecDepth 100000 in
set_option maxHeartbeats 400000 in
theorem rweek_any (t : Nat) (w : World) (h : t ≤ 253402300799) : Calls Try.prog 29 #[.int .i64 t] w fun e w' => e = .returned (.int .i64 ((t / 86400 + 3) / 7 : Nat)) ∧ w' = w := by
  have HD := rday_any t w h
  have hq : t / 86400 ≤ 2932896 := by omega
  by_cases hc : 4 ≤ t / 86400
  · have HE : Hid (((t / 86400 + 3) / 7 : Nat) = 1 + (((t / 86400 : Nat) : Int) - 4) / 7) := by show _ = _; omega
    generalize t / 86400 = q at *
    go_enter Try.func29, Try.ntmps29
    go_wp2_with fail
    refine HD.mono ?_
    rintro e w2 ⟨rfl, rfl⟩
    go_wp2
    go_ret
    refine ⟨?_, rfl⟩
    rw [HE.out]
    go_num
  · have HE : Hid (((t / 86400 + 3) / 7 : Nat) = (0 : Int)) := by show _ = _; omega
    generalize t / 86400 = q at *
    go_enter Try.func29, Try.ntmps29
    go_wp2_with fail
    refine HD.mono ?_
    rintro e w2 ⟨rfl, rfl⟩
    go_wp2
    go_ret
    refine ⟨?_, rfl⟩
    rw [HE.out]
    rfl
end Go.Proofs.Ytkfaoldpcgokiaa
