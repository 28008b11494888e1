/- Contracts of days' inner calls: leapsAhead, newYear, yearOf, monthDays, calendar. -/
import Derived.Test.YtkfaoldpcgokiaaRows
import Derived.Test.YtkfaoldpcgokiaaDayM
namespace Go.Proofs.Ytkfaoldpcgokiaa
open Go.RowKit
set_option linter.unusedVariables false

set_option maxRecDepth 100000 in
set_option maxHeartbeats 400000 in
theorem leaps_any (y : Nat) (w : World) (h1 : 1 ≤ y) (h2 : y ≤ 20000) :
    Calls Try.prog 31 #[.int .i64 y] w fun e w' => e = .returned (.int .i64 (laN y)) ∧ w' = w := by
  obtain ⟨x, rfl⟩ : ∃ x, y = x + 1 := ⟨y - 1, by omega⟩
  have e0 : (((x + 1 : Nat) : Int) - 1) = (x : Int) := by omega
  have HE : Hid ((laN (x + 1) : Int) = (x : Int) / 4 - (x : Int) / 100 + (x : Int) / 400) := by
    unfold laN Hid
    rw [Nat.add_sub_cancel]
    omega
  generalize hL : (laN (x + 1) : Int) = L at *
  clear hL
  go_enter Try.func31, Try.ntmps31
  go_wp2
  go_ret
  refine ⟨?_, rfl⟩
  rw [HE.out]
  go_num
set_option maxRecDepth 100000 in
set_option maxHeartbeats 400000 in
theorem newYear_any (y : Nat) (w : World) (h1 : 1970 ≤ y) (h2 : y ≤ 20000) :
    Calls Try.prog 26 #[.int .i64 y] w fun e w' => e = .returned (.int .i64 (nyN y)) ∧ w' = w := by
  have hl := laN_ge h1
  have hu : laN y ≤ 6000 := by unfold laN; omega
  have HE : Hid ((nyN y : Int) = ((y : Int) - 1970) * 365 + (laN y : Int) - 477) := by
    unfold nyN Hid
    omega
  have HA := leaps_any y w (by omega) h2
  have HB := leaps_any 1970 w (by omega) (by omega)
  rw [show laN 1970 = 477 from by decide] at HB
  generalize laN y = L at *
  go_enter Try.func26, Try.ntmps26
  go_wp2_with fail
  refine HA.mono ?_
  rintro e w1 ⟨rfl, rfl⟩
  go_wp2_with fail
  refine HB.mono ?_
  rintro e w2 ⟨rfl, rfl⟩
  go_wp2
  go_ret
  refine ⟨?_, rfl⟩
  rw [HE.out]
  go_num
set_option maxRecDepth 100000 in
set_option maxHeartbeats 400000 in
theorem monthDays_any (y m : Nat) (w : World) (h1 : 1970 ≤ y) (h2 : y ≤ 19000) (hm : m ≤ 12) :
    Calls Try.prog 27 #[.int .i64 y, .int .i64 m] w fun e w' => e = .returned (.int .i64 (mdN y m)) ∧ w' = w := by
  by_cases c2 : m = 2
  · subst c2
    have hs := laN_succ (y := y) (by omega)
    have hl := lpN_le y
    have hu : laN y ≤ 6000 := by unfold laN; omega
    have HA := leaps_any (y + 1) w (by omega) (by omega)
    have HB := leaps_any y w (by omega) (by omega)
    have HE : Hid ((mdN y 2 : Int) = 28 + (lpN y : Int)) := by unfold mdN Hid; rw [if_pos rfl]; omega
    rw [show (((y + 1 : Nat) : Int)) = (y : Int) + 1 by omega, hs, show ((laN y + lpN y : Nat) : Int) = (laN y : Int) + (lpN y : Int) by omega] at HA
    generalize laN y = L at *
    generalize lpN y = p at *
    clear hs
    go_enter Try.func27, Try.ntmps27
    go_wp2_with fail
    refine HA.mono ?_
    rintro e w1 ⟨rfl, rfl⟩
    go_wp2_with fail
    refine HB.mono ?_
    rintro e w2 ⟨rfl, rfl⟩
    go_wp2
    go_ret
    refine ⟨?_, rfl⟩
    rw [HE.out]
    go_num
  · rcases (by omega : m = 0 ∨ m = 1 ∨ m = 3 ∨ m = 4 ∨ m = 5 ∨ m = 6 ∨ m = 7 ∨ m = 8 ∨ m = 9 ∨ m = 10 ∨ m = 11 ∨ m = 12) with rfl | rfl | rfl | rfl | rfl | rfl | rfl | rfl | rfl | rfl | rfl | rfl
    all_goals
      clear c2 hm
      go_enter Try.func27, Try.ntmps27
      go_wp2
      go_ret
      refine ⟨?_, rfl⟩
      simp [mdN]
set_option maxRecDepth 100000 in
set_option maxHeartbeats 400000 in
theorem yearOf_any (d : Nat) (w : World) (hd : d ≤ 2932896) :
    Calls Try.prog 25 #[.int .i64 d] w fun e w' => e = .returned (.int .i64 (yrN (mon d))) ∧ w' = w := by
  go_enter Try.func25, Try.ntmps25
  go_wp2
  go_loopw [3] (fun i wr => ∃ y : Nat, 1970 ≤ y ∧ nyN y ≤ d ∧ i = .int .i64 y ∧ wr = w) (fun i _ => (20000 - intOf i).toNat)
  case atStart =>
    refine ⟨1970 + d / 366, by omega, ?_, by go_num, rfl⟩
    have := nyN_le (y := 1970 + d / 366) (by omega)
    omega
  case round =>
    obtain ⟨y, hy1, hy2, rfl, rfl⟩ := hrel
    have hy3 : y ≤ 11000 := by have := nyN_ge hy1; omega
    have HN := newYear_any (y + 1) wr (by omega) (by omega)
    rw [show (((y + 1 : Nat) : Int)) = (y : Int) + 1 by omega] at HN
    have HY : Hid (d < nyN (y + 1) → yrN (mon d) = y) := fun h => year_of hy1 hy2 h
    have hb : nyN (y + 1) ≤ 20000000 := by have := nyN_le (y := y + 1) (by omega); omega
    obtain ⟨q, hq⟩ : ∃ q, nyN (y + 1) = q := ⟨_, rfl⟩
    rw [hq] at HN HY hb
    by_cases hc : q ≤ d
    · clear HY
      have HQ : Hid (nyN (y + 1) = q) := hq
      clear hq
      go_wp2_with fail
      refine HN.mono ?_
      rintro e w1 ⟨rfl, rfl⟩
      go_wp2
      go_roundw
      case rel => exact ⟨y + 1, by omega, by rw [HQ.out]; exact hc, by go_num, by first | rfl | trivial⟩
      case measure => simp [intOf]; omega
    · have HZ : Hid (yrN (mon d) = y) := HY.out (by omega)
      clear HY hq hd hy2
      go_wp2_with fail
      refine HN.mono ?_
      rintro e w1 ⟨rfl, rfl⟩
      go_wp2
      go_ret
      refine ⟨?_, rfl⟩
      rw [HZ.out]
      rfl
end Go.Proofs.Ytkfaoldpcgokiaa
