/- The walk of PolyPrimes. -/
import Derived.Test.YtnfemofighgenaaWPolyRing
namespace Go.Proofs.Ytnfemofighgenaa
open Go.RowKit
set_option linter.unusedVariables false

set_option maxRecDepth 100000 in
set_option maxHeartbeats 2000000 in
theorem lawPolyPrimes_walk (p m : Int) (w : World) (hp : 0 ≤ p ∧ p ≤ 18446744073709551615) (hm : 0 ≤ m ∧ m ≤ 18446744073709551615) :
    Calls Try.prog 7 #[.int .u64 p, .int .u64 m] w fun e w' => e = .returned (.bool true) ∧ Below w.heap.size w w' := by
  obtain ⟨p, rfl⟩ := Int.eq_ofNat_of_zero_le hp.1
  obtain ⟨m, rfl⟩ := Int.eq_ofNat_of_zero_le hm.1
  have hp : p < 18446744073709551616 := by omega
  have hm : m < 18446744073709551616 := by omega
  have hB : Below w.heap.size w w := Below.refl _ _
  by_cases hpr : prB m = true
  · have hI := prB_irr hpr
    have hf : fitP m = true := by unfold prB at hpr; simp at hpr; exact hpr.1
    obtain ⟨h2, h63⟩ := (fitP_iff m).1 hf
    have h0 : m ≠ 0 := bl_pos.1 (by omega)
    have hR := pm_lt p m h0
    have hRl : pm p m < 18446744073709551616 := lt64 (by omega)
    have hU : pm 1 m = 1 := pm_small (by rw [bl_one]; omega)
    obtain ⟨D, HD⟩ : ∃ D, Hid (bl m = D + 1) := ⟨bl m - 1, by show bl m = _; omega⟩
    have hD : (bl m : Int) - 1 = (D : Int) := by have := HD.out; omega
    have hD62 : D ≤ 62 := by have := HD.out; omega
    have hpw : 2 ^ D ≤ 2 ^ 62 := Nat.pow_le_pow_right (by decide) (by omega)
    have hpw2 : 2 ^ 1 ≤ 2 ^ D := Nat.pow_le_pow_right (by decide) (by have := HD.out; omega)
    have HI : Hid (3 ≤ bl m → pm p m ≠ 0 → tm m (pm p m) (pw m (pm p m) (2 ^ D - 2)) = 1) := fun h3 hne => by
      have := inverse hI h3 hne hR
      rwa [show bl m - 1 = D by have := HD.out; omega] at this
    have HZ : Hid (pm p m = 0 → tm m (pm p m) (pw m (pm p m) (2 ^ D - 2)) = 0) := fun h => by rw [h, tm_comm, tm_zero]
    obtain ⟨Q, hQ⟩ : ∃ Q, Q = 2 ^ D := ⟨_, rfl⟩
    have w1 : IntKind.u64.wrap (2 ^ D) = (Q : Int) := by
      have := wrap64_id (m := 1) (k := D) (by omega)
      simp only [Int.natCast_one, Int.one_mul, Nat.one_mul] at this
      rw [hQ]; exact this
    have w2 : IntKind.u64.wrap (1 * 2 ^ D) = (Q : Int) := by rw [Int.one_mul]; exact w1
    rw [← hQ] at HI HZ hpw hpw2
    obtain ⟨E, hE⟩ : ∃ E, Q = E + 2 := ⟨Q - 2, by omega⟩
    rw [show Q - 2 = E by omega] at HI HZ
    have hEl : E < 18446744073709551616 := by omega
    have e1 : (Q : Int) - 2 = (E : Int) := by omega
    have hQl : 2 ≤ Q := by omega
    have hV := pw64 hf (pm p m) E
    clear hI hpw hpw2 hQ hE
    by_cases hz : pm p m = 0
    · have HZ' := HZ.out hz
      rw [hz] at HZ' hV
      go_enter Try.func7, Try.ntmps7
      go_wp2_with (go_at_call 25; refine (prime_any _ _ hm).mono ?_; rintro e w' ⟨rfl, rfl⟩)
      refine (mod_good _ _ _ hp hm hf).mono ?_
      rintro e w' ⟨rfl, rfl⟩
      unfold okP
      go_wp2_with (first | (go_at_call 10; refine (degree_any _ _ hm).mono ?_; rintro e w' ⟨rfl, rfl⟩) | (go_at_call 21; refine (power_good 0 _ _ _ (by decide) hEl hm hf).mono ?_; rintro e w' ⟨rfl, rfl⟩; unfold okP) | (go_at_call 14; refine (ptimes_good 0 _ _ _ (by decide) hV hm hf).mono ?_; rintro e w' ⟨rfl, rfl⟩; unfold okP))
      refine (mod_good 1 _ _ (by decide) hm hf).mono ?_
      rintro e w' ⟨rfl, rfl⟩
      unfold okP
      go_wp2_with (first | (go_at_call 10; refine (degree_any _ _ hm).mono ?_; rintro e w' ⟨rfl, rfl⟩) | (go_at_call 9; refine (awake9_any _).mono ?_; rintro e w' ⟨rfl, rfl⟩))
      go_ret
      exact ⟨rfl, hB⟩
    · have hz' : (((pm p m : Nat) : Int) == 0) = false := by simpa using hz
      have hz2 : (((pm p m : Nat) : Int) != 0) = true := by simpa using hz
      by_cases h3 : 3 ≤ bl m
      · have HI' := HI.out h3 hz
        go_enter Try.func7, Try.ntmps7
        go_wp2_with (go_at_call 25; refine (prime_any _ _ hm).mono ?_; rintro e w' ⟨rfl, rfl⟩)
        refine (mod_good _ _ _ hp hm hf).mono ?_
        rintro e w' ⟨rfl, rfl⟩
        unfold okP
        go_wp2_with (first | (go_at_call 10; refine (degree_any _ _ hm).mono ?_; rintro e w' ⟨rfl, rfl⟩) | (go_at_call 21; refine (power_good _ _ _ _ hRl hEl hm hf).mono ?_; rintro e w' ⟨rfl, rfl⟩; unfold okP) | (go_at_call 14; refine (ptimes_good _ _ _ _ hRl hV hm hf).mono ?_; rintro e w' ⟨rfl, rfl⟩; unfold okP))
        refine (mod_good 1 _ _ (by decide) hm hf).mono ?_
        rintro e w' ⟨rfl, rfl⟩
        unfold okP
        go_wp2_with (first | (go_at_call 10; refine (degree_any _ _ hm).mono ?_; rintro e w' ⟨rfl, rfl⟩) | (go_at_call 9; refine (awake9_any _).mono ?_; rintro e w' ⟨rfl, rfl⟩))
        go_ret
        exact ⟨rfl, hB⟩
      · have hd1 : ((D : Int) == 1) = true := by have := HD.out; rw [beq_iff_eq]; omega
        go_enter Try.func7, Try.ntmps7
        go_wp2_with (go_at_call 25; refine (prime_any _ _ hm).mono ?_; rintro e w' ⟨rfl, rfl⟩)
        refine (mod_good _ _ _ hp hm hf).mono ?_
        rintro e w' ⟨rfl, rfl⟩
        unfold okP
        go_wp2_with (first | (go_at_call 10; refine (degree_any _ _ hm).mono ?_; rintro e w' ⟨rfl, rfl⟩) | (go_at_call 21; refine (power_good _ _ _ _ hRl hEl hm hf).mono ?_; rintro e w' ⟨rfl, rfl⟩; unfold okP) | (go_at_call 14; refine (ptimes_good _ _ _ _ hRl hV hm hf).mono ?_; rintro e w' ⟨rfl, rfl⟩; unfold okP))
        refine (mod_good 1 _ _ (by decide) hm hf).mono ?_
        rintro e w' ⟨rfl, rfl⟩
        unfold okP
        go_wp2_with (first | (go_at_call 10; refine (degree_any _ _ hm).mono ?_; rintro e w' ⟨rfl, rfl⟩) | (go_at_call 9; refine (awake9_any _).mono ?_; rintro e w' ⟨rfl, rfl⟩))
        all_goals go_ret
        all_goals exact ⟨rfl, hB⟩
  · have hpr : prB m = false := by simpa using hpr
    go_enter Try.func7, Try.ntmps7
    go_wp2_with (first | (go_at_call 25; refine (prime_any _ _ hm).mono ?_; rintro e w' ⟨rfl, rfl⟩) | (go_at_call 9; refine (awake9_any _).mono ?_; rintro e w' ⟨rfl, rfl⟩))
    go_ret
    exact ⟨rfl, hB⟩
end Go.Proofs.Ytnfemofighgenaa
