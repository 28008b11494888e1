/- The walk of PolyRing. -/
import Derived.Test.YtnfemofighgenaaPolyD
namespace Go.Proofs.Ytnfemofighgenaa
open Go.RowKit
set_option linter.unusedVariables false

theorem tm64 {m : Nat} (h : fitP m = true) (a b : Nat) : tm m a b < 18446744073709551616 := by
  obtain ⟨h2, h63⟩ := (fitP_iff m).1 h
  exact lt64 (by have := tm_lt m a b (bl_pos.1 (by omega)); omega)
theorem pw64 {m : Nat} (h : fitP m = true) (a n : Nat) : pw m a n < 18446744073709551616 := by
  obtain ⟨h2, h63⟩ := (fitP_iff m).1 h
  exact lt64 (by have := pw_lt m a n h2; omega)
set_option maxRecDepth 100000 in
set_option maxHeartbeats 2000000 in
theorem lawPolyRing_walk (a b c m i j : Int) (w : World) (ha : 0 ≤ a ∧ a ≤ 18446744073709551615) (hb : 0 ≤ b ∧ b ≤ 18446744073709551615) (hc : 0 ≤ c ∧ c ≤ 18446744073709551615) (hm : 0 ≤ m ∧ m ≤ 18446744073709551615) (hi : 0 ≤ i ∧ i ≤ 18446744073709551615) (hj : 0 ≤ j ∧ j ≤ 18446744073709551615) :
    Calls Try.prog 6 #[.int .u64 a, .int .u64 b, .int .u64 c, .int .u64 m, .int .u64 i, .int .u64 j] w fun e w' => e = .returned (.bool true) ∧ Below w.heap.size w w' := by
  obtain ⟨a, rfl⟩ := Int.eq_ofNat_of_zero_le ha.1
  obtain ⟨b, rfl⟩ := Int.eq_ofNat_of_zero_le hb.1
  obtain ⟨c, rfl⟩ := Int.eq_ofNat_of_zero_le hc.1
  obtain ⟨m, rfl⟩ := Int.eq_ofNat_of_zero_le hm.1
  obtain ⟨i, rfl⟩ := Int.eq_ofNat_of_zero_le hi.1
  obtain ⟨j, rfl⟩ := Int.eq_ofNat_of_zero_le hj.1
  have ha : a < 18446744073709551616 := by omega
  have hb : b < 18446744073709551616 := by omega
  have hc : c < 18446744073709551616 := by omega
  have hm : m < 18446744073709551616 := by omega
  have hi : i < 18446744073709551616 := by omega
  have hj : j < 18446744073709551616 := by omega
  have hB : Below w.heap.size w w := Below.refl _ _
  by_cases hf : fitP m = true
  · have h2 := ((fitP_iff m).1 hf).1
    have h0 : m ≠ 0 := bl_pos.1 (by omega)
    have hbc := xor64 hb hc
    have T1 := tm64 hf a b
    have T2 := tm64 hf b c
    have T3 := tm64 hf a c
    have P1 := pw64 hf a (i % 1000000)
    have P2 := pw64 hf a (j % 1000000)
    have E1 : tm m b a = tm m a b := tm_comm m b a
    have E2 : tm m a (tm m b c) = tm m (tm m a b) c := (tm_assoc m a b c h0).symm
    have E3 : tm m a (b ^^^ c) = tm m a b ^^^ tm m a c := tm_xor m a b c h0
    have E4 : pw m a (i % 1000000 + j % 1000000) = tm m (pw m a (i % 1000000)) (pw m a (j % 1000000)) := pw_add m a _ _ h2
    have ci : (i : Int) % 1000000 = ((i % 1000000 : Nat) : Int) := by omega
    have cj : (j : Int) % 1000000 = ((j % 1000000 : Nat) : Int) := by omega
    have li : i % 1000000 < 1000000 := by omega
    have lj : j % 1000000 < 1000000 := by omega
    clear hi hj
    generalize i % 1000000 = I at *
    generalize j % 1000000 = J at *
    have li' : I < 18446744073709551616 := by omega
    have lj' : J < 18446744073709551616 := by omega
    have lij : I + J < 18446744073709551616 := by omega
    go_enter Try.func6, Try.ntmps6
    go_wp2_with (first | (go_at_call 14; refine (ptimes_good _ _ _ _ (by assumption) (by assumption) hm hf).mono ?_; rintro e w' ⟨rfl, rfl⟩; unfold okP) | (go_at_call 21; refine (power_good _ _ _ _ ha (by assumption) hm hf).mono ?_; rintro e w' ⟨rfl, rfl⟩; unfold okP) | (go_at_call 21; refine (power_good _ (I + J) _ _ ha (by assumption) hm hf).mono ?_; rintro e w' ⟨rfl, rfl⟩; unfold okP) | (go_at_call 9; refine (awake9_any _).mono ?_; rintro e w' ⟨rfl, rfl⟩) | (go_at_call 12; refine (padd_any _ _ _ (by assumption) (by assumption)).mono ?_; rintro e w' ⟨rfl, rfl⟩))
    go_ret
    exact ⟨rfl, hB⟩
  · have hf : fitP m = false := by simpa using hf
    have hn := (fitP_no m).1 hf
    have hb64 := bl64 hm
    by_cases h2 : 2 ≤ bl m
    · have h62 : decide (62 < (bl m : Int) - 1) = true := by simp; omega
      have h1 : decide ((bl m : Int) - 1 < 1) = false := by simp; omega
      go_enter Try.func6, Try.ntmps6
      go_wp2_with (first | (go_at_call 14; refine (ptimes_bad _ _ _ _ hm hf).mono ?_; rintro e w' ⟨rfl, rfl⟩; unfold badP) | (go_at_call 9; refine (awake9_any _).mono ?_; rintro e w' ⟨rfl, rfl⟩) | (go_at_call 10; refine (degree_any _ _ hm).mono ?_; rintro e w' ⟨rfl, rfl⟩))
      go_ret
      exact ⟨rfl, hB⟩
    · have h1 : decide ((bl m : Int) - 1 < 1) = true := by simp; omega
      go_enter Try.func6, Try.ntmps6
      go_wp2_with (first | (go_at_call 14; refine (ptimes_bad _ _ _ _ hm hf).mono ?_; rintro e w' ⟨rfl, rfl⟩; unfold badP) | (go_at_call 9; refine (awake9_any _).mono ?_; rintro e w' ⟨rfl, rfl⟩) | (go_at_call 10; refine (degree_any _ _ hm).mono ?_; rintro e w' ⟨rfl, rfl⟩))
      go_ret
      exact ⟨rfl, hB⟩
end Go.Proofs.Ytnfemofighgenaa
