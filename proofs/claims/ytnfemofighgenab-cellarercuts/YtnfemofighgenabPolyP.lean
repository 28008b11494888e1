/- Contract of poly's Prime. -/
import Derived.Test.YtnfemofighgenabPolyB
namespace Go.Proofs.Ytnfemofighgenab
open Go.RowKit
set_option linter.unusedVariables false

theorem prF_yes {p n w : Nat} (h : gc p (tm p w w ^^^ 2) = 1) : prF p (n + 1) w = prF p n (tm p w w) := by rw [prF, if_pos h]
theorem prF_no {p n w : Nat} (h : gc p (tm p w w ^^^ 2) ≠ 1) : prF p (n + 1) w = false := by rw [prF, if_neg h]
set_option maxHeartbeats 1000000 in
theorem prime_any (p : Nat) (w : World) (hp : p < 18446744073709551616) :
    Calls Try.prog 18 #[.int .u64 p] w fun e w' => e = .returned (.bool (prB p)) ∧ w' = w := by
  by_cases hf : fitP p = true
  · obtain ⟨h2, h63⟩ := (fitP_iff p).1 hf
    have h0 : p ≠ 0 := bl_pos.1 (by omega)
    have HP : Hid (prB p = prF p ((bl p - 1) / 2) 2) := by unfold prB; rw [hf]; exact Bool.true_and _
    have hd : ((bl p : Int) - 1).tdiv 2 = (((bl p - 1) / 2 : Nat) : Int) := by
      rw [Int.tdiv_eq_ediv_of_nonneg (by omega)]; omega
    have hd2 : ((bl p : Int) - 1) / 2 = (((bl p - 1) / 2 : Nat) : Int) := by omega
    have hn3 : 0 < (bl p - 1) / 2 → 3 ≤ bl p := by omega
    have hn : (bl p - 1) / 2 ≤ 31 := by omega
    generalize (bl p - 1) / 2 = n at *
    go_enter Try.func18, Try.ntmps18
    go_wp2_with (first | (go_at_call 24; refine (fit_any _ _ hp).mono ?_; rintro e w' ⟨rfl, rfl⟩) | (go_at_call 25; refine (degree_any _ _ hp).mono ?_; rintro e w' ⟨rfl, rfl⟩))
    go_loop [3, 10] (fun v i => ∃ k x : Nat, k ≤ n ∧ (k < n → bl x < bl p) ∧ Hid (prF p (n - k) x = prF p n 2) ∧ i = .int .i64 k ∧ v = .int .u64 x) (fun _ i => n - (intOf i).toNat)
    case atStart => exact ⟨0, 2, by omega, fun h => by rw [bl_twoX]; omega, rfl, rfl, rfl⟩
    case round =>
      clear hd hd2 hn3
      obtain ⟨k, x, hk, hx, H, rfl, rfl⟩ := hrel
      by_cases hlt : k < n
      · have hx := hx hlt
        have hxl : x < 18446744073709551616 := lt64 (by omega)
        have hT := tm_lt p x x h0
        have hTl : tm p x x < 18446744073709551616 := lt64 (by omega)
        have hX2 : tm p x x ^^^ 2 < 18446744073709551616 := xor64 hTl (by decide)
        have HN1 : Hid (gc p (tm p x x ^^^ 2) = 1 → prF p (n - (k + 1)) (tm p x x) = prF p n 2) := fun h => by
          rw [← H.out, show n - k = n - (k + 1) + 1 by omega, prF_yes h]
        have HN2 : Hid (gc p (tm p x x ^^^ 2) ≠ 1 → prB p = false) := fun h => by
          rw [HP.out, ← H.out, show n - k = n - (k + 1) + 1 by omega, prF_no h]
        by_cases hg : gc p (tm p x x ^^^ 2) = 1
        · have hg' : (((gc p (tm p x x ^^^ 2) : Nat) : Int) == 1) = true := by rw [hg]; rfl
          have HG : Hid _ := hg
          clear hg
          go_wp2_with (first | (go_at_call 26; refine (times_any _ _ _ _ hxl hp h2 h63 hx).mono ?_; rintro e w' ⟨rfl, rfl⟩) | (go_at_call 28; refine (padd_any _ 2 _ hTl (by decide)).mono ?_; rintro e w' ⟨rfl, rfl⟩) | (go_at_call 27; refine (common_any _ _ _ hp hX2).mono ?_; rintro e w' ⟨rfl, rfl⟩))
          go_round
          case rel => exact ⟨k + 1, _, by omega, fun _ => hT, HN1.out HG.out, by go_num, rfl⟩
          case measure => simp [intOf]; omega
        · have hg' : (((gc p (tm p x x ^^^ 2) : Nat) : Int) == 1) = false := by
            rw [beq_eq_false_iff_ne]; intro h; exact hg (by omega)
          have HG : Hid _ := hg
          clear hg
          go_wp2_with (first | (go_at_call 26; refine (times_any _ _ _ _ hxl hp h2 h63 hx).mono ?_; rintro e w' ⟨rfl, rfl⟩) | (go_at_call 28; refine (padd_any _ 2 _ hTl (by decide)).mono ?_; rintro e w' ⟨rfl, rfl⟩) | (go_at_call 27; refine (common_any _ _ _ hp hX2).mono ?_; rintro e w' ⟨rfl, rfl⟩))
          go_ret
          rw [HN2.out HG.out]; exact ⟨rfl, rfl⟩
      · have HE : Hid (prB p = true) := by
          rw [HP.out, ← H.out, show n - k = 0 by omega]; exact rfl
        go_wp2
        go_ret
        rw [HE.out]; exact ⟨rfl, rfl⟩
  · have hf : fitP p = false := by simpa using hf
    have HE : Hid (prB p = false) := by unfold prB; rw [hf]; exact rfl
    go_enter Try.func18, Try.ntmps18
    go_wp2_with (go_at_call 24; refine (fit_any _ _ hp).mono ?_; rintro e w' ⟨rfl, rfl⟩)
    go_ret
    rw [HE.out]; exact ⟨rfl, rfl⟩

end Go.Proofs.Ytnfemofighgenab
