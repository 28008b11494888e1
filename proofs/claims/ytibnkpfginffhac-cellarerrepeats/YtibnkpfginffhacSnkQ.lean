/- Contracts of (*bitio.Sink).Put and .Even. -/
import Derived.Test.YtibnkpfginffhacSnkC
namespace Go.Proofs.Ytibnkpfginffhac
open Go.RowKit
set_option linter.unusedVariables false
set_option linter.unusedSimpArgs false

set_option maxRecDepth 100000 in
set_option maxHeartbeats 400000 in
theorem wput_any (g : Nat) (L : List Bool) (x : Nat) (n : Int) (w : World) (hS : SinkAt w g L) (hx : x < 4294967296) (hL : L.length ≤ 3000000000000000000) (hn : -9223372036854775808 ≤ n ∧ n ≤ 9223372036854775807) :
    Calls Try.prog 19 #[.pointer (some ⟨g, 0, none⟩), .int .u32 (x : Int), .int .i64 n] w fun e w' => e = .returned (.tuple #[]) ∧ SinkAt w' g (L ++ lowB x (near n 32)) ∧ w.grownBy w' (some g) := by
  have hm : near n 32 ≤ 32 := near_le n 32
  obtain ⟨m, hme⟩ : ∃ m, m = near n 32 := ⟨_, rfl⟩
  have HN : Hid (∀ W : World, Calls Try.prog 27 #[.int .i64 n, .int .i64 32] W fun e w' => e = .returned (.int .i64 (m : Int)) ∧ w' = W) := fun W => near32 n m W hn hme
  rw [← hme] at hm ⊢
  clear hme
  go_enter Try.func19, Try.ntmps19
  go_wp2_with (go_at_call 27; refine (HN.out _).mono ?_; rintro e w1 ⟨rfl, rfl⟩)
  go_loopw [9] (fun i wr => ∃ k : Nat, k ≤ m ∧ i = .int .i64 (k : Int) ∧ SinkAt wr g (L ++ lowB x k) ∧ w1.grownBy wr (some g)) (fun i _ => m - (intOf i).toNat)
  case atStart => exact ⟨0, by omega, rfl, by simpa [lowB] using hS, grefl _ _⟩
  case round =>
    clear hS
    obtain ⟨k, hk, rfl, hS, hG⟩ := hrel
    by_cases hlt : k < m
    · have HL : Hid (_ = _) := lowB_succ x k
      have hle : (L ++ lowB x k).length ≤ 4000000000000000000 := by rw [List.length_append, lowB_len]; omega
      go_wp2_with fail
      refine (wbit_shr g _ x k _ hS hx hle).mono ?_
      rintro e w2 ⟨rfl, hS2, hG2⟩
      go_wp2
      go_roundw
      case rel => exact ⟨k + 1, by omega, by go_num, by rw [HL.out, ← List.append_assoc]; exact hS2, gtrans hG hG2⟩
      case measure => simp [intOf]; omega
    · obtain rfl : k = m := by omega
      go_wp2
      exact bodyPost_end (results_none rfl _ _ _) rfl ⟨rfl, hS, hG⟩
theorem put_zero (g : Nat) (L : List Bool) (k : Nat) (w : World) (hS : SinkAt w g L) (hL : L.length ≤ 3000000000000000000) (hk : k ≤ 32) :
    Calls Try.prog 19 #[.pointer (some ⟨g, 0, none⟩), .int .u32 0, .int .i64 (k : Int)] w fun e w' => e = .returned (.tuple #[]) ∧ SinkAt w' g (L ++ List.replicate k false) ∧ w.grownBy w' (some g) := by
  have h := wput_any g L 0 (k : Int) w hS (by decide) hL (by omega)
  have e : near (k : Int) 32 = k := by unfold near; omega
  have e2 : lowB 0 k = List.replicate k false := by unfold lowB; simp [List.map_const']
  rw [e, e2] at h
  exact h
end Go.Proofs.Ytibnkpfginffhac
