/- Contract of the document's Entry: a byte's number in the table. -/
import Derived.Test.YtkphgjaklkfcfaaTab
namespace Go.Proofs.Ytkphgjaklkfcfaa
open Go.RowKit
set_option linter.unusedVariables false

def shfN : Nat → Nat → Nat
  | 0, b => b
  | k + 1, b => shf (shfN k b)
theorem shfN_lt (b : Nat) (h : b < 4294967296) : ∀ k, shfN k b < 4294967296
  | 0 => h
  | k + 1 => shf_lt _ (shfN_lt b h k)
theorem ent_shfN (b : Nat) : shfN 8 b = ent b := rfl

set_option maxRecDepth 100000 in
set_option maxHeartbeats 400000 in
theorem entry_any (b : Nat) (w : World) (hb : b < 256) :
    Calls Try.prog 28 #[.int .i64 b] w fun e w' => e = .returned (.int .u32 (ent b)) ∧ w' = w := by
  go_enter Try.func28, Try.ntmps28
  go_wp2
  go_loop [3, 4] (fun c i => ∃ k : Nat, k ≤ 8 ∧ i = .int .i64 k ∧ c = .int .u32 (shfN k b)) (fun _ i => 8 - (intOf i).toNat)
  case atStart => exact ⟨0, by omega, rfl, rfl⟩
  case round =>
    obtain ⟨k, hk, rfl, rfl⟩ := hrel
    have hl := shfN_lt b (by omega) k
    by_cases h8 : k < 8
    · have hS : Hid (shfN (k + 1) b = shf (shfN k b)) := rfl
      generalize shfN k b = C at *
      have h2 := shf_u32 C hl
      by_cases hc : C % 2 = 1
      · have e : shf C = (C / 2) ^^^ 3988292384 := by unfold shf; rw [if_pos hc]
        have E : Hid (_ = _) := e
        have hc' : 1 ≤ C % 2 := by omega
        clear e hc
        go_wp2
        go_round
        case rel => exact ⟨k + 1, by omega, by go_num, by rw [hS.out, E.out, ← h2]⟩
        case measure => simp [intOf]; omega
      · have e : shf C = C / 2 := by unfold shf; rw [if_neg hc]
        have E : Hid (_ = _) := e
        have hc' : C % 2 ≤ 0 := by omega
        clear e hc
        go_wp2
        go_round
        case rel => exact ⟨k + 1, by omega, by go_num, by rw [hS.out, E.out]; rfl⟩
        case measure => simp [intOf]; omega
    · have : k = 8 := by omega
      have HE : Hid (shfN k b = ent b) := by rw [this]; exact ent_shfN b
      clear this
      go_wp2
      go_ret
      rw [← HE.out]
      exact ⟨rfl, rfl⟩
end Go.Proofs.Ytkphgjaklkfcfaa
