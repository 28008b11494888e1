/- Contract of the document's Get: the number of bytes, the lowest first. -/
import Derived.Test.YtkaikjlklhcnlaaGetA
namespace Go.Proofs.Ytkaikjlklhcnlaa
open Go.RowKit
set_option linter.unusedVariables false

set_option maxRecDepth 100000 in
set_option maxHeartbeats 400000 in
theorem rget_any (s : ByteArray) (w : World) (hs : s.size ≤ 140737488351232) :
    Calls Try.prog 32 #[.string s] w fun e w' => e = .returned (.int .u64 (getN (s.data.toList.take 8))) ∧ w' = w := by
  go_enter Try.func32, Try.ntmps32
  go_wp2
  go_loop [3, 4, 5] (fun x u i => ∃ k : Nat, k ≤ 8 ∧ k ≤ s.size ∧ i = .int .i64 k ∧ x = .int .u64 (getN (s.data.toList.take k)) ∧ u = .int .u64 (256 ^ k % 18446744073709551616 : Nat)) (fun _ _ i => 8 - (intOf i).toNat)
  case atStart => exact ⟨0, by omega, by omega, rfl, rfl, rfl⟩
  case round =>
    obtain ⟨k, hk, hks, rfl, rfl, rfl⟩ := hrel
    by_cases hlt : k < s.size
    · by_cases h8 : k < 8
      · have h8' : (k : Int) < 8 := by omega
        have H1 : Hid (_ = _) := rget_step s k h8 hlt
        have H2 : Hid (_ = _) := runit_step k
        generalize 256 ^ k % 18446744073709551616 = U at *
        generalize getN (s.data.toList.take k) = G at *
        go_wp2
        go_round
        case rel => exact ⟨k + 1, by omega, by omega, by go_num, by rw [← H1.out], by rw [← H2.out]⟩
        case measure => simp [intOf]; omega
      · have h8' : decide ((k : Int) < 8) = false := by simp; omega
        have : k = 8 := by omega
        have HK : Hid (_ = _) := this
        clear this
        generalize 256 ^ k % 18446744073709551616 = U at *
        go_wp2
        go_ret
        rw [← HK.out]
        exact ⟨rfl, rfl⟩
    · have hd : decide ((k : Int) < (s.size : Int)) = false := by simp; omega
      have : s.data.toList.take 8 = s.data.toList.take k := by
        have e : k = s.size := by omega
        rw [List.take_of_length_le (by simp; omega), List.take_of_length_le (by simp; omega)]
      have HK : Hid (_ = _) := this
      clear this
      generalize 256 ^ k % 18446744073709551616 = U at *
      go_wp2
      go_ret
      rw [HK.out]
      exact ⟨rfl, rfl⟩
end Go.Proofs.Ytkaikjlklhcnlaa
