/- Contract of bits.Get: the number of bytes, the lowest first. -/
import Derived.Test.YtkaikjlklhcnlaaRows
import Derived.Test.YtkaikjlklhcnlaaBase
import Derived.Test.YtkaikjlklhcnlaaVarM
import Derived.Test.YtkaikjlklhcnlaaCrcM
namespace Go.Proofs.Ytkaikjlklhcnlaa
open Go.RowKit
set_option linter.unusedVariables false

/-- The number of these bytes, the lowest first. -/
def getN : List UInt8 → Nat
  | [] => 0
  | b :: r => b.toNat + 256 * getN r
theorem getN_lt : ∀ l : List UInt8, getN l < 256 ^ l.length
  | [] => by simp [getN]
  | b :: r => by
    have h := getN_lt r
    have hb := b.toNat_lt
    simp only [getN, List.length_cons, Nat.pow_succ]
    omega
theorem getN_snoc : ∀ (l : List UInt8) (b : UInt8), getN (l ++ [b]) = getN l + b.toNat * 256 ^ l.length
  | [], b => by simp [getN]
  | a :: r, b => by
    simp only [List.cons_append, getN, getN_snoc r b, List.length_cons, Nat.pow_succ]
    rw [Nat.mul_add, ← Nat.add_assoc, Nat.mul_comm 256 (b.toNat * _), Nat.mul_assoc]
theorem wrap64_nat (n : Nat) : IntKind.u64.wrap (n : Int) = ((n % 18446744073709551616 : Nat) : Int) := by
  simp [IntKind.wrap, IntKind.bits, IntKind.signed]
theorem byte_pow (b k : Nat) (hb : b < 256) (hk : k < 8) : b * 256 ^ k < 18446744073709551616 := by
  have h1 : 256 ^ k ≤ 256 ^ 7 := Nat.pow_le_pow_right (by decide) (by omega)
  have h2 : b * 256 ^ k ≤ 255 * 256 ^ 7 := Nat.mul_le_mul (by omega) h1
  exact Nat.lt_of_le_of_lt h2 (by decide)
theorem pow_256 (k : Nat) : 2 ^ (8 * k) = 256 ^ k := by rw [Nat.pow_mul]
theorem take_len (s : ByteArray) (k : Nat) (h : k ≤ s.size) : (s.data.toList.take k).length = k := by
  rw [List.length_take]; have : s.data.toList.length = s.size := by simp
  omega
theorem get_step (s : ByteArray) (k : Nat) (hk : k < 8) (h : k < s.size) :
    bits BinOp.or IntKind.u64 (getN (s.data.toList.take k) : Int) (IntKind.u64.wrap (IntKind.u64.wrap (s[k].toNat : Int) * 2 ^ (8 * k))) = (getN (s.data.toList.take (k + 1)) : Int) := by
  have hb : s[k].toNat < 256 := s[k].toNat_lt
  have hp := byte_pow _ k hb hk
  have hl := getN_lt (s.data.toList.take k)
  rw [take_len s k (by omega)] at hl
  have hg : getN (s.data.toList.take k) < 18446744073709551616 := Nat.lt_of_lt_of_le hl (Nat.le_trans (Nat.pow_le_pow_right (by decide) (show k ≤ 8 by omega)) (by decide))
  rw [take_snoc s k h, getN_snoc, take_len s k (by omega), wrap64_nat, Nat.mod_eq_of_lt (by omega)]
  have e : ((s[k].toNat : Int) * 2 ^ (8 * k)) = ((s[k].toNat * 2 ^ (8 * k) : Nat) : Int) := by simp
  rw [e, wrap64_nat, pow_256, Nat.mod_eq_of_lt hp, ← pow_256]
  exact or_join _ _ _ (by rw [pow_256]; exact hl) hg (by rw [pow_256]; exact hp)
theorem rget_step (s : ByteArray) (k : Nat) (hk : k < 8) (h : k < s.size) :
    IntKind.u64.wrap ((getN (s.data.toList.take k) : Int) + IntKind.u64.wrap (IntKind.u64.wrap (s[k].toNat : Int) * ((256 ^ k % 18446744073709551616 : Nat) : Int))) = (getN (s.data.toList.take (k + 1)) : Int) := by
  have hb : s[k].toNat < 256 := s[k].toNat_lt
  have hp := byte_pow _ k hb hk
  have hl := getN_lt (s.data.toList.take (k + 1))
  rw [take_len s (k + 1) (by omega)] at hl
  have hg : getN (s.data.toList.take (k + 1)) < 18446744073709551616 := Nat.lt_of_lt_of_le hl (Nat.le_trans (Nat.pow_le_pow_right (by decide) (show k + 1 ≤ 8 by omega)) (by decide))
  have h1 : 256 ^ k < 18446744073709551616 := Nat.lt_of_le_of_lt (Nat.pow_le_pow_right (by decide) (show k ≤ 7 by omega)) (by decide)
  rw [take_snoc s k h, getN_snoc, take_len s k (by omega)] at hg ⊢
  rw [wrap64_nat, Nat.mod_eq_of_lt (by omega), Nat.mod_eq_of_lt h1]
  have e : ((s[k].toNat : Int) * ((256 ^ k : Nat) : Int)) = ((s[k].toNat * 256 ^ k : Nat) : Int) := by simp
  rw [e, wrap64_nat, Nat.mod_eq_of_lt hp]
  have e2 : ((getN (s.data.toList.take k) : Int) + ((s[k].toNat * 256 ^ k : Nat) : Int)) = ((getN (s.data.toList.take k) + s[k].toNat * 256 ^ k : Nat) : Int) := by simp
  rw [e2, wrap64_nat, Nat.mod_eq_of_lt hg]
theorem runit_step (k : Nat) : IntKind.u64.wrap (((256 ^ k % 18446744073709551616 : Nat) : Int) * 256) = ((256 ^ (k + 1) % 18446744073709551616 : Nat) : Int) := by
  have e : (((256 ^ k % 18446744073709551616 : Nat) : Int) * 256) = ((256 ^ k % 18446744073709551616 * 256 : Nat) : Int) := by simp
  rw [e, wrap64_nat, Nat.pow_succ, Nat.mod_mul_mod]

set_option maxRecDepth 100000 in
set_option maxHeartbeats 400000 in
theorem get_any (s : ByteArray) (w : World) (hs : s.size ≤ 140737488351232) :
    Calls Try.prog 51 #[.string s] w fun e w' => e = .returned (.int .u64 (getN (s.data.toList.take 8))) ∧ w' = w := by
  go_enter Try.func51, Try.ntmps51
  go_wp2
  go_loop [3, 4] (fun x i => ∃ k : Nat, k ≤ 8 ∧ k ≤ s.size ∧ i = .int .i64 k ∧ x = .int .u64 (getN (s.data.toList.take k))) (fun _ i => 8 - (intOf i).toNat)
  case atStart => exact ⟨0, by omega, by omega, rfl, rfl⟩
  case round =>
    obtain ⟨k, hk, hks, rfl, rfl⟩ := hrel
    by_cases hlt : k < s.size
    · by_cases h8 : k < 8
      · have h8' : (k : Int) < 8 := by omega
        go_wp2
        go_round
        case rel => exact ⟨k + 1, by omega, by omega, by go_num, by rw [← get_step s k h8 hlt]⟩
        case measure => simp [intOf]; omega
      · have h8' : decide ((k : Int) < 8) = false := by simp; omega
        have : k = 8 := by omega
        have HK : Hid (_ = _) := this
        clear this
        go_wp2
        go_ret
        rw [← HK.out]
        exact ⟨rfl, rfl⟩
    · have hd : decide ((k : Int) < (s.size : Int)) = false := by simp; omega
      have : s.data.toList.take 8 = s.data.toList.take k := by
        have e : k = s.size := by omega
        rw [List.take_of_length_le (by simp; omega), List.take_of_length_le (by simp; omega)]
      have HK : Hid (_ = _) := this
      clear this
      go_wp2
      go_ret
      rw [HK.out]
      exact ⟨rfl, rfl⟩
end Go.Proofs.Ytkaikjlklhcnlaa
