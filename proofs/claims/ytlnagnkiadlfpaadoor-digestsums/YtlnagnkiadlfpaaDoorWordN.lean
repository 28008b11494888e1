/- What the document's steps on bits are, as numbers: plain mathematics, no program. -/
import Derived.Test.YtlnagnkiadlfpaaDoorTurns
namespace Go.Proofs.YtlnagnkiadlfpaaDoor
open Go
set_option linter.unusedVariables false

theorem bit_high {x j : Nat} (hx : x < 4294967296) (hj : 32 ≤ j) : x.testBit j = false :=
  Nat.testBit_lt_two_pow (Nat.lt_of_lt_of_le hx (Nat.pow_le_pow_right (n := 2) (i := 32) (by decide) hj))
theorem ror_bit (x a i : Nat) (hx : x < 4294967296) (ha : 1 ≤ a) (ha' : a ≤ 31) (hi : i < 32) : bt (ror x a) i = bt x ((i + 32 - a) % 32) := by
  unfold bt ror
  rw [Nat.testBit_or, show 4294967296 = 2 ^ 32 by rfl, Nat.testBit_mod_two_pow, Nat.testBit_mul_two_pow, Nat.testBit_div_two_pow]
  by_cases h : i < a
  · rw [show (i + 32 - a) % 32 = i + 32 - a by omega, bit_high hx (show 32 ≤ 31 - i + a by omega), show 31 - i - (32 - a) = 31 - (i + 32 - a) by omega]
    simp [show 31 - i < 32 by omega, show 32 - a ≤ 31 - i by omega]
  · rw [show (i + 32 - a) % 32 = i - a by omega, show 31 - i + a = 31 - (i - a) by omega]
    simp [show ¬ 32 - a ≤ 31 - i by omega]
theorem shr_bit (x c i : Nat) (hx : x < 4294967296) (hc : c ≤ 31) (hi : i < 32) : bt (x / 2 ^ c) i = (decide (c ≤ i) && bt x ((i + 32 - c) % 32)) := by
  unfold bt
  rw [Nat.testBit_div_two_pow]
  by_cases h : c ≤ i
  · rw [show (i + 32 - c) % 32 = i - c by omega, show 31 - i + c = 31 - (i - c) by omega]; simp [h]
  · rw [bit_high hx (show 32 ≤ 31 - i + c by omega)]; simp [h]
theorem bt_xor (x y i : Nat) : bt (x ^^^ y) i = (bt x i != bt y i) := by unfold bt; rw [Nat.testBit_xor]
theorem turn3 (x a b c : Nat) (hx : x < 4294967296) (ha : 1 ≤ a) (ha' : a ≤ 31) (hb : 1 ≤ b) (hb' : b ≤ 31) (hc : 1 ≤ c) (hc' : c ≤ 31) : bl (tnF (bt x) a b c false) = bl (bt (ror x a ^^^ ror x b ^^^ ror x c)) := by
  apply bl_congr
  intro i hi
  rw [bt_xor, bt_xor, ror_bit x a i hx ha ha' hi, ror_bit x b i hx hb hb' hi, ror_bit x c i hx hc hc' hi]
  unfold tnF
  simp
theorem turn2 (x a b c : Nat) (hx : x < 4294967296) (ha : 1 ≤ a) (ha' : a ≤ 31) (hb : 1 ≤ b) (hb' : b ≤ 31) (hc' : c ≤ 31) : bl (tnF (bt x) a b c true) = bl (bt (ror x a ^^^ ror x b ^^^ x / 2 ^ c)) := by
  apply bl_congr
  intro i hi
  rw [bt_xor, bt_xor, ror_bit x a i hx ha ha' hi, ror_bit x b i hx hb hb' hi, shr_bit x c i hx hc' hi]
  unfold tnF
  by_cases h : c ≤ i <;> simp [h]
theorem cho_bit (e f g i : Nat) (he : e < 4294967296) (hi : i < 32) : bt (cho e f g) i = (bt e i && bt f i || !bt e i && bt g i) := by
  unfold bt cho
  rw [Nat.testBit_xor, Nat.testBit_and, Nat.testBit_and, show 4294967295 - e = 2 ^ 32 - (e + 1) by omega, Nat.testBit_two_pow_sub_succ he]
  simp only [show 31 - i < 32 by omega, decide_true, Bool.true_and]
  cases e.testBit (31 - i) <;> cases f.testBit (31 - i) <;> cases g.testBit (31 - i) <;> rfl
theorem maj_bit (a b c i : Nat) : bt (maj a b c) i = (bt a i && bt b i || bt a i && bt c i || bt b i && bt c i) := by
  unfold bt maj
  rw [Nat.testBit_xor, Nat.testBit_xor, Nat.testBit_and, Nat.testBit_and, Nat.testBit_and]
  cases a.testBit (31 - i) <;> cases b.testBit (31 - i) <;> cases c.testBit (31 - i) <;> rfl
theorem maj_lt (a b c : Nat) (ha : a < 4294967296) (hb : b < 4294967296) : maj a b c < 4294967296 := xor_lt32 (xor_lt32 (and_lt32 ha) (and_lt32 ha)) (and_lt32 hb)
theorem cho_lt (e f g : Nat) (he : e < 4294967296) : cho e f g < 4294967296 := xor_lt32 (and_lt32 he) (and_lt32 (by omega))
theorem sum5 (a b c d e : Nat) : sumW [a, b, c, d, e] = ((((a + b) % 4294967296 + c) % 4294967296 + d) % 4294967296 + e) % 4294967296 := by simp [sumW]
theorem sum2 (a b : Nat) : sumW [a, b] = (a + b) % 4294967296 := by simp [sumW]
theorem sum4 (a b c d : Nat) : sumW [a, b, c, d] = (((a + b) % 4294967296 + c) % 4294967296 + d) % 4294967296 := by simp [sumW]
end Go.Proofs.YtlnagnkiadlfpaaDoor
