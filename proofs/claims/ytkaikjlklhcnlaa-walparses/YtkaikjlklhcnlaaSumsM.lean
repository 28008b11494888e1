/- The plain mathematics of the law BitsSums: the sum by division, bit by bit, is the sum by the table. -/
import Derived.Test.YtkaikjlklhcnlaaEntM
namespace Go.Proofs.Ytkaikjlklhcnlaa
set_option linter.unusedVariables false

/-- A bit that goes in behind the lowest one doesn't turn the step. -/
theorem xor_half (c y : Nat) : (c ^^^ 2 * y) / 2 = c / 2 ^^^ y := by
  have h : ∀ n : Nat, n / 2 = n >>> 1 := fun n => by rw [Nat.shiftRight_eq_div_pow]
  rw [h, h, Nat.shiftRight_xor_distrib, ← h (2 * y), Nat.mul_div_cancel_left _ (by decide)]
theorem xor_parity (c y : Nat) : (c ^^^ 2 * y) % 2 = c % 2 := by
  have h := Nat.xor_mod_two_pow (a := c) (b := 2 * y) (n := 1)
  rw [Nat.pow_one, Nat.mul_mod_right, Nat.xor_zero] at h
  exact h
theorem shf_xor (c y : Nat) : shf (c ^^^ 2 * y) = shf c ^^^ y := by
  unfold shf
  rw [xor_parity, xor_half]
  split
  · rw [Nat.xor_assoc, Nat.xor_comm y, ← Nat.xor_assoc]
  · rfl
theorem shfN_xor (n : Nat) : ∀ (c y : Nat), shfN n (c ^^^ 2 ^ n * y) = shfN n c ^^^ y := by
  induction n with
  | zero => intro c y; simp [shfN]
  | succ n ih =>
    intro c y
    rw [show 2 ^ (n + 1) * y = 2 ^ n * (2 * y) by rw [Nat.pow_succ, Nat.mul_assoc]]
    show shf (shfN n (c ^^^ 2 ^ n * (2 * y))) = _
    rw [ih, shf_xor]; rfl
theorem split_xor (lo h n : Nat) (hl : lo < 2 ^ n) : lo ^^^ 2 ^ n * h = 2 ^ n * h + lo := by
  apply Nat.eq_of_testBit_eq
  intro i
  rw [Nat.testBit_xor, Nat.testBit_two_pow_mul, Nat.testBit_two_pow_mul_add h hl]
  by_cases hi : i < n
  · have : ¬ n ≤ i := by omega
    simp [hi, this]
  · have h2 : n ≤ i := by omega
    rw [Nat.testBit_lt_two_pow (Nat.lt_of_lt_of_le hl (Nat.pow_le_pow_right (by decide) h2))]
    simp [hi, h2]
/-- A byte's step by the table is eight steps of a bit. -/
theorem crcStep_shf (c b : Nat) (hb : b < 256) : crcStep c b = shfN 8 (c ^^^ b) := by
  have e : c ^^^ b = (c % 256 ^^^ b) ^^^ 2 ^ 8 * (c / 256) := by
    have h : c = c % 256 ^^^ 2 ^ 8 * (c / 256) := by rw [split_xor _ _ 8 (by omega)]; omega
    conv => lhs; rw [h]
    rw [Nat.xor_assoc, Nat.xor_comm (2 ^ 8 * _), ← Nat.xor_assoc]
  rw [e, shfN_xor, ent_shfN]; rfl

/-- Bit j of a byte. -/
def bitOf (b j : Nat) : Nat := b / 2 ^ j % 2
/-- The steps of n bits of a byte. -/
def feed (b : Nat) : Nat → Nat → Nat
  | 0, c => c
  | n + 1, c => shf (feed b n c ^^^ bitOf b n)
theorem feed_shf (b : Nat) : ∀ (n c : Nat), shfN n (c ^^^ b) = feed b n c ^^^ b / 2 ^ n
  | 0, c => by simp [shfN, feed]
  | n + 1, c => by
    show shf (shfN n (c ^^^ b)) = _
    rw [feed_shf b n c]
    have e : b / 2 ^ n = bitOf b n ^^^ 2 * (b / 2 ^ (n + 1)) := by
      have h : b / 2 ^ (n + 1) = b / 2 ^ n / 2 := by rw [Nat.pow_succ, Nat.div_div_eq_div_mul]
      have := split_xor (bitOf b n) (b / 2 ^ (n + 1)) 1 (by unfold bitOf; omega)
      rw [Nat.pow_one] at this
      rw [this, h]; unfold bitOf; omega
    conv => lhs; rw [e]
    rw [← Nat.xor_assoc, shf_xor]; rfl
theorem crcStep_feed (c b : Nat) (hb : b < 256) : crcStep c b = feed b 8 c := by
  rw [crcStep_shf c b hb, feed_shf, Nat.div_eq_of_lt (by simpa using hb), Nat.xor_zero]

/-- Bit i of a text, 0 behind its end. -/
def mb (l : List UInt8) (i : Nat) : Nat := bitOf ((l[i / 8]?.getD 0).toNat) (i % 8)
/-- The register behind i bits. -/
def reg (l : List UInt8) : Nat → Nat
  | 0 => 4294967295
  | i + 1 => shf (reg l i ^^^ mb l i)
theorem mb_le (l : List UInt8) (i : Nat) : mb l i ≤ 1 := by unfold mb bitOf; omega
theorem reg_lt (l : List UInt8) : ∀ i, reg l i < 4294967296
  | 0 => (by decide : 4294967295 < 4294967296)
  | i + 1 => shf_lt _ (Nat.xor_lt_two_pow (n := 32) (reg_lt l i) (by have := mb_le l i; omega))
theorem reg_byte (l : List UInt8) (k : Nat) : ∀ n, n ≤ 8 → reg l (8 * k + n) = feed (l[k]?.getD 0).toNat n (reg l (8 * k))
  | 0, _ => rfl
  | n + 1, h => by
    show shf (reg l (8 * k + n) ^^^ mb l (8 * k + n)) = _
    rw [reg_byte l k n (by omega)]
    unfold mb
    rw [show (8 * k + n) / 8 = k by omega, show (8 * k + n) % 8 = n by omega]; rfl
theorem reg_crc (l : List UInt8) : ∀ k, k ≤ l.length → reg l (8 * k) = crcF 4294967295 (l.take k)
  | 0, _ => by simp [crcF]; rfl
  | k + 1, h => by
    have hb := (l[k]?.getD 0).toNat_lt
    rw [show 8 * (k + 1) = 8 * k + 8 by omega, reg_byte l k 8 (by omega), ← crcStep_feed _ _ hb, reg_crc l k (by omega), List.take_succ_eq_append_getElem (by omega), crcF_snoc]
    rw [List.getElem?_eq_getElem (by omega)]; rfl
theorem reg_all (l : List UInt8) : 4294967295 - reg l (8 * l.length) = crcV 0 l := by
  rw [reg_crc l _ (Nat.le_refl _), List.take_length]; rfl

/-- The row of bits: what step i finds at place j. -/
def rowAt (l : List UInt8) (i j : Nat) : Bool := if j < i then false else ((reg l i).testBit (j - i)) != (mb l j == 1)
theorem row_start (l : List UInt8) (j : Nat) : rowAt l 0 j = ((mb l j == 1) != decide (j < 32)) := by
  unfold rowAt
  rw [if_neg (by omega), Nat.sub_zero]
  have : (reg l 0).testBit j = decide (j < 32) := by
    show (4294967295 : Nat).testBit j = _
    rw [show 4294967295 = 2 ^ 32 - 1 by decide, Nat.testBit_two_pow_sub_one]
  rw [this]
  cases decide (j < 32) <;> cases (mb l j == 1) <;> rfl
/-- Is this a bit of the divisor, the highest first? -/
def pol (k : Nat) : Bool := 4374732215 / 2 ^ (32 - k) % 2 == 1
theorem pol_bit : ∀ k : Fin 32, pol (k.val + 1) = (3988292384 : Nat).testBit k.val := by decide +kernel
theorem pol_zero : pol 0 = true := by decide +kernel
theorem testBit_shf (c k : Nat) : (shf c).testBit k = (c.testBit (k + 1) != (decide (c % 2 = 1) && (3988292384 : Nat).testBit k)) := by
  unfold shf
  by_cases h : c % 2 = 1
  · rw [if_pos h, Nat.testBit_xor, Nat.testBit_div_two]; simp [h]
  · rw [if_neg h, Nat.testBit_div_two]; simp [h]
theorem testBit_zero_ne (n k : Nat) (h : n ≤ 1) : n.testBit (k + 1) = false := by
  apply Nat.testBit_lt_two_pow
  exact Nat.lt_of_le_of_lt h (Nat.one_lt_two_pow (by omega))
/-- What a step does to the row. -/
def flip (T : Nat → Bool) (i k : Nat) : Nat → Bool := fun j => T j != (decide (i ≤ j) && decide (j < i + k) && pol (j - i))
theorem row_head (l : List UInt8) (i : Nat) : rowAt l i i = decide ((reg l i ^^^ mb l i) % 2 = 1) := by
  unfold rowAt
  rw [if_neg (by omega), Nat.sub_self]
  have hm := mb_le l i
  have h := Nat.testBit_xor (reg l i) (mb l i) 0
  rw [Nat.testBit_zero, Nat.testBit_zero, Nat.testBit_zero] at h
  rw [Nat.testBit_zero, h]
  have : decide (mb l i % 2 = 1) = (mb l i == 1) := by
    rcases (show mb l i = 0 ∨ mb l i = 1 by omega) with e | e <;> rw [e] <;> rfl
  rw [this]
theorem row_next (l : List UInt8) (i j : Nat) : rowAt l (i + 1) j = if rowAt l i i then flip (rowAt l i) i 33 j else rowAt l i j := by
  have hm := mb_le l i
  have hhead := row_head l i
  by_cases hj : j < i
  · have e1 : rowAt l (i + 1) j = false := by unfold rowAt; rw [if_pos (by omega)]
    have e2 : rowAt l i j = false := by unfold rowAt; rw [if_pos hj]
    unfold flip
    rw [e1, e2]
    have : decide (i ≤ j) = false := by simp; omega
    rw [this]; split <;> rfl
  · by_cases hji : j = i
    · subst hji
      have e1 : rowAt l (j + 1) j = false := by unfold rowAt; rw [if_pos (by omega)]
      rw [e1]
      unfold flip
      rw [Nat.sub_self, pol_zero]
      cases h : rowAt l j j
      · simp
      · simp
    · obtain ⟨k, rfl⟩ : ∃ k, j = i + 1 + k := ⟨j - (i + 1), by omega⟩
      have e1 : rowAt l (i + 1) (i + 1 + k) = (((reg l (i + 1)).testBit k) != (mb l (i + 1 + k) == 1)) := by
        unfold rowAt; rw [if_neg (by omega), show i + 1 + k - (i + 1) = k by omega]
      have e2 : rowAt l i (i + 1 + k) = (((reg l i).testBit (k + 1)) != (mb l (i + 1 + k) == 1)) := by
        unfold rowAt; rw [if_neg (by omega), show i + 1 + k - i = k + 1 by omega]
      have e3 : (reg l (i + 1)).testBit k = ((reg l i).testBit (k + 1) != (rowAt l i i && (3988292384 : Nat).testBit k)) := by
        show (shf (reg l i ^^^ mb l i)).testBit k = _
        rw [testBit_shf, Nat.testBit_xor, testBit_zero_ne _ _ hm, Bool.xor_false, hhead]
      unfold flip
      rw [e1, e2, e3, show i + 1 + k - i = k + 1 by omega]
      have d1 : decide (i ≤ i + 1 + k) = true := by simp; omega
      rw [d1]
      by_cases hk : k < 32
      · have d2 : decide (i + 1 + k < i + 33) = true := by simp; omega
        rw [d2, pol_bit ⟨k, hk⟩]
        cases rowAt l i i <;> cases (reg l i).testBit (k + 1) <;> cases (3988292384 : Nat).testBit k <;> cases (mb l (i + 1 + k) == 1) <;> rfl
      · have d2 : decide (i + 1 + k < i + 33) = false := by simp; omega
        have d3 : (3988292384 : Nat).testBit k = false := Nat.testBit_lt_two_pow (Nat.lt_of_lt_of_le (show 3988292384 < 2 ^ 32 by decide) (Nat.pow_le_pow_right (by decide) (by omega)))
        rw [d2, d3]
        cases rowAt l i i <;> cases (reg l i).testBit (k + 1) <;> cases (mb l (i + 1 + k) == 1) <;> rfl
/-- Behind all bits the row is the register. -/
theorem row_end (l : List UInt8) (k : Nat) : rowAt l (8 * l.length) (8 * l.length + k) = (reg l (8 * l.length)).testBit k := by
  unfold rowAt
  have : mb l (8 * l.length + k) = 0 := by
    unfold mb
    rw [List.getElem?_eq_none (by omega)]
    simp [bitOf]
  rw [if_neg (by omega), this, show 8 * l.length + k - 8 * l.length = k by omega]
  cases (reg l (8 * l.length)).testBit k <;> rfl
/-- The number of the turned bits, k of them. -/
def low (c k : Nat) : Nat := (4294967295 - c) % 2 ^ k
theorem low_zero (c : Nat) : low c 0 = 0 := by simp [low, Nat.mod_one]
theorem low_succ (c k : Nat) (hc : c < 4294967296) (hk : k < 32) : low c (k + 1) = low c k + (if c.testBit k then 0 else 2 ^ k) := by
  unfold low
  rw [Nat.mod_pow_succ]
  have : (4294967295 - c).testBit k = !c.testBit k := by
    rw [show 4294967295 - c = 2 ^ 32 - (c + 1) by omega, Nat.testBit_two_pow_sub_succ (by omega)]
    simp [hk]
  rw [Nat.testBit_eq_decide_div_mod_eq] at this
  cases hb : c.testBit k
  · rw [hb] at this
    have e : (4294967295 - c) / 2 ^ k % 2 = 1 := by simpa using this
    rw [e]; simp
  · rw [hb] at this
    have e : (4294967295 - c) / 2 ^ k % 2 = 0 := by
      have : ¬ (4294967295 - c) / 2 ^ k % 2 = 1 := by simpa using this
      omega
    rw [e]; simp
theorem low_lt (c k : Nat) : low c k < 2 ^ k := Nat.mod_lt _ (Nat.pow_pos (by decide))
theorem low_all (c : Nat) : low c 32 = 4294967295 - c := by unfold low; exact Nat.mod_eq_of_lt (by omega)
end Go.Proofs.Ytkaikjlklhcnlaa
