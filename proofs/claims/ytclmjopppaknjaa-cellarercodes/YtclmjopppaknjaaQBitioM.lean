/- Bits of texts and texts of bits, the lowest of each byte first: plain mathematics, no program. -/
import Derived.Laws.BitsAllLaws
namespace Go.Proofs.Ytclmjopppaknjaa
open Go
set_option linter.unusedVariables false

/-- The number of the bits f 0 .. f (n - 1), the first one the lowest. -/
def takeN (f : Nat → Bool) : Nat → Nat
  | 0 => 0
  | n + 1 => takeN f n + (f n).toNat * 2 ^ n
/-- The same, the first one the highest. -/
def turnN (f : Nat → Bool) : Nat → Nat
  | 0 => 0
  | n + 1 => 2 * turnN f n + (f n).toNat
theorem takeN_lt (f : Nat → Bool) : ∀ n, takeN f n < 2 ^ n
  | 0 => by simp [takeN]
  | n + 1 => by
    have := takeN_lt f n
    rw [takeN, Nat.pow_succ]
    cases f n <;> simp <;> omega
theorem turnN_lt (f : Nat → Bool) : ∀ n, turnN f n < 2 ^ n
  | 0 => by simp [turnN]
  | n + 1 => by
    have := turnN_lt f n
    rw [turnN, Nat.pow_succ]
    cases f n <;> simp <;> omega
theorem takeN_congr {f g : Nat → Bool} : ∀ n, (∀ i, i < n → f i = g i) → takeN f n = takeN g n
  | 0, _ => rfl
  | n + 1, h => by rw [takeN, takeN, takeN_congr n (fun i hi => h i (by omega)), h n (by omega)]
theorem turnN_congr {f g : Nat → Bool} : ∀ n, (∀ i, i < n → f i = g i) → turnN f n = turnN g n
  | 0, _ => rfl
  | n + 1, h => by rw [turnN, turnN, turnN_congr n (fun i hi => h i (by omega)), h n (by omega)]
theorem takeN_lt32 (f : Nat → Bool) (n : Nat) (h : n ≤ 32) : takeN f n < 4294967296 :=
  Nat.lt_of_lt_of_le (takeN_lt f n) (Nat.pow_le_pow_right (n := 2) (i := n) (j := 32) (by decide) h)
theorem turnN_lt32 (f : Nat → Bool) (n : Nat) (h : n ≤ 32) : turnN f n < 4294967296 :=
  Nat.lt_of_lt_of_le (turnN_lt f n) (Nat.pow_le_pow_right (n := 2) (i := n) (j := 32) (by decide) h)
/-- One bit more, or-ed in. -/
theorem takeN_or (f : Nat → Bool) (n : Nat) : takeN f n ||| ((f n).toNat * 2 ^ n) = takeN f (n + 1) := by
  have h := takeN_lt f n
  rw [takeN, Nat.mul_comm, Nat.or_comm, ← Nat.two_pow_add_eq_or_of_lt h, Nat.add_comm]
theorem turnN_or (f : Nat → Bool) (n : Nat) : (2 * turnN f n) ||| (f n).toNat = turnN f (n + 1) := by
  have h : (f n).toNat < 2 ^ 1 := by cases f n <;> decide
  rw [turnN, show 2 * turnN f n = 2 ^ 1 * turnN f n by rw [Nat.pow_one], ← Nat.two_pow_add_eq_or_of_lt h]
theorem takeN_bit (f : Nat → Bool) : ∀ n j, (takeN f n).testBit j = (decide (j < n) && f j)
  | 0, j => by simp [takeN]
  | n + 1, j => by
    rw [← takeN_or, Nat.testBit_or, takeN_bit f n j]
    by_cases h : j = n
    · subst h
      cases f j <;> simp
    · have e : ((f n).toNat * 2 ^ n).testBit j = false := by
        cases f n
        · simp
        · simp [Nat.testBit_two_pow]; omega
      rw [e]
      simp [show (j < n + 1) = (j < n) by apply propext; omega]
theorem turnN_bit (f : Nat → Bool) : ∀ n j, (turnN f n).testBit j = (decide (j < n) && f (n - 1 - j))
  | 0, j => by simp [turnN]
  | n + 1, 0 => by
    rw [turnN, Nat.testBit_zero, Nat.mul_add_mod]
    cases h : f n <;> simp [h]
  | n + 1, j + 1 => by
    rw [Nat.testBit_succ, show turnN f (n + 1) / 2 = turnN f n by rw [turnN]; cases f n <;> simp <;> omega, turnN_bit f n j]
    rw [show n + 1 - 1 - (j + 1) = n - 1 - j by omega]
    simp
/-- Part of the document's turned number. -/
theorem turnN_part (f : Nat → Bool) (n m : Nat) (h : m < n) : turnN f m * 2 ^ (n - m) + (f m).toNat * 2 ^ (n - 1 - m) = turnN f (m + 1) * 2 ^ (n - (m + 1)) := by
  rw [turnN, show n - m = n - (m + 1) + 1 by omega, show n - 1 - m = n - (m + 1) by omega, Nat.pow_succ]
  generalize 2 ^ (n - (m + 1)) = p
  rw [Nat.add_mul]
  have : turnN f m * (p * 2) = 2 * turnN f m * p := by rw [Nat.mul_comm p 2, ← Nat.mul_assoc, Nat.mul_comm (turnN f m) 2]
  omega
theorem turnN_part_lt (f : Nat → Bool) (n m : Nat) (h : m ≤ n) : turnN f m * 2 ^ (n - m) < 2 ^ n := by
  have := turnN_lt f m
  calc turnN f m * 2 ^ (n - m) < 2 ^ m * 2 ^ (n - m) := Nat.mul_lt_mul_of_pos_right this (Nat.two_pow_pos _)
    _ = 2 ^ n := by rw [← Nat.pow_add]; congr 1; omega
/-- Bit i of a text. -/
def sbit (s : List UInt8) (i : Nat) : Bool := (s.getD (i / 8) 0).toNat.testBit (i % 8)
theorem sbit_past (s : List UInt8) (i : Nat) (h : 8 * s.length ≤ i) : sbit s i = false := by
  unfold sbit
  rw [List.getD_eq_getElem?_getD, List.getElem?_eq_none (by omega)]
  simp
/-- The text of bits. -/
def packB (L : List Bool) (j : Nat) : UInt8 := UInt8.ofNat (takeN (fun i => L.getD (8 * j + i) false) 8)
def packL (L : List Bool) : List UInt8 := (List.range ((L.length + 7) / 8)).map (packB L)
theorem packL_len (L : List Bool) : (packL L).length = (L.length + 7) / 8 := by simp [packL]
theorem packB_bit (L : List Bool) (j i : Nat) (hi : i < 8) : (packB L j).toNat.testBit i = L.getD (8 * j + i) false := by
  unfold packB
  rw [UInt8.toNat_ofNat', Nat.mod_eq_of_lt (takeN_lt _ 8), takeN_bit]
  simp [hi]
theorem packL_bit (L : List Bool) (i : Nat) : sbit (packL L) i = L.getD i false := by
  by_cases h : i / 8 < (L.length + 7) / 8
  · unfold sbit
    rw [List.getD_eq_getElem?_getD, packL, List.getElem?_map, List.getElem?_range h]
    simp only [Option.map_some, Option.getD_some]
    rw [packB_bit _ _ _ (Nat.mod_lt _ (by decide)), show 8 * (i / 8) + i % 8 = i by omega]
  · rw [sbit_past _ _ (by rw [packL_len]; omega), List.getD_eq_getElem?_getD, List.getElem?_eq_none (by omega)]
    rfl
/-- The n lowest bits of a number, the lowest first; the highest first. -/
def lowB (x n : Nat) : List Bool := (List.range n).map fun i => x.testBit i
def highB (x n : Nat) : List Bool := (List.range n).map fun i => x.testBit (n - 1 - i)
theorem lowB_len (x n : Nat) : (lowB x n).length = n := by simp [lowB]
theorem highB_len (x n : Nat) : (highB x n).length = n := by simp [highB]
theorem lowB_succ (x n : Nat) : lowB x (n + 1) = lowB x n ++ [x.testBit n] := by simp [lowB, List.range_succ]
theorem lowB_at (x n i : Nat) (h : i < n) : (lowB x n).getD i false = x.testBit i := by
  simp [lowB, List.getD_eq_getElem?_getD, List.getElem?_map, List.getElem?_range h]
theorem highB_at (x n i : Nat) (h : i < n) : (highB x n).getD i false = x.testBit (n - 1 - i) := by
  simp [highB, List.getD_eq_getElem?_getD, List.getElem?_map, List.getElem?_range h]
theorem takeN_low (x n : Nat) : takeN (fun i => x.testBit i) n = x % 2 ^ n := by
  apply Nat.eq_of_testBit_eq
  intro j
  rw [takeN_bit, Nat.testBit_mod_two_pow]
theorem turnN_high (x n : Nat) : turnN (fun i => x.testBit (n - 1 - i)) n = x % 2 ^ n := by
  apply Nat.eq_of_testBit_eq
  intro j
  rw [turnN_bit, Nat.testBit_mod_two_pow]
  by_cases h : j < n
  · simp [h, show n - 1 - (n - 1 - j) = j by omega]
  · simp [h]
/-- Noughts up to a whole byte. -/
def evenL (L : List Bool) : List Bool := L ++ List.replicate ((L.length + 7) / 8 * 8 - L.length) false
theorem evenL_len (L : List Bool) : (evenL L).length = (L.length + 7) / 8 * 8 := by simp [evenL]; omega
/-- A text's bits. -/
def rowOf (s : List UInt8) : List Bool := (List.range (8 * s.length)).map (sbit s)
theorem rowOf_len (s : List UInt8) : (rowOf s).length = 8 * s.length := by simp [rowOf]
theorem rowOf_at (s : List UInt8) (i : Nat) : (rowOf s).getD i false = sbit s i := by
  by_cases h : i < 8 * s.length
  · simp [rowOf, List.getD_eq_getElem?_getD, List.getElem?_map, List.getElem?_range h]
  · rw [sbit_past s i (by omega), List.getD_eq_getElem?_getD, List.getElem?_eq_none (by rw [rowOf_len]; omega)]; rfl
end Go.Proofs.Ytclmjopppaknjaa
