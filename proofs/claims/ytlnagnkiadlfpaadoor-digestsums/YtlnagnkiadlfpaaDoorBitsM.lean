/- A text's bits with what stands behind them: plain mathematics, no program. -/
import Derived.Test.YtlnagnkiadlfpaaDoorHashM
import Derived.Test.YtlnagnkiadlfpaaDoorWordM
namespace Go.Proofs.YtlnagnkiadlfpaaDoor
open Go
set_option linter.unusedVariables false
/-- Bits as cells. -/
def cb (l : List Bool) : List Value := l.map Value.bool
theorem cb_snoc (l : List Bool) (b : Bool) : cb (l ++ [b]) = cb l ++ [.bool b] := by simp [cb]
/-- The first k bits of a byte, the highest first. -/
def byteK (b k : Nat) : List Bool := (List.range k).map fun i => b.testBit (7 - i)
theorem byteK_succ (b k : Nat) : byteK b (k + 1) = byteK b k ++ [b.testBit (7 - k)] := by simp [byteK, List.range_succ]
theorem byteK_len (b k : Nat) : (byteK b k).length = k := by simp [byteK]
def bytesBits (l : List UInt8) : List Bool := l.flatMap fun b => byteK b.toNat 8
theorem bytesBits_append (l m : List UInt8) : bytesBits (l ++ m) = bytesBits l ++ bytesBits m := by simp [bytesBits]
theorem bytesBits_snoc (l : List UInt8) (b : UInt8) : bytesBits (l ++ [b]) = bytesBits l ++ byteK b.toNat 8 := by simp [bytesBits]
theorem bytesBits_len : ∀ l : List UInt8, (bytesBits l).length = 8 * l.length
  | [] => rfl
  | b :: l => by
    have := bytesBits_len l
    simp only [bytesBits] at this ⊢
    rw [List.flatMap_cons, List.length_append, this, byteK_len, List.length_cons]; omega
/-- The first k bits of a number of 64, the highest first. -/
def longK (n k : Nat) : List Bool := (List.range k).map fun i => n.testBit (63 - i)
theorem longK_succ (n k : Nat) : longK n (k + 1) = longK n k ++ [n.testBit (63 - k)] := by simp [longK, List.range_succ]
theorem longK_len (n k : Nat) : (longK n k).length = k := by simp [longK]
/-- How many noughts stand behind the one. -/
def nz (n : Nat) : Nat := 7 + 8 * ((119 - n % 64) % 64)
theorem nz_end (n : Nat) : (8 * n + 1 + nz n) % 512 = 448 := by unfold nz; omega
theorem nz_not (n z : Nat) (h : z < nz n) : (8 * n + 1 + z) % 512 ≠ 448 := by unfold nz at h; omega
theorem nz_le (n : Nat) : nz n ≤ 511 := by unfold nz; omega
theorem noughts_bits : ∀ z : Nat, bytesBits (List.replicate z 0) = List.replicate (8 * z) false
  | 0 => rfl
  | z + 1 => by
    rw [List.replicate_succ', bytesBits_snoc, noughts_bits z, show 8 * (z + 1) = 8 * z + 8 by omega, ← List.replicate_append_replicate]
    rfl
theorem byte_of (m i : Nat) (hi : i < 8) : (UInt8.ofNat m).toNat.testBit (7 - i) = m.testBit (7 - i) := by
  rw [UInt8.toNat_ofNat', Nat.testBit_mod_two_pow]
  simp [show 7 - i < 8 by omega]
theorem byteK_of (n j : Nat) (hj : j < 8) : byteK (UInt8.ofNat (n / 2 ^ (56 - 8 * j))).toNat 8 = (List.range 8).map fun i => n.testBit (63 - (8 * j + i)) := by
  unfold byteK
  apply List.map_congr_left
  intro i hi
  have hi8 := List.mem_range.1 hi
  rw [byte_of _ _ hi8, Nat.testBit_div_two_pow, show 7 - i + (56 - 8 * j) = 63 - (8 * j + i) by omega]
theorem long_bits (n : Nat) : bytesBits ((List.range 8).map fun i => UInt8.ofNat (n / 2 ^ (56 - 8 * i))) = longK n 64 := by
  have e : bytesBits ((List.range 8).map fun i => UInt8.ofNat (n / 2 ^ (56 - 8 * i))) = (List.range 8).flatMap fun j => (List.range 8).map fun i => n.testBit (63 - (8 * j + i)) := by
    unfold bytesBits
    rw [List.flatMap_map]
    have : ∀ l : List Nat, (∀ j ∈ l, j < 8) → l.flatMap (fun j => byteK (UInt8.ofNat (n / 2 ^ (56 - 8 * j))).toNat 8) = l.flatMap fun j => (List.range 8).map fun i => n.testBit (63 - (8 * j + i)) := fun l => by
      induction l with
      | nil => intro _; rfl
      | cons a t ih => intro h; rw [List.flatMap_cons, List.flatMap_cons, byteK_of n a (h a List.mem_cons_self), ih (fun j hj => h j (List.mem_cons_of_mem _ hj))]
    exact this _ (fun j hj => List.mem_range.1 hj)
  rw [e]
  rfl
theorem bits_all (l : List UInt8) : bytesBits l ++ [true] ++ List.replicate (nz l.length) false ++ longK (l.length * 8) 64 = bytesBits (l ++ padL l.length) := by
  rw [bytesBits_append]
  unfold padL
  rw [bytesBits_append, long_bits, show (128 :: List.replicate ((119 - l.length % 64) % 64) 0 : List UInt8) = [128] ++ List.replicate ((119 - l.length % 64) % 64) 0 from rfl, bytesBits_append, noughts_bits]
  have e : nz l.length = 7 + 8 * ((119 - l.length % 64) % 64) := rfl
  rw [e, ← List.replicate_append_replicate]
  have e2 : bytesBits [128] = [true] ++ List.replicate 7 false := by decide
  rw [e2]
  simp
end Go.Proofs.YtlnagnkiadlfpaaDoor
