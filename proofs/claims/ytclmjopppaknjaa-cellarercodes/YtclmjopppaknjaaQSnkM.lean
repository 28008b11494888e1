/- The bytes of a row of bits that grows: plain mathematics, no program. -/
import Derived.Test.YtclmjopppaknjaaQBitioM
namespace Go.Proofs.Ytclmjopppaknjaa
open Go
set_option linter.unusedVariables false

theorem packB_congr {L M : List Bool} {j : Nat} (h : ∀ i, i < 8 → L.getD (8 * j + i) false = M.getD (8 * j + i) false) : packB L j = packB M j := by
  unfold packB; rw [takeN_congr 8 h]
theorem getD_snoc (L : List Bool) (b : Bool) (i : Nat) : (L ++ [b]).getD i false = if i = L.length then b else L.getD i false := by
  rw [List.getD_eq_getElem?_getD, List.getD_eq_getElem?_getD]
  by_cases h : i < L.length
  · rw [List.getElem?_append_left h, if_neg (by omega)]
  · by_cases h2 : i = L.length
    · subst h2; simp
    · rw [List.getElem?_eq_none (by simp; omega), List.getElem?_eq_none (by omega), if_neg h2]
theorem packB_other (L : List Bool) (b : Bool) (j : Nat) (h : j ≠ L.length / 8) : packB (L ++ [b]) j = packB L j := packB_congr fun i hi => by
  rw [getD_snoc, if_neg (by omega)]
theorem packB_same (L : List Bool) (b : Bool) : (packB (L ++ [b]) (L.length / 8)).toNat = (packB L (L.length / 8)).toNat ||| b.toNat * 2 ^ (L.length % 8) := by
  have hr : L.length % 8 < 8 := Nat.mod_lt _ (by decide)
  apply Nat.eq_of_testBit_eq
  intro i
  rw [Nat.testBit_or]
  by_cases hi : i < 8
  · rw [packB_bit _ _ _ hi, packB_bit _ _ _ hi, getD_snoc]
    by_cases e : i = L.length % 8
    · subst e
      rw [if_pos (by omega), List.getD_eq_getElem?_getD, List.getElem?_eq_none (by omega)]
      cases b <;> simp
    · rw [if_neg (by omega)]
      have : (b.toNat * 2 ^ (L.length % 8)).testBit i = false := by
        cases b
        · simp
        · simp [Nat.testBit_two_pow]; omega
      rw [this, Bool.or_false]
  · have h1 : ∀ x : UInt8, x.toNat.testBit i = false := fun x => Nat.testBit_lt_two_pow (Nat.lt_of_lt_of_le x.toNat_lt (Nat.pow_le_pow_right (n := 2) (i := 8) (by decide) (by omega)))
    have h2 : (b.toNat * 2 ^ (L.length % 8)).testBit i = false := by
      cases b
      · simp
      · simp [Nat.testBit_two_pow]; omega
    rw [h1, h1, h2]; rfl
theorem packB_past (L : List Bool) (j : Nat) (h : L.length ≤ 8 * j) : packB L j = 0 := by
  have : packB L j = packB [] j := packB_congr fun i hi => by
    rw [List.getD_eq_getElem?_getD, List.getElem?_eq_none (by omega)]; simp
  rw [this]
  unfold packB
  have : takeN (fun i => ([] : List Bool).getD (8 * j + i) false) 8 = takeN (fun _ => false) 8 := takeN_congr 8 fun i hi => by simp
  rw [this]; decide
theorem packB_front (L M : List Bool) (j : Nat) (h : 8 * j + 8 ≤ L.length) : packB (L ++ M) j = packB L j := packB_congr fun i hi => by
  rw [List.getD_eq_getElem?_getD, List.getD_eq_getElem?_getD, List.getElem?_append_left (by omega)]
/-- Of a row of bits 64 bytes from byte k on, as cells. -/
def restC (L : List Bool) (k : Nat) : List Value := (List.range 64).map fun j => .int .u8 ((packB L (k + j)).toNat : Int)
theorem restC_len (L : List Bool) (k : Nat) : (restC L k).length = 64 := by simp [restC]
theorem restC_at (L : List Bool) (k j : Nat) (h : j < 64) : (restC L k)[j]? = some (.int .u8 ((packB L (k + j)).toNat : Int)) := by simp [restC, h]
theorem restC_congr {L M : List Bool} {k m : Nat} (h : ∀ j, j < 64 → packB L (k + j) = packB M (m + j)) : restC L k = restC M m := by
  unfold restC
  apply List.map_congr_left
  intro j hj
  rw [h j (List.mem_range.1 hj)]
theorem restC_one (L : List Bool) (k : Nat) : ∀ v ∈ restC L k, v.oneCell' = true := by
  intro v hv
  simp [restC] at hv
  obtain ⟨j, _, rfl⟩ := hv
  rfl
theorem restC_set (L : List Bool) (k i : Nat) (b : UInt8) (M : List Bool) (hi : i < 64) (h : packB M (k + i) = b) (ho : ∀ j, j < 64 → j ≠ i → packB M (k + j) = packB L (k + j)) : (restC L k).set i (.int .u8 (b.toNat : Int)) = restC M k := by
  apply List.ext_getElem?
  intro j
  by_cases hj : j < 64
  · rw [restC_at _ _ _ hj, List.getElem?_set, restC_at _ _ _ hj, restC_len]
    by_cases e : i = j
    · subst e; simp [hi, h]
    · rw [if_neg e, ho j hj (fun h => e h.symm)]
  · rw [List.getElem?_eq_none (by rw [List.length_set, restC_len]; omega), List.getElem?_eq_none (by rw [restC_len]; omega)]
/-- 64 noughts. -/
def noughts64 : List Value := List.replicate 64 (.int .u8 0)
theorem restC_past (L : List Bool) (k : Nat) (h : L.length ≤ 8 * k) : restC L k = noughts64 := by
  apply List.ext_getElem?
  intro j
  by_cases hj : j < 64
  · rw [restC_at _ _ _ hj, packB_past _ _ (by omega)]
    unfold noughts64
    rw [List.getElem?_replicate, if_pos hj]; rfl
  · rw [List.getElem?_eq_none (by rw [restC_len]; omega), List.getElem?_eq_none (by simp [noughts64]; omega)]
theorem highK (x m k : Nat) : (highB x m).take (k + 1) = (highB x m).take k ++ (if k < m then [x.testBit (m - 1 - k)] else []) := by
  rw [List.take_add_one]
  congr 1
  by_cases h : k < m
  · simp [highB, h]
  · rw [List.getElem?_eq_none (by rw [highB_len]; omega), if_neg h]; rfl
end Go.Proofs.Ytclmjopppaknjaa
