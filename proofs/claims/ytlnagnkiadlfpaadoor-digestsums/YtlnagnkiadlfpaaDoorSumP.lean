/- The document's sum, word by word: plain mathematics, no program. -/
import Derived.Test.YtlnagnkiadlfpaaDoorBitsM
import Derived.Test.YtlnagnkiadlfpaaDoorWordN
namespace Go.Proofs.YtlnagnkiadlfpaaDoor
open Go
set_option linter.unusedVariables false

theorem bytesBits_at : ∀ (l : List UInt8) (j : Nat), j < 8 * l.length → (bytesBits l)[j]? = some ((l.getD (j / 8) 0).toNat.testBit (7 - j % 8))
  | [], j, h => by simp at h
  | b :: l, j, h => by
    have ih := bytesBits_at l (j - 8)
    have e : bytesBits (b :: l) = byteK b.toNat 8 ++ bytesBits l := by simp [bytesBits]
    rw [e]
    by_cases hj : j < 8
    · rw [List.getElem?_append_left (by rw [byteK_len]; exact hj), show j / 8 = 0 by omega, show j % 8 = j by omega]
      simp [byteK, hj]
    · rw [List.getElem?_append_right (by rw [byteK_len]; omega), byteK_len, ih (by simp at h; omega), show j / 8 = (j - 8) / 8 + 1 by omega, show (j - 8) % 8 = j % 8 by omega]
      simp
/-- How many bytes of word i are there behind k bytes. -/
def mB (k i : Nat) : Nat := min 4 (k - 4 * i)
theorem getD_set (l : List Nat) (i j v : Nat) : (l.set i v).getD j 0 = if i = j ∧ j < l.length then v else l.getD j 0 := by
  rw [List.getD_eq_getElem?_getD, List.getElem?_set, List.getD_eq_getElem?_getD]
  by_cases e : i = j
  · subst e
    by_cases h : i < l.length
    · simp [h]
    · simp [h]
  · simp [e]
theorem loadB_bit (s : List UInt8) : ∀ k, k ≤ 64 → ∀ i, i < 16 → ∀ j, ((loadB s k).getD i 0).testBit j = (decide (j / 8 < mB k i) && (s.getD (4 * i + (mB k i - 1 - j / 8)) 0).toNat.testBit (j % 8))
  | 0, _, i, hi, j => by
    have e : mB 0 i = 0 := by simp [mB]
    have e0 : (loadB s 0).getD i 0 = 0 := by rw [loadB, List.getD_eq_getElem?_getD, List.getElem?_replicate, if_pos (by omega)]; rfl
    rw [e, e0]
    simp
  | k + 1, hk, i, hi, j => by
    have ih := loadB_bit s k (by omega)
    rw [loadB, getD_set, loadB_len]
    by_cases e : k / 4 = i
    · rw [if_pos ⟨e, by omega⟩, Nat.testBit_or, show 4294967296 = 2 ^ 32 by rfl, Nat.testBit_mod_two_pow, show 256 = 2 ^ 8 by rfl, Nat.testBit_mul_two_pow, e, ih i hi]
      have m1 : mB k i = k % 4 := by unfold mB; omega
      have m2 : mB (k + 1) i = k % 4 + 1 := by unfold mB; omega
      rw [m1, m2]
      by_cases hj : j < 8
      · rw [show j / 8 = 0 by omega, show j % 8 = j by omega, show 4 * i + (k % 4 + 1 - 1 - 0) = k by omega]
        simp [show ¬ 8 ≤ j by omega]
      · have hb : (s.getD k 0).toNat.testBit j = false := Nat.testBit_lt_two_pow (Nat.lt_of_lt_of_le (s.getD k 0).toNat_lt (Nat.pow_le_pow_right (n := 2) (i := 8) (by decide) (by omega)))
        rw [hb, show (j - 8) / 8 = j / 8 - 1 by omega, show (j - 8) % 8 = j % 8 by omega]
        by_cases h1 : j / 8 < k % 4 + 1
        · rw [show k % 4 + 1 - 1 - j / 8 = k % 4 - 1 - (j / 8 - 1) by omega]
          simp [show 8 ≤ j by omega, h1, show j / 8 - 1 < k % 4 by omega, show j < 32 by omega]
        · simp [h1, show ¬ j / 8 - 1 < k % 4 by omega]
    · rw [if_neg (fun h => e h.1), ih i hi]
      have m1 : mB (k + 1) i = mB k i := by unfold mB; omega
      rw [m1]
/-- The bits of word i of a block. -/
theorem word_bit (s : List UInt8) (i k : Nat) (hi : i < 16) (hk : k < 32) : bt ((loadB s 64).getD i 0) k = (s.getD (4 * i + k / 8) 0).toNat.testBit (7 - k % 8) := by
  unfold bt
  rw [loadB_bit s 64 (Nat.le_refl _) i hi, show mB 64 i = 4 by unfold mB; omega, show 4 - 1 - (31 - k) / 8 = k / 8 by omega, show (31 - k) % 8 = 7 - k % 8 by omega]
  simp [show (31 - k) / 8 < 4 by omega]
/-- Block q of a text. -/
def blkQ (l : List UInt8) (q : Nat) : List UInt8 := (l.drop (64 * q)).take 64
theorem blk_bit (l : List UInt8) (q i k : Nat) (hi : i < 16) (hk : k < 32) (hl : 64 * q + 64 ≤ l.length) : (bytesBits l)[512 * q + (32 * i + k)]? = some (bt ((loadB (blkQ l q) 64).getD i 0) k) := by
  rw [bytesBits_at _ _ (by omega), word_bit _ _ _ hi hk]
  unfold blkQ
  rw [List.getD_eq_getElem?_getD, List.getD_eq_getElem?_getD, List.getElem?_take, if_pos (by omega), List.getElem?_drop, show (512 * q + (32 * i + k)) / 8 = 64 * q + (4 * i + k / 8) by omega, show (512 * q + (32 * i + k)) % 8 = k % 8 by omega]
/-- The words behind q blocks. -/
def blkN (s : S8) (l : List UInt8) : Nat → S8
  | 0 => s
  | q + 1 => mixN (blkN s l q) (blkQ l q)
theorem blkN_ok {s : S8} (l : List UInt8) (h : s.ok) : ∀ q, (blkN s l q).ok
  | 0 => h
  | q + 1 => mixN_ok _ _
theorem blkN_cons (s : S8) (l : List UInt8) : ∀ q, blkN s l (q + 1) = blkN (mixN s (l.take 64)) (l.drop 64) q
  | 0 => by simp [blkN, blkQ]
  | q + 1 => by
    rw [blkN, blkN_cons s l q, blkN]
    congr 1
    unfold blkQ
    rw [List.drop_drop]
    congr 2
    omega
theorem mixL_blocks : ∀ (n : Nat) (s : S8) (l : List UInt8), l.length = 64 * n → (mixL s l).1 = blkN s l n
  | 0, s, l, h => by rw [mixL_end s l (by omega)]; rfl
  | n + 1, s, l, h => by rw [mixL_step s l (by omega), blkN_cons, mixL_blocks n _ _ (by rw [List.length_drop]; omega)]
/-- The words of the steps that are there behind k of the last 48. -/
def sch (b : List UInt8) (k : Nat) : List Nat := (expand b k).take (16 + k)
theorem sch_len (b : List UInt8) (k : Nat) (hk : k ≤ 48) : (sch b k).length = 16 + k := by unfold sch; rw [List.length_take, expand_len]; omega
theorem sch_end (b : List UInt8) : sch b 48 = sched b := by unfold sch sched; exact List.take_of_length_le (by rw [expand_len]; omega)
theorem take_getD (l : List Nat) (n j : Nat) (h : j < n) : (l.take n).getD j 0 = l.getD j 0 := by
  rw [List.getD_eq_getElem?_getD, List.getElem?_take, if_pos h, List.getD_eq_getElem?_getD]
theorem take_next (l : List Nat) (k : Nat) (h : k < l.length) : l.take (k + 1) = l.take k ++ [l.getD k 0] := by
  rw [List.take_add_one, List.getElem?_eq_getElem h, List.getD_eq_getElem?_getD, List.getElem?_eq_getElem h]; rfl
theorem sch_step (b : List UInt8) (k : Nat) (hk : k < 48) : sch b (k + 1) = sch b k ++ [wnext (sch b k) (16 + k)] := by
  have e : wnext (sch b k) (16 + k) = wnext (expand b k) (16 + k) := by
    unfold wnext sch
    rw [take_getD _ _ _ (by omega), take_getD _ _ _ (by omega), take_getD _ _ _ (by omega), take_getD _ _ _ (by omega)]
  rw [e]
  unfold sch
  rw [expand, show 16 + (k + 1) = 16 + k + 1 by omega, take_next _ _ (by rw [List.length_set, expand_len]; omega), List.take_set_of_le (Nat.le_refl _), getD_set, if_pos ⟨rfl, by rw [expand_len]; omega⟩]
theorem sch_small (b : List UInt8) (k : Nat) : Small (sch b k) := fun x hx => expand_small b k x (List.mem_of_mem_take hx)
/-- Eight words, the first k of them summed. -/
def plK (s t : S8) (k : Nat) : List Nat := (s.plus t).list.take k ++ s.list.drop k
theorem plK_len (s t : S8) (k : Nat) (h : k ≤ 8) : (plK s t k).length = 8 := by unfold plK; rw [List.length_append, List.length_take, List.length_drop]; simp [S8.list]; omega
theorem plK_at (s t : S8) (k : Nat) (h : k < 8) : (plK s t k).getD k 0 = s.list.getD k 0 := by
  match k, h with | 0, _ | 1, _ | 2, _ | 3, _ | 4, _ | 5, _ | 6, _ | 7, _ => rfl
theorem plK_set (s t : S8) (k : Nat) (h : k < 8) : (plK s t k).set k (sumW [s.list.getD k 0, t.list.getD k 0]) = plK s t (k + 1) := by
  rw [sum2]
  match k, h with | 0, _ | 1, _ | 2, _ | 3, _ | 4, _ | 5, _ | 6, _ | 7, _ => rfl
theorem plK_zero (s t : S8) : plK s t 0 = s.list := rfl
theorem plK_end (s t : S8) : plK s t 8 = (s.plus t).list := rfl
/-- The first m bits of byte i of a word. -/
def wbK (x i m : Nat) : Nat := x / 2 ^ (32 - 8 * i - m) % 2 ^ m
theorem wbK_zero (x i : Nat) : wbK x i 0 = 0 := by simp [wbK, Nat.mod_one]
theorem wbK_lt (x i m : Nat) : wbK x i m < 2 ^ m := Nat.mod_lt _ (Nat.two_pow_pos m)
theorem wbK_step (x i m : Nat) (hi : i < 4) (hm : m < 8) : wbK x i (m + 1) = 2 * wbK x i m + (bt x (8 * i + m)).toNat := by
  unfold wbK bt
  obtain ⟨q, hq⟩ : ∃ q, 32 - 8 * i - m = q + 1 := ⟨31 - 8 * i - m, by omega⟩
  rw [hq, show 32 - 8 * i - (m + 1) = q by omega, show 31 - (8 * i + m) = q by omega, ← half_next, Nat.toNat_testBit]
  have := Nat.two_pow_pos m
  rw [Nat.pow_succ, Nat.mul_comm (2 ^ m) 2]
  generalize x / 2 ^ q = y
  rw [Nat.mod_mul]
  omega
theorem wbK_end (x i : Nat) (hi : i < 4) : wbK x i 8 = (wb x).getD i 0 := by
  match i, hi with | 0, _ | 1, _ | 2, _ => rfl | 3, _ => simp [wbK, wb]
theorem wb_take (x i : Nat) (hi : i < 4) : (wb x).take (i + 1) = (wb x).take i ++ [wbK x i 8] := by
  rw [wbK_end x i hi, take_next _ _ (by exact hi)]
end Go.Proofs.YtlnagnkiadlfpaaDoor
