/- What the document's Rune answers, in plain numbers. -/
import Derived.Test.YtmflekhhakadeaaDoorRunM
namespace Go.Proofs.YtmflekhhakadeaaDoor
open Go.Lib (decodeN)
set_option linter.unusedVariables false
set_option linter.unusedSimpArgs false

/-- What the document's Rune answers: -1, 1 of a broken byte. -/
def rnZ (x : Nat × Nat) : Int := if brk x then -1 else (x.1 : Int)
/-- The value of bytes that go on. -/
def rv (c : Nat) : List UInt8 → Nat
  | [] => c
  | b :: t => rv (64 * c + b.toNat % 64) t
theorem rv_snoc (c : Nat) (l : List UInt8) (b : UInt8) : rv c (l ++ [b]) = 64 * rv c l + b.toNat % 64 := by
  induction l generalizing c with
  | nil => rfl
  | cons x t ih => rw [List.cons_append, rv, rv, ih]
def wrong (c least : Nat) : Prop := c < least ∨ 1114111 < c ∨ (55296 ≤ c ∧ c ≤ 57343)
instance (c least : Nat) : Decidable (wrong c least) := inferInstanceAs (Decidable (_ ∨ _ ∨ _))
/-- A rune of n bytes by its first byte. -/
def cls (b n off least : Nat) : Prop := (192 ≤ b ∧ b < 224 ∧ n = 2 ∧ off = 192 ∧ least = 128) ∨ (224 ≤ b ∧ b < 240 ∧ n = 3 ∧ off = 224 ∧ least = 2048) ∨ (240 ≤ b ∧ b < 248 ∧ n = 4 ∧ off = 240 ∧ least = 65536)
theorem dcd_none (b : UInt8) (t : List UInt8) (h : (128 ≤ b.toNat ∧ b.toNat < 192) ∨ 248 ≤ b.toNat) : dcd b t = (65533, 1) := by
  have hb := b.toNat_lt
  have g : ∀ n b1 b2 b3, decodeN n b.toNat b1 b2 b3 = (65533, 1) := fun n b1 b2 b3 => by
    unfold decodeN
    rw [if_neg (by omega), if_neg (by omega), if_neg (by omega), if_neg (by omega)]
  match t with
  | [] => simp only [dcd]; rw [if_neg (by omega)]
  | [b1] => exact g _ _ _ _
  | [b1, b2] => exact g _ _ _ _
  | b1 :: b2 :: b3 :: r => exact g _ _ _ _
theorem cntN (b : UInt8) : cnt b = true ↔ 128 ≤ b.toNat ∧ b.toNat ≤ 191 := by
  rw [cnt_iff]
  have := b.toNat_lt
  omega
/-- Too short. -/
theorem dcd_few (b : UInt8) (t : List UInt8) (n off least : Nat) (hc : cls b.toNat n off least) (h : t.length + 1 < n) : dcd b t = (65533, 1) := by
  unfold cls at hc
  match t, h with
  | [], h => simp only [dcd]; rw [if_neg (by omega)]
  | [b1], h =>
    simp at h
    simp only [dcd, decodeN]
    rw [if_neg (by omega), if_neg (by omega), if_neg (by omega), if_neg (by omega)]
  | [b1, b2], h =>
    simp at h
    simp only [dcd, decodeN]
    rw [if_neg (by omega), if_neg (by omega), if_neg (by omega), if_neg (by omega)]
  | b1 :: b2 :: b3 :: r, h => simp at h; omega
/-- A byte that doesn't go on. -/
theorem dcd_stop (b : UInt8) (t : List UInt8) (n off least i : Nat) (hc : cls b.toNat n off least) (h1 : i + 1 < n) (h2 : i < t.length) (h3 : cnt (t.getD i 0) = false) : dcd b t = (65533, 1) := by
  have k3 : ¬ (t.getD i 0).toNat / 64 = 2 := by
    have := (not_congr (cnt_iff (t.getD i 0))).1 (by rw [h3]; decide)
    exact this
  clear h3
  unfold cls at hc
  match t, h2, k3 with
  | [], h2, _ => simp at h2
  | [b1], h2, k3 =>
    simp at h2
    subst h2
    simp at k3
    simp only [dcd, decodeN]
    rw [if_neg (by omega), if_neg (by omega), if_neg (by omega), if_neg (by omega)]
  | [b1, b2], h2, k3 =>
    simp only [dcd, decodeN]
    match i, h1, h2, k3 with
    | 0, h1, _, k3 => simp at k3; rw [if_neg (by omega), if_neg (by omega), if_neg (by omega), if_neg (by omega)]
    | 1, h1, _, k3 => simp at k3; rw [if_neg (by omega), if_neg (by omega), if_neg (by omega), if_neg (by omega)]
    | i + 2, _, h2, _ => simp at h2; omega
  | b1 :: b2 :: b3 :: r, h2, k3 =>
    simp only [dcd, decodeN]
    match i, h1, k3 with
    | 0, h1, k3 => simp at k3; rw [if_neg (by omega), if_neg (by omega), if_neg (by omega), if_neg (by omega)]
    | 1, h1, k3 => simp at k3; rw [if_neg (by omega), if_neg (by omega), if_neg (by omega), if_neg (by omega)]
    | 2, h1, k3 => simp at k3; rw [if_neg (by omega), if_neg (by omega), if_neg (by omega), if_neg (by omega)]
    | i + 3, h1, _ => omega
/-- All bytes are there. -/
theorem dcd_full (b : UInt8) (t : List UInt8) (n off least : Nat) (hc : cls b.toNat n off least) (hl : n ≤ t.length + 1) (h : ∀ x ∈ t.take (n - 1), cnt x = true) :
    dcd b t = if wrong (rv (b.toNat - off) (t.take (n - 1))) least then (65533, 1) else (rv (b.toNat - off) (t.take (n - 1)), n) := by
  unfold cls at hc
  rcases hc with ⟨c1, c2, rfl, rfl, rfl⟩ | ⟨c1, c2, rfl, rfl, rfl⟩ | ⟨c1, c2, rfl, rfl, rfl⟩
  · match t, hl, h with
    | [], hl, _ => simp at hl
    | b1 :: r, _, h =>
      have k1 := (cnt_iff b1).1 (h b1 (by simp))
      have e : rv (b.toNat - 192) ((b1 :: r).take (2 - 1)) = b.toNat % 32 * 64 + b1.toNat % 64 := by simp [rv]; omega
      rw [e]
      have g : ∀ m b2 b3, 2 ≤ m → decodeN m b.toNat b1.toNat b2 b3 = if wrong (b.toNat % 32 * 64 + b1.toNat % 64) 128 then (65533, 1) else (b.toNat % 32 * 64 + b1.toNat % 64, 2) := fun m b2 b3 hm => by
        unfold decodeN
        rw [if_neg (by omega), if_pos (by omega)]
        by_cases hh : b.toNat % 32 * 64 + b1.toNat % 64 ≥ 128
        · rw [if_pos hh, if_neg (show ¬ wrong _ _ by unfold wrong; omega)]
        · rw [if_neg hh, if_pos (show wrong _ _ by unfold wrong; omega)]
      match r with
      | [] => exact g _ _ _ (by omega)
      | [b2] => exact g _ _ _ (by omega)
      | b2 :: b3 :: r => exact g _ _ _ (by omega)
  · match t, hl, h with
    | [], hl, _ => simp at hl
    | [b1], hl, _ => simp at hl
    | b1 :: b2 :: r, _, h =>
      have k1 := (cnt_iff b1).1 (h b1 (by simp))
      have k2 := (cnt_iff b2).1 (h b2 (by simp))
      have e : rv (b.toNat - 224) ((b1 :: b2 :: r).take (3 - 1)) = b.toNat % 16 * 4096 + b1.toNat % 64 * 64 + b2.toNat % 64 := by simp [rv]; omega
      rw [e]
      have g : ∀ m b3, 3 ≤ m → decodeN m b.toNat b1.toNat b2.toNat b3 = if wrong (b.toNat % 16 * 4096 + b1.toNat % 64 * 64 + b2.toNat % 64) 2048 then (65533, 1) else (b.toNat % 16 * 4096 + b1.toNat % 64 * 64 + b2.toNat % 64, 3) := fun m b3 hm => by
        unfold decodeN
        rw [if_neg (by omega), if_neg (by omega), if_pos (by omega)]
        generalize b.toNat % 16 * 4096 + b1.toNat % 64 * 64 + b2.toNat % 64 = C
        by_cases hh : C ≥ 2048 ∧ (C < 55296 ∨ (57344 ≤ C ∧ C ≤ 1114111))
        · rw [if_pos hh, if_neg (show ¬ wrong _ _ by unfold wrong; omega)]
        · rw [if_neg hh, if_pos (show wrong _ _ by unfold wrong; omega)]
      match r with
      | [] => exact g _ _ (by omega)
      | b3 :: r => exact g _ _ (by omega)
  · match t, hl, h with
    | [], hl, _ => simp at hl
    | [b1], hl, _ => simp at hl
    | [b1, b2], hl, _ => simp at hl
    | b1 :: b2 :: b3 :: r, _, h =>
      have k1 := (cnt_iff b1).1 (h b1 (by simp))
      have k2 := (cnt_iff b2).1 (h b2 (by simp))
      have k3 := (cnt_iff b3).1 (h b3 (by simp))
      have e : rv (b.toNat - 240) ((b1 :: b2 :: b3 :: r).take (4 - 1)) = b.toNat % 8 * 262144 + b1.toNat % 64 * 4096 + b2.toNat % 64 * 64 + b3.toNat % 64 := by simp [rv]; omega
      rw [e]
      simp only [dcd, decodeN]
      rw [if_neg (by omega), if_neg (by omega), if_neg (by omega), if_pos (by omega)]
      generalize b.toNat % 8 * 262144 + b1.toNat % 64 * 4096 + b2.toNat % 64 * 64 + b3.toNat % 64 = C
      by_cases hh : C ≥ 65536 ∧ (C < 55296 ∨ (57344 ≤ C ∧ C ≤ 1114111))
      · rw [if_pos hh, if_neg (show ¬ wrong _ _ by unfold wrong; omega)]
      · rw [if_neg hh, if_pos (show wrong _ _ by unfold wrong; omega)]
end Go.Proofs.YtmflekhhakadeaaDoor
