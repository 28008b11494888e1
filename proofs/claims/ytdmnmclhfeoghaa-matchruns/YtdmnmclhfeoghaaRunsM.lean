/- A run of equal bytes needs few tokens: the plain mathematics. -/
import Derived.Test.YtdmnmclhfeoghaaMatchM
namespace Go.Proofs.Ytdmnmclhfeoghaa
open Go.RowKit
set_option linter.unusedVariables false

/-- A text of n times the byte c. -/
def IsRun (s : ByteArray) (n c : Nat) : Prop := s.size = n ∧ ∀ k, k < n → byt s k = c
theorem run_key {s : ByteArray} {n c p q : Nat} (h : IsRun s n c) (hp : p + 3 ≤ n) (hq : q + 3 ≤ n) : key3 s p = key3 s q := by
  apply ba_ext
  unfold key3
  rw [extract_data, extract_data]
  apply List.ext_getElem?
  intro i
  rw [List.getElem?_take, List.getElem?_take]
  by_cases hi : i < 3
  · rw [if_pos (by omega), if_pos (by omega), List.getElem?_drop, List.getElem?_drop]
    have hs := h.1
    have e1 := h.2 (p + i) (by omega)
    have e2 := h.2 (q + i) (by omega)
    unfold byt at e1 e2
    rw [List.getD_eq_getElem?_getD, List.getElem?_eq_getElem (by rw [size_toList]; omega)] at e1 e2
    simp only [Option.getD_some] at e1 e2
    rw [List.getElem?_eq_getElem (by rw [size_toList]; omega), List.getElem?_eq_getElem (by rw [size_toList]; omega)]
    congr 1
    apply UInt8.toNat_inj.1
    rw [e1, e2]
  · rw [if_neg (by omega), if_neg (by omega)]
theorem run_prev {s : ByteArray} {n c at_ : Nat} (h : IsRun s n c) (h1 : 1 ≤ at_) (ha : at_ + 3 ≤ n) : prevP s at_ = at_ := by
  unfold prevP
  obtain ⟨k, rfl⟩ : ∃ k, at_ = k + 1 := ⟨at_ - 1, by omega⟩
  rw [lastP, if_pos (run_key h (by omega) ha)]
theorem run_alike {s : ByteArray} {n c : Nat} (h : IsRun s n c) (a b f : Nat) (ha : a + f ≤ n) (hb : b + f ≤ n) : alikeF s a b f = f := by
  have h1 := alikeF_le s f a b
  have h2 := alikeF_ge s f a b f (Nat.le_refl _) (fun i hi => by rw [h.2 _ (by omega), h.2 _ (by omega)])
  omega
theorem run_long {s : ByteArray} {n c at_ f : Nat} (h : IsRun s n c) (h1 : 1 ≤ at_) (ha : at_ + 3 ≤ n) (hf : 2 ≤ f) : longF s f at_ = ⟨0, ((min 258 (n - at_) : Nat) : Int), 1⟩ := by
  unfold longF
  rw [h.1, if_neg (by omega), run_prev h h1 ha]
  obtain ⟨k, rfl⟩ : ∃ k, f = k + 1 + 1 := ⟨f - 2, by omega⟩
  have e := run_alike h (at_ - 1) at_ (min 258 (n - at_)) (by omega) (by omega)
  rw [chainF, e, if_neg (fun hh => by rcases hh with hh | hh; · omega
                                      · simp only [zeroT] at hh; omega), if_neg (by omega), if_pos (by simp only [zeroT]; omega), chainF, if_pos (.inr (Int.le_refl _))]
  congr 1
  omega
theorem long_le (s : ByteArray) (f at_ : Nat) : (longF s f at_).l ≤ ((min 258 (s.size - at_) : Nat) : Int) := by
  rcases longF_good s f at_ with h | h
  · rw [h]; simp only [zeroT]; omega
  · omega
theorem run_step {s : ByteArray} {n c at_ lv : Nat} (h : IsRun s n c) (hl : 1 ≤ lv) (h1 : 1 ≤ at_) (ha : at_ + 3 ≤ n) : wid (stepT s lv at_) = ((min 258 (n - at_) : Nat) : Int) := by
  have hp : 2 ^ 1 ≤ 2 ^ lv := Nat.pow_le_pow_right (by decide) hl
  have e := run_long h h1 ha (f := 2 ^ lv) (by omega)
  have l2 := long_le s (2 ^ lv) (at_ + 1)
  rw [h.1] at l2
  unfold stepT
  rw [e, if_pos ⟨by simp only; omega, fun hh => by simp only at hh; omega⟩]
  unfold wid
  simp only
  rw [if_pos (by omega)]
theorem run_byte {s : ByteArray} {n c at_ lv : Nat} (h : IsRun s n c) (ha : at_ = 0 ∨ n < at_ + 3) : wid (stepT s lv at_) = 1 := by
  have e : longF s (2 ^ lv) at_ = zeroT := by
    unfold longF
    rw [h.1]
    rcases ha with rfl | ha
    · split
      · rfl
      · have hp := Nat.two_pow_pos lv
        obtain ⟨k, hk⟩ : ∃ k, 2 ^ lv = k + 1 := ⟨2 ^ lv - 1, by omega⟩
        rw [hk, chainF, if_pos (.inl rfl)]
    · rw [if_pos ha]
  unfold stepT
  rw [e, if_neg (fun hh => by simp [zeroT] at hh)]
  rfl
/-- How many tokens there are behind each step. -/
def RunAt (n at_ len : Nat) : Prop := (at_ = 0 ∧ len = 0) ∨ ∃ j e, len = 1 + j + e ∧ 1 + 258 * j ≤ n ∧ at_ ≤ n ∧ ((e = 0 ∧ at_ = 1 + 258 * j) ∨ (1 ≤ e ∧ at_ = n ∧ e ≤ 2) ∨ (e = 1 ∧ at_ = 2 + 258 * j ∧ n = 3 + 258 * j))
set_option maxRecDepth 10000 in
theorem run_count {s : ByteArray} {n c lv : Nat} (h : IsRun s n c) (hl : 1 ≤ lv) : ∀ k, RunAt n (tokK s lv k).2 (tokK s lv k).1.length
  | 0 => .inl ⟨rfl, rfl⟩
  | k + 1 => by
    have ih := run_count h hl k
    by_cases hlt : (tokK s lv k).2 < s.size
    · rw [tokK_step hlt]
      have hs := h.1
      simp only [List.length_append, List.length_singleton]
      generalize (tokK s lv k).2 = p at *
      generalize (tokK s lv k).1.length = m at *
      by_cases hb : p = 0 ∨ n < p + 3
      · rw [run_byte h hb]
        rcases ih with ⟨rfl, rfl⟩ | ⟨j, e, h1, h2, h3, h4⟩
        · exact .inr ⟨0, 0, by omega, by omega, by simp only [Int.toNat_one]; omega, .inl ⟨rfl, by simp⟩⟩
        · refine .inr ⟨j, e + 1, by omega, h2, by simp only [Int.toNat_one]; omega, ?_⟩
          simp only [Int.toNat_one]
          omega
      · rw [run_step h hl (by omega) (by omega), Int.toNat_natCast]
        rcases ih with ⟨rfl, rfl⟩ | ⟨j, e, h1, h2, h3, h4⟩
        · omega
        · obtain ⟨rfl, rfl⟩ : e = 0 ∧ p = 1 + 258 * j := by omega
          by_cases hbig : 258 ≤ n - (1 + 258 * j)
          · rw [Nat.min_eq_left hbig]
            right
            refine ⟨j + 1, 0, ?_, ?_, ?_, ?_⟩
            · omega
            · omega
            · omega
            · left; constructor
              · rfl
              · omega
          · rw [Nat.min_eq_right (by omega)]
            right
            refine ⟨j, 1, ?_, ?_, ?_, ?_⟩
            · omega
            · omega
            · omega
            · right; left; omega
    · rw [tokK, if_neg hlt]; exact ih
theorem run_few {s : ByteArray} {n c lv : Nat} (h : IsRun s n c) (hl : 1 ≤ lv) : (toks s lv).length ≤ 4 + n / 258 := by
  unfold toks
  rw [if_neg (by omega)]
  rcases run_count h hl s.size with ⟨_, h2⟩ | ⟨j, e, h1, h2, h3, h4⟩
  · omega
  · omega
end Go.Proofs.Ytdmnmclhfeoghaa
