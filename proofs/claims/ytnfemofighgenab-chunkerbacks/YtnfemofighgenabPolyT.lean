/- Texts as polynomials: no program. -/
import Derived.Test.YtnfemofighgenabPolyL
namespace Go.Proofs.Ytnfemofighgenab
set_option linter.unusedVariables false

/-- Bytes behind one another as one number. -/
def beN (l : List UInt8) : Nat := l.foldl (fun a b => 256 * a + b.toNat) 0
theorem beN_foldl (l : List UInt8) : ∀ a, l.foldl (fun a b => 256 * a + b.toNat) a = a * 256 ^ l.length + beN l := by
  induction l with
  | nil => intro a; simp [beN]
  | cons b l ih =>
    intro a
    unfold beN
    rw [List.foldl_cons, List.foldl_cons, ih, ih, List.length_cons, Nat.pow_succ, Nat.mul_zero, Nat.zero_add, Nat.add_mul, Nat.mul_comm 256 a, Nat.mul_assoc, Nat.mul_comm 256 (256 ^ l.length)]
    omega
theorem beN_cons (b : UInt8) (l : List UInt8) : beN (b :: l) = beN l + b.toNat * 2 ^ (8 * l.length) := by
  have := beN_foldl l (256 * 0 + b.toNat)
  unfold beN
  rw [List.foldl_cons, this, Nat.mul_zero, Nat.zero_add, show 2 ^ (8 * l.length) = 256 ^ l.length by rw [Nat.pow_mul]]
  unfold beN; exact Nat.add_comm _ _
theorem beN_snoc (l : List UInt8) (b : UInt8) : beN (l ++ [b]) = 256 * beN l + b.toNat := by simp [beN]
/-- The lowest k bits of b. -/
def lowk (b k : Nat) : List Bool := (List.range k).map b.testBit
theorem lowk_len (b k : Nat) : (lowk b k).length = k := by simp [lowk]
theorem lowk_succ (b k : Nat) : lowk b (k + 1) = lowk b k ++ [b.testBit k] := by simp [lowk, List.range_succ]
theorem nb_lowk (b k : Nat) (h : b < 2 ^ k) : nb (lowk b k) = b := by
  symm; apply nb_ext; intro i
  by_cases hi : i < k
  · simp [lowk, List.getD_eq_getElem?_getD, hi]
  · rw [Nat.testBit_lt_two_pow (Nat.lt_of_lt_of_le h (Nat.pow_le_pow_right (by decide) (by omega)))]
    simp [lowk, List.getD_eq_getElem?_getD, hi]
theorem nb_byte (L : List Bool) (b : UInt8) (t : List UInt8) (h : nb L = beN t) (hl : L.length = 8 * t.length) : nb (L ++ lowk b.toNat 8) = beN (b :: t) := by
  rw [nb_append, nb_lowk _ _ b.toNat_lt, h, hl, beN_cons]
end Go.Proofs.Ytnfemofighgenab
