/- The plain mathematics of numbers in groups of seven bits: no program. -/
import Derived.Laws.BitsAllLaws
namespace Go.Proofs.Ytkphgjaklkfcfaa
set_option linter.unusedVariables false

/-- A number in groups of seven bits, the lowest first. -/
def varN (x : Nat) : List Nat := if h : x < 128 then [x] else (x % 128 + 128) :: varN (x / 128)
termination_by x
theorem varN_small {x : Nat} (h : x < 128) : varN x = [x] := by rw [varN, dif_pos h]
theorem varN_big {x : Nat} (h : 128 ≤ x) : varN x = (x % 128 + 128) :: varN (x / 128) := by rw [varN, dif_neg (by omega)]
theorem varN_len : ∀ (k x : Nat), x < 128 ^ (k + 1) → (varN x).length ≤ k + 1
  | 0, x, h => by rw [varN_small (by simpa using h)]; simp
  | k + 1, x, h => by
    by_cases hx : x < 128
    · rw [varN_small hx]; simp
    · rw [varN_big (by omega)]
      have := varN_len k (x / 128) (by rw [Nat.pow_succ] at h; omega)
      simp; omega
theorem varN_len64 {x : Nat} (h : x < 18446744073709551616) : (varN x).length ≤ 10 := varN_len 9 x (Nat.lt_of_lt_of_le h (by decide))
theorem varN_pos (x : Nat) : 1 ≤ (varN x).length := by
  by_cases hx : x < 128
  · rw [varN_small hx]; simp
  · rw [varN_big (by omega)]; simp
theorem varN_byte : ∀ (x : Nat), ∀ b ∈ varN x, b < 256 := by
  intro x
  induction x using Nat.strongRecOn with
  | _ x ih =>
    intro b hb
    by_cases hx : x < 128
    · rw [varN_small hx] at hb; simp at hb; omega
    · rw [varN_big (by omega)] at hb
      rcases List.mem_cons.1 hb with rfl | hb
      · omega
      · exact ih (x / 128) (by omega) b hb

/-- What the loop of Var has gathered, and what is left. -/
def VarPre (x0 y : Nat) (pre : List Nat) : Prop := pre ++ varN y = varN x0
theorem varPre_start (x : Nat) : VarPre x x [] := rfl
theorem varPre_step {x0 y : Nat} {pre : List Nat} (h : VarPre x0 y pre) (hy : 128 ≤ y) : VarPre x0 (y / 128) (pre ++ [y % 128 + 128]) := by
  unfold VarPre at *; rw [← h, varN_big hy]; simp
theorem varPre_end {x0 y : Nat} {pre : List Nat} (h : VarPre x0 y pre) (hy : y < 128) : pre ++ [y] = varN x0 := by
  unfold VarPre at *; rw [← h, varN_small hy]
theorem varPre_len {x0 y : Nat} {pre : List Nat} (h : VarPre x0 y pre) (hx : x0 < 18446744073709551616) : pre.length ≤ 9 := by
  have a := varN_len64 hx
  have b := varN_pos y
  unfold VarPre at h
  rw [← h] at a; simp at a; omega
theorem or128 (y : Nat) : Go.bits .or .u8 ((y : Int) % 256) 128 = ((y % 128 + 128 : Nat) : Int) := by
  have h : ∀ a : Fin 256, (a.val ||| 128) = a.val % 128 + 128 := by decide +kernel
  have e : Go.bits .or .u8 ((y : Int) % 256) 128 = ((y % 256 ||| 128 : Nat) : Int) := Go.u8_or_nat (y % 256) 128 (by omega) (by decide)
  rw [e, h ⟨y % 256, by omega⟩]; simp only; omega
/-- 'a | b', where a lies below 2^i and b is a multiple of it. -/
theorem or_join (a b i : Nat) (ha : a < 2 ^ i) (hl : a < 18446744073709551616) (hb : b * 2 ^ i < 18446744073709551616) : Go.bits .or .u64 (a : Int) ((b * 2 ^ i : Nat) : Int) = ((a + b * 2 ^ i : Nat) : Int) := by
  rw [Go.u64_or_nat a _ hl hb, Nat.or_comm, Nat.mul_comm, ← Nat.two_pow_add_eq_or_of_lt ha, Nat.add_comm]
end Go.Proofs.Ytkphgjaklkfcfaa
