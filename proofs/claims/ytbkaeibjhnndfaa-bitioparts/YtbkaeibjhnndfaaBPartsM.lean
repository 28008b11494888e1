/- Bits taken in two parts: plain mathematics, and four Sources side by side. -/
import Derived.Test.YtbkaeibjhnndfaaSrc2
namespace Go.Proofs.Ytbkaeibjhnndfaa
open Go.RowKit
set_option linter.unusedVariables false
theorem takeN_add (f : Nat → Bool) (a : Nat) : ∀ b, takeN f (a + b) = takeN f a + takeN (fun i => f (a + i)) b * 2 ^ a
  | 0 => by simp [takeN]
  | b + 1 => by
    rw [show a + (b + 1) = (a + b) + 1 by omega, takeN, takeN_add f a b, takeN, Nat.add_mul, Nat.pow_add, Nat.mul_assoc, Nat.mul_comm (2 ^ b) (2 ^ a)]
    omega
theorem turnN_add (f : Nat → Bool) (a : Nat) : ∀ b, turnN f (a + b) = turnN f a * 2 ^ b + turnN (fun i => f (a + i)) b
  | 0 => by simp [turnN]
  | b + 1 => by
    rw [show a + (b + 1) = (a + b) + 1 by omega, turnN, turnN_add f a b, turnN, Nat.pow_succ]
    have : turnN f a * (2 ^ b * 2) = 2 * (turnN f a * 2 ^ b) := by rw [← Nat.mul_assoc, Nat.mul_comm]
    omega
theorem takeN_two (f : Nat → Bool) (a b : Nat) : takeN f a ||| takeN (fun i => f (a + i)) b * 2 ^ a = takeN f (a + b) := by
  rw [takeN_add, Nat.mul_comm, Nat.or_comm, ← Nat.two_pow_add_eq_or_of_lt (takeN_lt f a), Nat.add_comm]
theorem turnN_two (f : Nat → Bool) (a b : Nat) : turnN f a * 2 ^ b ||| turnN (fun i => f (a + i)) b = turnN f (a + b) := by
  rw [turnN_add, Nat.mul_comm, ← Nat.two_pow_add_eq_or_of_lt (turnN_lt _ b)]
theorem near_of (n : Nat) (h : n ≤ 32) : near (n : Int) 32 = n := by unfold near; omega
theorem two_low (f : Nat → Bool) (a b : Nat) (h : a + b ≤ 32) : ((takeN f (a + b) : Int) == bits .or .u64 (takeN f a : Int) ((takeN (fun i => f (a + i)) b : Int) * 2 ^ a % 18446744073709551616)) = true := by
  have h1 := takeN_lt32 f a (by omega)
  have h2 : takeN (fun i => f (a + i)) b * 2 ^ a < 18446744073709551616 := by
    have h3 := takeN_lt (fun i => f (a + i)) b
    have : takeN (fun i => f (a + i)) b * 2 ^ a < 2 ^ b * 2 ^ a := Nat.mul_lt_mul_of_pos_right h3 (Nat.two_pow_pos _)
    rw [← Nat.pow_add] at this
    exact Nat.lt_of_lt_of_le this (Nat.pow_le_pow_right (n := 2) (i := b + a) (j := 64) (by decide) (by omega))
  have e : (takeN (fun i => f (a + i)) b : Int) * 2 ^ a % 18446744073709551616 = ((takeN (fun i => f (a + i)) b * 2 ^ a : Nat) : Int) := by
    have e1 : ((takeN (fun i => f (a + i)) b * 2 ^ a : Nat) : Int) = (takeN (fun i => f (a + i)) b : Int) * 2 ^ a := by simp
    rw [← e1]
    generalize takeN (fun i => f (a + i)) b * 2 ^ a = q at *
    omega
  rw [e, u64_or_nat _ _ (by omega) h2, takeN_two]
  simp
theorem two_high (f : Nat → Bool) (a b : Nat) (h : a + b ≤ 32) : ((turnN f (a + b) : Int) == bits .or .u64 ((turnN f a : Int) * 2 ^ b % 18446744073709551616) (turnN (fun i => f (a + i)) b : Int)) = true := by
  have h1 := turnN_lt32 (fun i => f (a + i)) b (by omega)
  have h2 : turnN f a * 2 ^ b < 18446744073709551616 := by
    have h3 := turnN_lt f a
    have : turnN f a * 2 ^ b < 2 ^ a * 2 ^ b := Nat.mul_lt_mul_of_pos_right h3 (Nat.two_pow_pos _)
    rw [← Nat.pow_add] at this
    exact Nat.lt_of_lt_of_le this (Nat.pow_le_pow_right (n := 2) (i := a + b) (j := 64) (by decide) (by omega))
  have e : (turnN f a : Int) * 2 ^ b % 18446744073709551616 = ((turnN f a * 2 ^ b : Nat) : Int) := by
    have e1 : ((turnN f a * 2 ^ b : Nat) : Int) = (turnN f a : Int) * 2 ^ b := by simp
    rw [← e1]
    generalize turnN f a * 2 ^ b = q at *
    omega
  rw [e, u64_or_nat _ _ h2 (by omega), turnN_two]
  simp
/-- Four numbers as a function. -/
def four (a b c d : Nat) : Nat → Nat | 0 => a | 1 => b | 2 => c | _ => d
/-- Four Sources of one text side by side. -/
def Srcs (w : World) (g : Nat → Nat) (s : ByteArray) (p : Nat → Nat) : Prop := ∀ j, j < 4 → SrcAt w (g j) s (p j)
def Inj4 (g : Nat → Nat) : Prop := ∀ i j, i < 4 → j < 4 → g i = g j → i = j
theorem Srcs.take {w w' : World} {g : Nat → Nat} {s : ByteArray} {p : Nat → Nat} (h : Srcs w g s p) (hi : Inj4 g) (k q : Nat) (hk : k < 4) (hS : SrcAt w' (g k) s q) (hG : w.grownBy w' (some (g k))) : Srcs w' g s (fun j => if j = k then q else p j) := fun j hj => by
  show SrcAt w' (g j) s (if j = k then q else p j)
  by_cases e : j = k
  · subst e; rw [if_pos rfl]; exact hS
  · rw [if_neg e]; exact (h j hj).kept hG (fun e2 => e (hi j k hj hk (Option.some.inj e2)))
theorem Srcs.congr {w : World} {g : Nat → Nat} {s : ByteArray} {p q : Nat → Nat} (h : Srcs w g s p) (e : ∀ j, j < 4 → p j = q j) : Srcs w g s q := fun j hj => by rw [← e j hj]; exact h j hj
theorem Srcs.below {w w' : World} {g : Nat → Nat} {s : ByteArray} {p : Nat → Nat} (h : Srcs w g s p) (hb : Below w.heap.size w w') : Srcs w' g s p := fun j hj => (h j hj).below hb
/-- The row of pointers. -/
def ptrs (g : Nat → Nat) : Array Value := ((List.range 4).map fun j => Value.pointer (some ⟨g j, 0, none⟩)).toArray
theorem ptrs_at (g : Nat → Nat) (k : Nat) (h : k < 4) : (ptrs g)[k]? = some (.pointer (some ⟨g k, 0, none⟩)) := by simp [ptrs, h]
end Go.Proofs.Ytbkaeibjhnndfaa
