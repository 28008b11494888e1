/- Polynomials as lists of coefficients, that of x^0 first: no program. -/
import Derived.Test.YtnfemofighgenabPolyG
namespace Go.Proofs.Ytnfemofighgenab
set_option linter.unusedVariables false

/-- The number of coefficients. -/
def nb : List Bool → Nat
  | [] => 0
  | b :: l => 2 * nb l + b.toNat
theorem toNat_lt2 (b : Bool) : b.toNat < 2 := by cases b <;> decide
theorem nb_bit (l : List Bool) (i : Nat) : (nb l).testBit i = l.getD i false := by
  induction l generalizing i with
  | nil => simp [nb]
  | cons b l ih =>
    unfold nb
    cases i with
    | zero =>
      rw [Nat.testBit_zero]
      cases b <;> simp <;> omega
    | succ i =>
      rw [Nat.testBit_succ, show (2 * nb l + b.toNat) / 2 = nb l by have := toNat_lt2 b; omega, ih]
      simp
theorem nb_lt (l : List Bool) : nb l < 2 ^ l.length := by
  induction l with
  | nil => simp [nb]
  | cons b l ih =>
    have := toNat_lt2 b
    unfold nb
    rw [List.length_cons, Nat.pow_succ]; omega
theorem nb_bl (l : List Bool) : bl (nb l) ≤ l.length := (bl_le _ _).2 (nb_lt l)
theorem nb_ext {n : Nat} {l : List Bool} (h : ∀ i, n.testBit i = l.getD i false) : n = nb l := by
  apply Nat.eq_of_testBit_eq
  intro i
  rw [h, nb_bit]
theorem nb_drop (l : List Bool) (i : Nat) (h : i < l.length) : nb (l.drop i) = 2 * nb (l.drop (i + 1)) + (l.getD i false).toNat := by
  rw [List.drop_eq_getElem_cons h, nb]
  simp [List.getD_eq_getElem?_getD, h]
/-- A bit turned. -/
theorem nb_set (l : List Bool) (k : Nat) (h : k < l.length) : nb (l.set k (!l.getD k false)) = nb l ^^^ 2 ^ k := by
  symm
  apply nb_ext
  intro i
  rw [Nat.testBit_xor, nb_bit, Nat.testBit_two_pow]
  simp only [List.getD_eq_getElem?_getD, List.getElem?_set]
  by_cases e : k = i
  · subst e; simp [h]
  · simp [e]
theorem nb_take (l : List Bool) (i : Nat) : nb (l.take (i + 1)) = nb (l.take i) ^^^ (if l.getD i false then 2 ^ i else 0) := by
  symm
  apply nb_ext
  intro j
  rw [Nat.testBit_xor, nb_bit]
  simp only [List.getD_eq_getElem?_getD, List.getElem?_take]
  by_cases h : j = i
  · subst h
    cases hc : (l[j]?.getD false)
    · simp [hc]
    · simp [hc]
  · have hz : (if l[i]?.getD false = true then 2 ^ i else 0).testBit j = false := by
      split
      · rw [Nat.testBit_two_pow]; simp; omega
      · simp
    rw [hz, Bool.xor_false]
    by_cases h2 : j < i
    · simp [h2, show j < i + 1 by omega]
    · simp [h2, show ¬ j < i + 1 by omega]
theorem nb_take_all (l : List Bool) (i : Nat) (h : l.length ≤ i) : nb (l.take i) = nb l := by rw [List.take_of_length_le h]
/-- What is left is small: the rest is gone by. -/
theorem nb_take_bl (l : List Bool) (k : Nat) (h : bl (nb l) ≤ k) : nb (l.take k) = nb l := by
  symm
  apply nb_ext
  intro i
  rw [nb_bit]
  simp only [List.getD_eq_getElem?_getD, List.getElem?_take]
  by_cases hi : i < k
  · simp [hi]
  · have := nb_bit l i
    rw [Nat.testBit_lt_two_pow (Nat.lt_of_lt_of_le ((bl_le _ _).1 h) (Nat.pow_le_pow_right (by decide) (by omega)))] at this
    simp [hi]
    rw [List.getD_eq_getElem?_getD] at this
    exact this.symm
theorem nb_append (a b : List Bool) : nb (a ++ b) = nb a + nb b * 2 ^ a.length := by
  induction a with
  | nil => simp [nb]
  | cons x a ih =>
    rw [List.cons_append, nb, nb, ih, List.length_cons, Nat.pow_succ, Nat.mul_add, ← Nat.mul_assoc]
    rw [Nat.mul_comm (2 * nb b), Nat.mul_comm (nb b) (2 ^ a.length * 2), Nat.mul_assoc (2 ^ a.length)]
    omega
theorem nb_snoc (a : List Bool) (x : Bool) : nb (a ++ [x]) = nb a + x.toNat * 2 ^ a.length := by rw [nb_append]; simp [nb]

/-- A number's coefficients. -/
def bo (p : Nat) : List Bool := if h : p = 0 then [] else (p % 2 == 1) :: bo (p / 2)
  termination_by p
theorem bo_zero : bo 0 = [] := by rw [bo]; rfl
theorem bo_pos {p : Nat} (h : p ≠ 0) : bo p = (p % 2 == 1) :: bo (p / 2) := by rw [bo, dif_neg h]
theorem nb_bo (p : Nat) : nb (bo p) = p := by
  induction p using Nat.strongRecOn with
  | _ p ih =>
    by_cases h : p = 0
    · subst h; rw [bo_zero]; rfl
    · rw [bo_pos h, nb, ih (p / 2) (by omega)]
      rcases Nat.mod_two_eq_zero_or_one p with e | e
      · rw [e]; simp; omega
      · rw [e]; simp; omega
theorem bo_len (p : Nat) : (bo p).length = bl p := by
  induction p using Nat.strongRecOn with
  | _ p ih =>
    by_cases h : p = 0
    · subst h; rw [bo_zero]; rfl
    · rw [bo_pos h, List.length_cons, ih (p / 2) (by omega)]
      by_cases h2 : p / 2 = 0
      · have : p = 1 := by omega
        subst this; decide
      · rw [show bl p = bl (2 * (p / 2) + p % 2) by congr 1; omega, bl_two _ h2 _ (by omega)]
/-- What List has gathered, and what is left. -/
theorem bo_step {p q : Nat} {L : List Bool} (h : L ++ bo q = bo p) (hq : q ≠ 0) : (L ++ [q % 2 == 1]) ++ bo (q / 2) = bo p := by
  rw [← h, bo_pos hq]; simp

/-- The product, while row i is at place j. -/
def prodAt (a b : List Bool) (i j : Nat) : Nat := cm (nb (a.take i)) (nb b) ^^^ (if a.getD i false then nb (b.take j) * 2 ^ i else 0)
theorem prodAt_start (a b : List Bool) : prodAt a b 0 0 = 0 := by
  unfold prodAt
  simp [nb, zero_cm]
theorem prodAt_row (a b : List Bool) (i j : Nat) (h : b.length ≤ j) : prodAt a b i j = prodAt a b (i + 1) 0 := by
  unfold prodAt
  rw [nb_take_all b j h, nb_take a i, xor_cm]
  have e : cm (if a.getD i false = true then 2 ^ i else 0) (nb b) = if a.getD i false then nb b * 2 ^ i else 0 := by
    split
    · rw [pow_cm]
    · rw [zero_cm]
  rw [e]
  simp [nb]
theorem prodAt_end (a b : List Bool) (i : Nat) (h : a.length ≤ i) : prodAt a b i 0 = cm (nb a) (nb b) := by
  unfold prodAt
  rw [nb_take_all a i h]
  simp [nb]
theorem mul_two_xor (x y i : Nat) : (x ^^^ y) * 2 ^ i = x * 2 ^ i ^^^ y * 2 ^ i := by
  rw [← pow_cm, ← pow_cm, ← pow_cm, cm_xor]
theorem prodAt_yes (a b : List Bool) (i j : Nat) (ha : a.getD i false = true) (hb : b.getD j false = true) : prodAt a b i (j + 1) = prodAt a b i j ^^^ 2 ^ (i + j) := by
  unfold prodAt
  rw [ha, nb_take b j, hb, if_pos rfl, if_pos rfl, if_pos rfl, mul_two_xor, Nat.xor_assoc]
  congr 2
  rw [← Nat.pow_add]; congr 1; omega
theorem prodAt_no (a b : List Bool) (i j : Nat) (h : a.getD i false = false ∨ b.getD j false = false) : prodAt a b i (j + 1) = prodAt a b i j := by
  unfold prodAt
  rcases h with h | h
  · rw [h]; simp
  · rw [nb_take b j, h]; simp

/-- The rest: m is taken away up to place j of it, at place s. -/
def restAt (m x s j : Nat) : Nat := x ^^^ nb ((bo m).take j) * 2 ^ s
theorem restAt_start (m x s : Nat) : restAt m x s 0 = x := by simp [restAt, nb]
theorem restAt_yes (m x s j : Nat) (h : (bo m).getD j false = true) : restAt m x s (j + 1) = restAt m x s j ^^^ 2 ^ (s + j) := by
  unfold restAt
  rw [nb_take, h, if_pos rfl, mul_two_xor, ← Nat.xor_assoc, ← Nat.pow_add, Nat.add_comm]
theorem restAt_no (m x s j : Nat) (h : (bo m).getD j false = false) : restAt m x s (j + 1) = restAt m x s j := by
  unfold restAt
  rw [nb_take, h]; simp
theorem restAt_end (m x s j : Nat) (h : bl m ≤ j) : restAt m x s j = x ^^^ m * 2 ^ s := by
  unfold restAt
  rw [nb_take_all _ _ (by rw [bo_len]; exact h), nb_bo]
/-- A round of the division: bit i, which is the highest, is 1. -/
theorem round_yes {m x i : Nat} (hm : m ≠ 0) (hi : bl m ≤ i + 1) (hx : bl x ≤ i + 1) (hb : x.testBit i = true) : bl (x ^^^ m * 2 ^ (i + 1 - bl m)) ≤ i ∧ Cg m (x ^^^ m * 2 ^ (i + 1 - bl m)) x := by
  have hl : bl x = i + 1 := by
    have : ¬ bl x ≤ i := fun h => by
      rw [Nat.testBit_lt_two_pow ((bl_le x i).1 h)] at hb; exact absurd hb (by decide)
    omega
  have := bl_mul_pow m (i + 1 - bl m) hm
  have h2 := bl_xor_top (x := x) (y := m * 2 ^ (i + 1 - bl m)) (by omega) (bl_pos.1 (by omega))
  refine ⟨by omega, ?_⟩
  rw [← pow_cm]; exact Cg.mult _ _ _
theorem round_no {x i : Nat} (hx : bl x ≤ i + 1) (hb : x.testBit i = false) : bl x ≤ i := by
  by_cases h : bl x ≤ i
  · exact h
  · have e : bl x = i + 1 := by omega
    have h0 : x ≠ 0 := bl_pos.1 (by omega)
    have h1 := pow_bl h0
    have h2 := lt_bl x
    rw [e] at h1 h2
    rw [Nat.add_sub_cancel] at h1
    rw [Nat.testBit_eq_decide_div_mod_eq] at hb
    have : x / 2 ^ i = 1 := Nat.div_eq_of_lt_le (by omega) (by rw [Nat.pow_succ] at h2; omega)
    rw [this] at hb
    exact absurd hb (by decide)
theorem rest_done {m x y k : Nat} (hm : m ≠ 0) (hc : Cg m x y) (hx : bl x ≤ k) (hk : k ≤ bl m - 1) : x = pm y m := by
  have := bl_pos.2 hm
  exact (pm_of hc.symm (by omega)).symm
end Go.Proofs.Ytnfemofighgenab
