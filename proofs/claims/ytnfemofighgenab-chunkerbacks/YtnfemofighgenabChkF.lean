/- Where chunks end: no program. -/
import Derived.Test.YtnfemofighgenabChkM
namespace Go.Proofs.Ytnfemofighgenab
set_option linter.unusedVariables false

theorem endB_is (mn bt mx : Nat) (T : List UInt8) (n : Nat) (h : n ≤ mx) : endB mn bt mx T n = ((n == mx) || (decide (mn ≤ n) && (fpr T % 2 ^ bt == 0))) := by
  unfold endB
  congr 1
  by_cases e : n = mx
  · subst e; simp
  · rw [decide_eq_false (by omega), beq_eq_false_iff_ne.2 e]
/-- Where the chunk number q begins. -/
def stAt (C : List (List UInt8)) (q : Nat) : Nat := (C.take q).flatten.length
theorem stAt_zero (C : List (List UInt8)) : stAt C 0 = 0 := rfl
theorem stAt_succ (C : List (List UInt8)) (q : Nat) (h : q < C.length) : stAt C (q + 1) = stAt C q + (C.getD q []).length := by
  unfold stAt
  rw [List.take_succ_eq_append_getElem h, List.flatten_append, List.length_append]
  simp [List.getD_eq_getElem?_getD, h]
theorem stAt_le (C : List (List UInt8)) (q : Nat) : stAt C q ≤ C.flatten.length := by
  unfold stAt
  conv => rhs; rw [← List.take_append_drop q C, List.flatten_append, List.length_append]
  omega
theorem stAt_append (C D : List (List UInt8)) (q : Nat) (h : q ≤ C.length) : stAt (C ++ D) q = stAt C q := by
  unfold stAt; rw [List.take_append_of_le_length h]
theorem stAt_all (C : List (List UInt8)) (q : Nat) (h : C.length ≤ q) : stAt C q = C.flatten.length := by unfold stAt; rw [List.take_of_length_le h]
theorem getD_append_l (C D : List (List UInt8)) (q : Nat) (h : q < C.length) : (C ++ D).getD q [] = C.getD q [] := by
  rw [List.getD_eq_getElem?_getD, List.getD_eq_getElem?_getD, List.getElem?_append_left h]
theorem getD_append_one (C : List (List UInt8)) (x : List UInt8) : (C ++ [x]).getD C.length [] = x := by
  rw [List.getD_eq_getElem?_getD, List.getElem?_append_right (Nat.le_refl _)]; simp
/-- All that is known of the ends behind k bytes. -/
def EndsAt (mn bt mx : Nat) (s : List UInt8) (k : Nat) (C : List (List UInt8)) (P : List UInt8) : Prop :=
  C.flatten ++ P = s.take k ∧ P.length ≤ k ∧
  (∀ q i, q < C.length → 1 ≤ i → i ≤ (C.getD q []).length → endB mn bt mx (s.take (stAt C q + i)) i = decide (i = (C.getD q []).length)) ∧
  ∀ i, 1 ≤ i → i ≤ P.length → endB mn bt mx (s.take (k - P.length + i)) i = false
theorem ends_all (mn bt mx : Nat) (s : List UInt8) : ∀ k, k ≤ s.length → EndsAt mn bt mx s k (ckW mn bt mx [] [] (s.take k)).1 (ckW mn bt mx [] [] (s.take k)).2
  | 0, _ => by
    rw [List.take_zero]
    refine ⟨rfl, by simp [ckW], fun q i hq => by simp [ckW] at hq, fun i h1 h2 => by simp [ckW] at h2; omega⟩
  | k + 1, hk => by
    have ih := ends_all mn bt mx s k (by omega)
    have hsn : s.take (k + 1) = s.take k ++ [s[k]] := by rw [List.take_succ_eq_append_getElem (by omega)]
    have hS := ckW_snoc mn bt mx (s.take k) [] [] s[k]
    rw [List.nil_append, ← hsn] at hS
    rw [hS]
    generalize (ckW mn bt mx [] [] (s.take k)).1 = C at *
    generalize (ckW mn bt mx [] [] (s.take k)).2 = P at *
    obtain ⟨i1, i2, i3, i4⟩ := ih
    have hfl : C.flatten.length = k - P.length := by
      have := congrArg List.length i1
      rw [List.length_append, List.length_take] at this; omega
    cases hE : endB mn bt mx (s.take (k + 1)) (P.length + 1)
    · rw [if_neg (by decide)]
      refine ⟨by rw [← List.append_assoc, i1, ← hsn], by simp; omega, i3, fun i h1 h2 => ?_⟩
      rw [List.length_append, List.length_singleton] at h2 ⊢
      by_cases e : i = P.length + 1
      · subst e
        rw [show k + 1 - (P.length + 1) + (P.length + 1) = k + 1 by omega]; exact hE
      · have := i4 i h1 (by omega)
        rwa [show k + 1 - (P.length + 1) + i = k - P.length + i by omega]
    · rw [if_pos rfl]
      refine ⟨by rw [List.flatten_append, List.append_nil]; simp only [List.flatten_cons, List.flatten_nil, List.append_nil]; rw [← List.append_assoc, i1, ← hsn], by simp, fun q i hq h1 h2 => ?_, fun i h1 h2 => by simp at h2; omega⟩
      rw [List.length_append, List.length_singleton] at hq
      by_cases e : q = C.length
      · subst e
        rw [getD_append_one] at h2 ⊢
        rw [stAt_append _ _ _ (Nat.le_refl _), stAt_all _ _ (Nat.le_refl _), hfl]
        rw [List.length_append, List.length_singleton] at h2 ⊢
        by_cases e2 : i = P.length + 1
        · subst e2
          rw [show k - P.length + (P.length + 1) = k + 1 by omega, hE]; simp
        · rw [i4 i h1 (by omega)]; simp [e2]
      · have hq' : q < C.length := by omega
        rw [getD_append_l _ _ _ hq'] at h2 ⊢
        rw [stAt_append _ _ _ (by omega)]
        exact i3 q i hq' h1 h2
/-- Each chunk of a text ends where it has to, or with the text; no such place is passed. -/
theorem spl_ends (mn bt mx : Nat) (s : List UInt8) (q i : Nat) (hq : q < (spl mn bt mx s).length) (h1 : 1 ≤ i) (h2 : i ≤ ((spl mn bt mx s).getD q []).length) :
    stAt (spl mn bt mx s) q + i ≤ s.length ∧ (endB mn bt mx (s.take (stAt (spl mn bt mx s) q + i)) i = decide (i = ((spl mn bt mx s).getD q []).length) ∨ stAt (spl mn bt mx s) q + i = s.length) := by
  have hfl := spl_flat mn bt mx s
  have hs := stAt_succ _ q hq
  have hle := stAt_le (spl mn bt mx s) (q + 1)
  rw [hfl] at hle
  refine ⟨by omega, ?_⟩
  have ha := ends_all mn bt mx s s.length (Nat.le_refl _)
  rw [List.take_length] at ha
  unfold spl at *
  generalize (ckW mn bt mx [] [] s).1 = C at *
  generalize (ckW mn bt mx [] [] s).2 = P at *
  obtain ⟨i1, i2, i3, i4⟩ := ha
  by_cases hqc : q < C.length
  · rw [getD_append_l _ _ _ hqc] at h2 ⊢
    rw [stAt_append _ _ _ (by omega)]
    exact Or.inl (i3 q i hqc h1 h2)
  · have hP : P ≠ [] := fun e => by subst e; simp [lastC] at hq; omega
    have hL : lastC P = [P] := by unfold lastC; rw [if_neg hP]
    rw [hL] at hq h2 ⊢
    rw [List.length_append, List.length_singleton] at hq
    have e : q = C.length := by omega
    subst e
    rw [getD_append_one] at h2 ⊢
    have hfl : C.flatten.length = s.length - P.length := by
      have := congrArg List.length i1
      rw [List.length_append, List.take_length] at this; omega
    rw [stAt_append _ _ _ (Nat.le_refl _), stAt_all _ _ (Nat.le_refl _), hfl]
    by_cases e2 : i = P.length
    · right; omega
    · left
      rw [i4 i h1 h2]; simp [e2]
end Go.Proofs.Ytnfemofighgenab
