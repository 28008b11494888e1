/- Chunks where every place is an end: no program. -/
import Derived.Test.YtnfemofighgenabChkM
namespace Go.Proofs.Ytnfemofighgenab
set_option linter.unusedVariables false

theorem endB_zero (mn mx : Nat) (h : mn ≤ mx) (T : List UInt8) (n : Nat) : endB mn 0 mx T n = decide (mn ≤ n) := by
  unfold endB
  rw [Nat.pow_zero, Nat.mod_one]
  by_cases h1 : mx ≤ n
  · rw [decide_eq_true h1, decide_eq_true (show mn ≤ n by omega)]; rfl
  · rw [decide_eq_false h1]; simp
theorem endB_same (mn bt : Nat) (T : List UInt8) (n : Nat) : endB mn bt mn T n = decide (mn ≤ n) := by
  unfold endB
  by_cases h1 : mn ≤ n
  · rw [decide_eq_true h1]; rfl
  · rw [decide_eq_false h1]; rfl
theorem ckW_congr (a b c a' b' c' : Nat) (h : ∀ T n, endB a b c T n = endB a' b' c' T n) : ∀ (s T p : List UInt8), ckW a b c T p s = ckW a' b' c' T p s
  | [], T, p => rfl
  | x :: s, T, p => by rw [ckW, ckW, h, ckW_congr a b c a' b' c' h s, ckW_congr a b c a' b' c' h s]
theorem ckW_even (mn bt mx : Nat) (h0 : 1 ≤ mn) (h : ∀ T n, endB mn bt mx T n = decide (mn ≤ n)) : ∀ (s T p : List UInt8), p.length < mn → (∀ x ∈ (ckW mn bt mx T p s).1, x.length = mn) ∧ (ckW mn bt mx T p s).2.length < mn
  | [], T, p, hp => by simp [ckW, hp]
  | a :: s, T, p, hp => by
    rw [ckW, h]
    by_cases hc : mn ≤ p.length + 1
    · rw [if_pos (by simpa using hc)]
      have ih := ckW_even mn bt mx h0 h s (T ++ [a]) [] (by simp; omega)
      refine ⟨fun x hx => ?_, ih.2⟩
      simp only [List.mem_cons] at hx
      rcases hx with rfl | hx
      · simp; omega
      · exact ih.1 x hx
    · rw [if_neg (by simpa using hc)]
      exact ckW_even mn bt mx h0 h s (T ++ [a]) (p ++ [a]) (by simp; omega)
theorem flat_len (m : Nat) : ∀ (l : List (List UInt8)), (∀ x ∈ l, x.length = m) → l.flatten.length = l.length * m
  | [], _ => by simp
  | x :: l, h => by
    rw [List.flatten_cons, List.length_append, flat_len m l (fun y hy => h y (by simp [hy])), h x (by simp), List.length_cons, Nat.succ_mul]; omega
theorem spl_even (mn bt mx : Nat) (h0 : 1 ≤ mn) (h : ∀ T n, endB mn bt mx T n = decide (mn ≤ n)) (s : List UInt8) :
    (spl mn bt mx s).length = (s.length + mn - 1) / mn ∧ ∀ i, i + 1 < (spl mn bt mx s).length → ((spl mn bt mx s).getD i []).length = mn := by
  have he := ckW_even mn bt mx h0 h s [] [] (by simp; omega)
  have hf := ckW_flat mn bt mx s [] []
  unfold spl
  generalize (ckW mn bt mx [] [] s).1 = C at *
  generalize (ckW mn bt mx [] [] s).2 = P at *
  have hl := congrArg List.length hf
  rw [List.length_append, flat_len mn C he.1, List.nil_append] at hl
  have hlast : (lastC P).length = if P.length = 0 then 0 else 1 := by
    unfold lastC
    by_cases hp : P = []
    · subst hp; simp
    · rw [if_neg hp, if_neg (fun e => hp (List.length_eq_zero_iff.1 e))]; rfl
  constructor
  · rw [List.length_append, hlast]
    by_cases hp : P.length = 0
    · rw [if_pos hp, Nat.add_zero]
      symm
      apply Nat.div_eq_of_lt_le
      · omega
      · rw [Nat.succ_mul]; omega
    · rw [if_neg hp]
      symm
      apply Nat.div_eq_of_lt_le
      · rw [Nat.add_mul]; omega
      · rw [Nat.succ_mul, Nat.add_mul]; omega
  · intro i hi
    have h1 : (lastC P).length ≤ 1 := by rw [hlast]; split <;> omega
    rw [List.length_append] at hi
    have hc : i < C.length := by omega
    rw [List.getD_eq_getElem?_getD, List.getElem?_append_left hc, List.getElem?_eq_getElem hc]
    exact he.1 _ (List.getElem_mem hc)
theorem spl_congr (a b c a' b' c' : Nat) (h : ∀ T n, endB a b c T n = endB a' b' c' T n) (s : List UInt8) : spl a b c s = spl a' b' c' s := by
  unfold spl; rw [ckW_congr a b c a' b' c' h]
end Go.Proofs.Ytnfemofighgenab
