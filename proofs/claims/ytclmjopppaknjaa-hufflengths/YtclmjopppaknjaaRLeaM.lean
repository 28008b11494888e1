/- Counts put in falling order: plain mathematics. -/
import Derived.Test.YtclmjopppaknjaaPkgT
import Derived.Test.YtclmjopppaknjaaHLenM
namespace Go.Proofs.Ytclmjopppaknjaa
open Go
set_option linter.unusedVariables false

/-- What has come behind j of l, n put ahead of the first that is less. -/
def stI (n : Nat) (l : List Nat) : Nat → List Nat × Bool
  | 0 => ([], false)
  | j + 1 => if (stI n l j).2 = false ∧ l.getD j 0 < n then ((stI n l j).1 ++ [n] ++ [l.getD j 0], true) else ((stI n l j).1 ++ [l.getD j 0], (stI n l j).2)
def insF (n : Nat) (l : List Nat) : List Nat := if (stI n l l.length).2 = true then (stI n l l.length).1 else (stI n l l.length).1 ++ [n]
theorem take_nx (l : List Nat) (k : Nat) (h : k < l.length) : l.take (k + 1) = l.take k ++ [l.getD k 0] := by
  rw [List.take_add_one, List.getElem?_eq_getElem h, List.getD_eq_getElem?_getD, List.getElem?_eq_getElem h]; rfl
theorem stI_no (n : Nat) (l : List Nat) : ∀ j, j ≤ l.length → (stI n l j).2 = false → (stI n l j).1 = l.take j ∧ ∀ x ∈ l.take j, n ≤ x
  | 0, _, _ => by simp [stI]
  | j + 1, hj, h => by
    rw [stI] at h ⊢
    split at h
    · simp at h
    · rename_i q
      rw [if_neg q]
      have ih := stI_no n l j (by omega) h
      refine ⟨by rw [take_nx _ _ (by omega), ← ih.1], fun x hx => ?_⟩
      rw [take_nx _ _ (by omega)] at hx
      rcases List.mem_append.1 hx with hx | hx
      · exact ih.2 x hx
      · simp at hx
        have : ¬ l.getD j 0 < n := fun z => q ⟨h, z⟩
        rw [List.getD_eq_getElem?_getD] at this
        omega
theorem stI_yes (n : Nat) (l : List Nat) : ∀ j, j ≤ l.length → (stI n l j).2 = true → ∃ i, i < j ∧ (stI n l j).1 = l.take i ++ n :: (l.take j).drop i ∧ (∀ x ∈ l.take i, n ≤ x) ∧ l.getD i 0 < n
  | 0, _, h => by simp [stI] at h
  | j + 1, hj, h => by
    rw [stI] at h ⊢
    split at h
    · rename_i q
      rw [if_pos q]
      have ih := stI_no n l j (by omega) q.1
      refine ⟨j, by omega, ?_, ih.2, q.2⟩
      rw [ih.1, take_nx _ _ (by omega), List.drop_append_of_le_length (by rw [List.length_take]; omega), List.drop_of_length_le (by rw [List.length_take]; omega)]
      simp
    · rename_i q
      rw [if_neg q]
      obtain ⟨i, h1, h2, h3, h4⟩ := stI_yes n l j (by omega) h
      refine ⟨i, by omega, ?_, h3, h4⟩
      rw [h2, take_nx _ _ (by omega), List.drop_append_of_le_length (by rw [List.length_take]; omega)]
      simp
abbrev Falling (l : List Nat) : Prop := l.Pairwise fun a b => b ≤ a
theorem insF_perm (n : Nat) (l : List Nat) : (insF n l).Perm (n :: l) := by
  unfold insF
  split
  · rename_i h
    obtain ⟨i, _, e, _, _⟩ := stI_yes n l _ (Nat.le_refl _) h
    rw [e, List.take_length]
    have := List.perm_middle (a := n) (l₁ := l.take i) (l₂ := l.drop i)
    rw [List.take_append_drop] at this
    exact this
  · rename_i h
    have := (stI_no n l _ (Nat.le_refl _) (by simpa using h)).1
    rw [this, List.take_length]
    exact List.perm_append_singleton n l
theorem insF_fall (n : Nat) (l : List Nat) (hl : Falling l) : Falling (insF n l) := by
  unfold insF
  split
  · rename_i h
    obtain ⟨i, hi, e, h3, h4⟩ := stI_yes n l _ (Nat.le_refl _) h
    rw [e, List.take_length]
    have hsp : l = l.take i ++ l.drop i := (List.take_append_drop i l).symm
    have hp := hl
    rw [hsp] at hp
    obtain ⟨p1, p2, p3⟩ := List.pairwise_append.1 hp
    have hd : l.drop i = l.getD i 0 :: l.drop (i + 1) := by
      rw [List.getD_eq_getElem?_getD, List.getElem?_eq_getElem hi]
      exact List.drop_eq_getElem_cons hi
    refine List.pairwise_append.2 ⟨p1, ?_, fun a ha b hb => ?_⟩
    · refine List.pairwise_cons.2 ⟨fun b hb => ?_, p2⟩
      rw [hd] at hb p2
      rcases List.mem_cons.1 hb with rfl | hb
      · omega
      · have := (List.pairwise_cons.1 p2).1 b hb; omega
    · rcases List.mem_cons.1 hb with rfl | hb
      · exact h3 a ha
      · exact p3 a ha b hb
  · rename_i h
    obtain ⟨e, h3⟩ := stI_no n l _ (Nat.le_refl _) (by simpa using h)
    rw [e, List.take_length] at *
    refine List.pairwise_append.2 ⟨hl, by simp, fun a ha b hb => ?_⟩
    simp at hb
    subst hb
    exact h3 a ha
/-- The counts above 0 among the first k, falling. -/
def fallK (zs : List Int) : Nat → List Nat
  | 0 => []
  | k + 1 => if 0 < zs.getD k 0 then insF (zs.getD k 0).toNat (fallK zs k) else fallK zs k
theorem fallK_fall (zs : List Int) : ∀ k, Falling (fallK zs k)
  | 0 => List.Pairwise.nil
  | k + 1 => by
    rw [fallK]
    split
    · exact insF_fall _ _ (fallK_fall zs k)
    · exact fallK_fall zs k
theorem fallK_perm (zs : List Int) : ∀ k, (fallK zs k).Perm ((posL zs k).map fun i => (zs.getD i 0).toNat)
  | 0 => by simp [fallK, posL]
  | k + 1 => by
    have ih := fallK_perm zs k
    rw [fallK]
    by_cases h : 0 < zs.getD k 0
    · rw [if_pos h, posL_yes h, List.map_append]
      refine (insF_perm _ _).trans (((List.Perm.cons _ ih)).trans ?_)
      exact (List.perm_append_singleton _ _).symm
    · rw [if_neg h, posL_no h]; exact ih
theorem rise_pair : ∀ l : List Nat, Rising l → l.Pairwise (fun a b => a ≤ b)
  | [], _ => List.Pairwise.nil
  | a :: l, h => List.pairwise_cons.2 ⟨h.1, rise_pair l h.2⟩
theorem fall_eq {a b : List Nat} (ha : Falling a) (hb : Falling b) (p : a.Perm b) : a = b :=
  List.Perm.eq_of_pairwise (fun x y _ _ h1 h2 => Nat.le_antisymm h2 h1) ha hb p
theorem fall_rev {zs : List Int} {ss : List Nat} (h : RisP zs ss) : fallK zs zs.length = (wOf zs ss).reverse := by
  refine fall_eq (fallK_fall zs _) (List.pairwise_reverse.2 (rise_pair _ h.rise)) ((fallK_perm zs _).trans ?_)
  refine (List.Perm.map _ h.perm.symm).trans ?_
  exact (List.reverse_perm _).symm
theorem fallK_len (zs : List Int) (k : Nat) : (fallK zs k).length = (posL zs k).length := by rw [(fallK_perm zs k).length_eq, List.length_map]
end Go.Proofs.Ytclmjopppaknjaa
