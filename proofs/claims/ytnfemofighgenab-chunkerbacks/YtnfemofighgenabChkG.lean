/- Texts that begin alike, texts that end alike: no program. -/
import Derived.Test.YtnfemofighgenabChkF
namespace Go.Proofs.Ytnfemofighgenab
set_option linter.unusedVariables false

theorem ckW_head (mn bt mx : Nat) : ∀ (s T p : List UInt8) (x : List UInt8) (r : List (List UInt8)), (ckW mn bt mx T p s).1 = x :: r → p.length < x.length
  | [], T, p, x, r, h => by simp [ckW] at h
  | b :: s, T, p, x, r, h => by
    rw [ckW] at h
    split at h
    · simp only [List.cons.injEq] at h
      rw [← h.1]; simp
    · have := ckW_head mn bt mx s (T ++ [b]) (p ++ [b]) x r h
      simp at this; omega
/-- Texts that begin alike have the same chunks, up to what is alike. -/
theorem fronts (mn bt mx : Nat) (F A B : List UInt8) (i : Nat) (h1 : i + 1 < (spl mn bt mx (F ++ A)).length) (h2 : stAt (spl mn bt mx (F ++ A)) (i + 1) ≤ F.length) :
    i < (spl mn bt mx (F ++ B)).length ∧ (spl mn bt mx (F ++ A)).getD i [] = (spl mn bt mx (F ++ B)).getD i [] := by
  have hf := ckW_flat mn bt mx F [] []
  rw [List.nil_append] at hf
  unfold spl at *
  rw [ckW_append mn bt mx F [] [] A] at h1 h2 ⊢
  rw [ckW_append mn bt mx F [] [] B]
  simp only [List.nil_append] at *
  have hh := ckW_head mn bt mx A F (ckW mn bt mx [] [] F).2
  generalize (ckW mn bt mx [] [] F).1 = C at *
  generalize (ckW mn bt mx [] [] F).2 = P at *
  generalize (ckW mn bt mx F P A).1 = CA at *
  generalize (ckW mn bt mx F P A).2 = PA at *
  generalize (ckW mn bt mx F P B).1 = CB at *
  generalize (ckW mn bt mx F P B).2 = PB at *
  by_cases hi : i < C.length
  · rw [List.append_assoc, List.append_assoc, getD_append_l _ _ _ hi, getD_append_l _ _ _ hi]
    exact ⟨by rw [List.length_append]; omega, rfl⟩
  · exfalso
    have hlc : (lastC PA).length ≤ 1 := by unfold lastC; split <;> simp
    rw [List.append_assoc, List.length_append, List.length_append] at h1
    match CA, hh with
    | [], _ => simp at h1; omega
    | x :: r, hh =>
      have hx := hh x r rfl
      have hl := congrArg List.length hf
      rw [List.length_append] at hl
      have e : C ++ x :: r ++ lastC PA = (C ++ [x]) ++ (r ++ lastC PA) := by simp
      rw [e] at h2
      have hm : stAt (C ++ [x] ++ (r ++ lastC PA)) (C.length + 1) ≤ stAt (C ++ [x] ++ (r ++ lastC PA)) (i + 1) := by
        unfold stAt
        have : (C ++ [x] ++ (r ++ lastC PA)).take (i + 1) = (C ++ [x] ++ (r ++ lastC PA)).take (C.length + 1) ++ ((C ++ [x] ++ (r ++ lastC PA)).take (i + 1)).drop (C.length + 1) := by
          conv => lhs; rw [← List.take_append_drop (C.length + 1) ((C ++ [x] ++ (r ++ lastC PA)).take (i + 1))]
          rw [List.take_take, Nat.min_eq_left (by omega)]
        rw [this, List.flatten_append, List.length_append]; omega
      rw [stAt_append (C ++ [x]) _ (C.length + 1) (by simp), stAt_all _ _ (by simp)] at hm
      rw [List.flatten_append, List.length_append] at hm
      simp only [List.flatten_cons, List.flatten_nil, List.append_nil] at hm
      omega
theorem stAt_mono (C : List (List UInt8)) (i j : Nat) (h : i ≤ j) : stAt C i ≤ stAt C j := by
  unfold stAt
  have : C.take j = C.take i ++ (C.take j).drop i := by
    conv => lhs; rw [← List.take_append_drop i (C.take j)]
    rw [List.take_take, Nat.min_eq_left h]
  rw [this, List.flatten_append, List.length_append]; omega
/-- A row of chunks cut behind one of them. -/
theorem ckW_cut (mn bt mx : Nat) : ∀ (s T p : List UInt8) (j : Nat), 1 ≤ j → j ≤ (ckW mn bt mx T p s).1.length →
    ∃ s1 s2, s = s1 ++ s2 ∧ ckW mn bt mx T p s1 = ((ckW mn bt mx T p s).1.take j, []) ∧ ckW mn bt mx (T ++ s1) [] s2 = ((ckW mn bt mx T p s).1.drop j, (ckW mn bt mx T p s).2)
  | [], T, p, j, h1, h2 => by simp [ckW] at h2; omega
  | b :: s, T, p, j, h1, h2 => by
    by_cases he : endB mn bt mx (T ++ [b]) (p.length + 1) = true
    · have e : ckW mn bt mx T p (b :: s) = ((p ++ [b]) :: (ckW mn bt mx (T ++ [b]) [] s).1, (ckW mn bt mx (T ++ [b]) [] s).2) := by rw [ckW, if_pos he]
      rw [e] at h2 ⊢
      by_cases hj : j = 1
      · subst hj
        exact ⟨[b], s, rfl, by rw [ckW, if_pos he]; simp [ckW], by simp⟩
      · obtain ⟨s1, s2, r1, r2, r3⟩ := ckW_cut mn bt mx s (T ++ [b]) [] (j - 1) (by omega) (by simp at h2; omega)
        obtain ⟨i, rfl⟩ : ∃ i, j = i + 1 := ⟨j - 1, by omega⟩
        rw [Nat.add_sub_cancel] at r2 r3
        refine ⟨b :: s1, s2, by rw [r1]; rfl, by rw [ckW, if_pos he, r2]; simp, ?_⟩
        rw [show T ++ b :: s1 = T ++ [b] ++ s1 by simp, r3]; simp
    · have e : ckW mn bt mx T p (b :: s) = ckW mn bt mx (T ++ [b]) (p ++ [b]) s := by rw [ckW, if_neg he]
      rw [e] at h2 ⊢
      obtain ⟨s1, s2, r1, r2, r3⟩ := ckW_cut mn bt mx s (T ++ [b]) (p ++ [b]) j h1 h2
      refine ⟨b :: s1, s2, by rw [r1]; rfl, by rw [ckW, if_neg he, r2], ?_⟩
      rw [show T ++ b :: s1 = T ++ [b] ++ s1 by simp, r3]
theorem fpr_suffix (X Y : List UInt8) (h : 16 ≤ Y.length) : fpr (X ++ Y) = fpr Y := by
  unfold fpr
  rw [beN_L16, beN_L16]
  congr 2
  rw [List.length_append, List.drop_append, List.drop_of_length_le (by omega), List.nil_append]
  congr 1; omega
theorem ckW_far (mn bt mx : Nat) : ∀ (s T U p : List UInt8), (∀ u, fpr (T ++ u) = fpr (U ++ u)) → ckW mn bt mx T p s = ckW mn bt mx U p s
  | [], T, U, p, h => rfl
  | b :: s, T, U, p, h => by
    have hb : endB mn bt mx (T ++ [b]) (p.length + 1) = endB mn bt mx (U ++ [b]) (p.length + 1) := by unfold endB; rw [h [b]]
    have hn : ∀ u, fpr (T ++ [b] ++ u) = fpr (U ++ [b] ++ u) := fun u => by
      have := h ([b] ++ u)
      rwa [← List.append_assoc, ← List.append_assoc] at this
    rw [ckW, ckW, hb, ckW_far mn bt mx s (T ++ [b]) (U ++ [b]) [] hn, ckW_far mn bt mx s (T ++ [b]) (U ++ [b]) (p ++ [b]) hn]
/-- What stands behind the end of a chunk that is not the last one. -/
theorem spl_drop (mn bt mx : Nat) (s : List UInt8) (j : Nat) (h1 : 1 ≤ j) (h2 : j < (spl mn bt mx s).length) :
    (spl mn bt mx s).drop j = (ckW mn bt mx (s.take (stAt (spl mn bt mx s) j)) [] (s.drop (stAt (spl mn bt mx s) j))).1 ++ lastC (ckW mn bt mx (s.take (stAt (spl mn bt mx s) j)) [] (s.drop (stAt (spl mn bt mx s) j))).2 := by
  have hlc : (lastC (ckW mn bt mx [] [] s).2).length ≤ 1 := by unfold lastC; split <;> simp
  have hj : j ≤ (ckW mn bt mx [] [] s).1.length := by unfold spl at h2; rw [List.length_append] at h2; omega
  have hst : stAt (spl mn bt mx s) j = stAt (ckW mn bt mx [] [] s).1 j := by unfold spl; exact stAt_append _ _ _ hj
  obtain ⟨s1, s2, r1, r2, r3⟩ := ckW_cut mn bt mx s [] [] j h1 hj
  have hl : s1.length = stAt (ckW mn bt mx [] [] s).1 j := by
    have := ckW_flat mn bt mx s1 [] []
    rw [r2, List.nil_append, List.append_nil] at this
    unfold stAt
    rw [this]
  rw [hst, ← hl]
  have e1 : s.take s1.length = s1 := by rw [r1]; simp
  have e2 : s.drop s1.length = s2 := by rw [r1]; simp
  rw [List.nil_append] at r3
  rw [e1, e2, r3]
  unfold spl
  rw [List.drop_append_of_le_length hj]
/-- The chunks whose ends are less than c from the end. -/
def tlK (L : List (List UInt8)) (n : Nat) (c : Int) : Nat → List (List UInt8)
  | 0 => []
  | k + 1 => tlK L n c k ++ (if ((n - stAt L (k + 1) : Nat) : Int) < c then [L.getD k []] else [])
theorem tlK_len (L : List (List UInt8)) (n : Nat) (c : Int) : ∀ k, (tlK L n c k).length ≤ k
  | 0 => by simp [tlK]
  | k + 1 => by
    have := tlK_len L n c k
    unfold tlK
    rw [List.length_append]
    split <;> simp <;> omega
theorem tlK_zero (L : List (List UInt8)) (n : Nat) : ∀ k, tlK L n 0 k = []
  | 0 => rfl
  | k + 1 => by
    unfold tlK
    rw [tlK_zero L n k, if_neg (by omega)]; rfl
theorem tlK_drop (L : List (List UInt8)) (n c i : Nat) (hL : L.flatten.length = n) (hne : ∀ j, j < L.length → L.getD j [] ≠ []) (hi : i < L.length) (hc : n - stAt L (i + 1) = c) :
    ∀ k, k ≤ L.length → tlK L n c k = (L.take k).drop (i + 1)
  | 0, _ => by simp [tlK]
  | k + 1, hk => by
    have ih := tlK_drop L n c i hL hne hi hc k (by omega)
    unfold tlK
    rw [ih, List.take_succ_eq_append_getElem (by omega)]
    by_cases hki : k ≤ i
    · have := stAt_mono L (k + 1) (i + 1) (by omega)
      rw [if_neg (by omega), List.append_nil, List.drop_of_length_le (by simp; omega), List.drop_of_length_le (by simp; omega)]
    · have h1 := stAt_mono L (i + 1) k (by omega)
      have h2 := stAt_succ L k (by omega)
      have h3 := stAt_le L (k + 1)
      have h4 := hne k (by omega)
      have h5 : 0 < (L.getD k []).length := by
        cases hl : L.getD k [] with
        | nil => exact absurd hl h4
        | cons a b => simp
      rw [if_pos (by omega), List.drop_append_of_le_length (by simp; omega)]
      simp [List.getD_eq_getElem?_getD, show k < L.length by omega]
/-- Texts that end alike have the same chunks, once they have been cut at one place. -/
theorem backs (mn bt mx : Nat) (X Y K : List UInt8) (i j c : Nat) (hmn : ∀ s k, k < (spl mn bt mx s).length → (spl mn bt mx s).getD k [] ≠ [])
    (hi : i < (spl mn bt mx (X ++ K)).length) (hj : j < (spl mn bt mx (Y ++ K)).length)
    (hci : (X ++ K).length - stAt (spl mn bt mx (X ++ K)) (i + 1) = c) (hcj : (Y ++ K).length - stAt (spl mn bt mx (Y ++ K)) (j + 1) = c) (hc : c + 16 ≤ K.length) :
    tlK (spl mn bt mx (X ++ K)) (X ++ K).length c (spl mn bt mx (X ++ K)).length = tlK (spl mn bt mx (Y ++ K)) (Y ++ K).length c (spl mn bt mx (Y ++ K)).length := by
  by_cases h0 : c = 0
  · subst h0
    rw [show ((0 : Nat) : Int) = 0 from rfl, tlK_zero, tlK_zero]
  · have key : ∀ (Z : List UInt8) (i : Nat), i < (spl mn bt mx (Z ++ K)).length → (Z ++ K).length - stAt (spl mn bt mx (Z ++ K)) (i + 1) = c →
        tlK (spl mn bt mx (Z ++ K)) (Z ++ K).length c (spl mn bt mx (Z ++ K)).length = (ckW mn bt mx (Z ++ K.take (K.length - c)) [] (K.drop (K.length - c))).1 ++ lastC (ckW mn bt mx (Z ++ K.take (K.length - c)) [] (K.drop (K.length - c))).2 := by
      intro Z i hi hci
      have hfl := spl_flat mn bt mx (Z ++ K)
      have hle := stAt_le (spl mn bt mx (Z ++ K)) (i + 1)
      rw [hfl] at hle
      rw [tlK_drop _ _ c i (by rw [hfl]) (fun j hj => hmn _ j hj) hi hci _ (Nat.le_refl _), List.take_length]
      have hlt : i + 1 < (spl mn bt mx (Z ++ K)).length := by
        apply Classical.byContradiction
        intro hn
        have := stAt_all (spl mn bt mx (Z ++ K)) (i + 1) (by omega)
        rw [hfl] at this; omega
      rw [spl_drop mn bt mx (Z ++ K) (i + 1) (by omega) hlt]
      have hs : stAt (spl mn bt mx (Z ++ K)) (i + 1) = Z.length + (K.length - c) := by rw [List.length_append] at hci hle; omega
      rw [hs, List.take_append, List.drop_append, List.take_of_length_le (by omega), List.drop_of_length_le (by omega), List.nil_append, Nat.add_sub_cancel_left]
    rw [key X i hi hci, key Y j hj hcj]
    have hfar : ckW mn bt mx (X ++ K.take (K.length - c)) [] (K.drop (K.length - c)) = ckW mn bt mx (Y ++ K.take (K.length - c)) [] (K.drop (K.length - c)) := by
      apply ckW_far
      intro u
      rw [List.append_assoc, List.append_assoc, fpr_suffix X (K.take (K.length - c) ++ u) (by rw [List.length_append, List.length_take]; omega), fpr_suffix Y (K.take (K.length - c) ++ u) (by rw [List.length_append, List.length_take]; omega)]
    rw [hfar]
end Go.Proofs.Ytnfemofighgenab
