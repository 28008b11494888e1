/- The document's least is what the package-merge way costs: plain mathematics. -/
import Derived.Test.YtclmjopppaknjaaPkgS
namespace Go.Proofs.Ytclmjopppaknjaa
open Go.RowKit
set_option linter.unusedVariables false

theorem dot_sum : ∀ (l r : List Nat), l.length = r.length → dot l r = sumK (fun j => l.getD j 0 * r.getD j 0) l.length
  | [], [], _ => rfl
  | [], b :: r, h => by simp at h
  | a :: l, [], h => by simp at h
  | a :: l, b :: r, h => by
    have ih := dot_sum l r (by simpa using h)
    unfold dot at ih ⊢
    rw [List.zipWith_cons_cons, List.sum_cons, ih, List.length_cons, sumK_cons]
    rfl
theorem map_sum (g : Nat → Nat) : ∀ l : List Nat, (l.map g).sum = sumK (fun j => g (l.getD j 0)) l.length
  | [] => rfl
  | a :: l => by
    rw [List.map_cons, List.sum_cons, map_sum g l, List.length_cons, sumK_cons]
    rfl
theorem sum_rev (l : List Nat) : l.reverse.sum = l.sum := by
  induction l with
  | nil => rfl
  | cons a l ih => rw [List.reverse_cons, List.sum_append, ih, List.sum_cons]; simp; omega
theorem dot_rev (l r : List Nat) (h : l.length = r.length) : dot l.reverse r.reverse = dot l r := by
  unfold dot
  rw [← List.reverse_zipWith h, sum_rev]
theorem getD_rev (l : List Nat) (j : Nat) (h : j < l.length) : l.reverse.getD j 0 = l.getD (l.length - 1 - j) 0 := by
  rw [List.getD_eq_getElem?_getD, List.getElem?_reverse h, List.getD_eq_getElem?_getD]
theorem rise_of : ∀ (l : List Nat), (∀ i j, i < j → j < l.length → l.getD i 0 ≤ l.getD j 0) → Rising l
  | [], _ => trivial
  | a :: l, h => by
    refine ⟨fun v hv => ?_, rise_of l fun i j h1 h2 => by simpa using h (i + 1) (j + 1) (by omega) (by simpa using h2)⟩
    obtain ⟨j, hj, rfl⟩ := List.mem_iff_getElem.1 hv
    have := h 0 (j + 1) (by omega) (by simpa using hj)
    simpa [List.getD_eq_getElem?_getD, List.getElem?_eq_getElem hj] using this
theorem rise_get : ∀ (l : List Nat), Rising l → ∀ i j, i ≤ j → j < l.length → l.getD i 0 ≤ l.getD j 0
  | [], _, i, j, _, h => by simp at h
  | a :: l, hR, 0, j, _, h => by
    refine hR.cons_le _ ?_
    rw [List.getD_eq_getElem?_getD, List.getElem?_eq_getElem h]
    exact List.getElem_mem h
  | a :: l, hR, i + 1, 0, h1, h => by omega
  | a :: l, hR, i + 1, j + 1, h1, h => by
    have := rise_get l hR.2 i j (by omega) (by simpa using h)
    simpa using this
theorem outK_dec (ws : List Nat) {j k : Nat} (h : j ≤ k) : ∀ i c, outK ws k i c ≤ outK ws j i c
  | 0, c => Nat.le_refl _
  | i + 1, c => by
    have := outK_dec ws h i (nextC ws i c)
    rw [outK, outK]
    by_cases h1 : k < ones (rowK ws (i + 1)) c
    · rw [if_pos h1, if_pos (by omega)]; omega
    · rw [if_neg h1]; omega
/-- The lengths as a row. -/
def lenR (ws : List Nat) (m : Nat) : List Nat := (List.range ws.length).map (lenK ws m)
theorem lenR_len (ws : List Nat) (m : Nat) : (lenR ws m).length = ws.length := by simp [lenR]
theorem lenR_at (ws : List Nat) (m j : Nat) (h : j < ws.length) : (lenR ws m).getD j 0 = lenK ws m j := by simp [lenR, List.getD_eq_getElem?_getD, h]
theorem lst_pkg {ws : List Nat} (hR : Rising ws) {m : Nat} (h1 : 1 ≤ m) (h2 : ws.length ≤ 2 ^ m) (h0 : 2 ≤ ws.length) : lst m m ws.reverse 2 = ((sumK (fun j => ws.getD j 0 * lenK ws m j) ws.length : Nat) : Int) := by
  have hm1 : m + 1 - m = 1 := by omega
  have hpow : 2 * 2 ^ (m - 1) = 2 ^ m := by rw [Nat.mul_comm, ← Nat.pow_succ]; congr 1; omega
  have hA : Asn m (m + 1 - m) ws.reverse.length (lenR ws m).reverse 2 := by
    rw [hm1, List.length_reverse]
    refine ⟨by rw [List.length_reverse, lenR_len], rise_of _ fun i j hij hj => ?_, fun x hx => ?_, fun x hx => ?_, ?_⟩
    · rw [List.length_reverse, lenR_len] at hj
      rw [getD_rev _ _ (by rw [lenR_len]; omega), getD_rev _ _ (by rw [lenR_len]; omega), lenR_len, lenR_at _ _ _ (by omega), lenR_at _ _ _ (by omega)]
      exact outK_dec ws (by omega) _ _
    · obtain ⟨j, hj, rfl⟩ := List.mem_map.1 (List.mem_reverse.1 hx)
      exact lenK_pos hR h0 h1 h2 (List.mem_range.1 hj)
    · obtain ⟨j, hj, rfl⟩ := List.mem_map.1 (List.mem_reverse.1 hx)
      exact lenK_le _ _ _
    · rw [hpow, List.map_reverse, sum_rev, map_sum, lenR_len, sumK_congr (g := fun j => 2 ^ (m - lenK ws m j)) _ (fun j hj => by show 2 ^ (m - _) = _; rw [lenR_at _ _ _ hj])]
      exact lenK_whole hR (by omega) h1 h2
  have hb := lst_best m m (Nat.le_refl _) _ _ _ hA
  rw [dot_rev _ _ (by rw [lenR_len]), dot_sum _ _ (by rw [lenR_len]), sumK_congr (g := fun j => ws.getD j 0 * lenK ws m j) _ (fun j hj => by show _ * _ = _; rw [lenR_at _ _ _ hj])] at hb
  obtain ⟨lens, hS, he⟩ := lst_sound m m (Nat.le_refl _) _ _ hb.1
  rw [hm1, List.length_reverse] at hS
  have hl := hS.size
  have hle : sumK (fun j => ws.getD j 0 * lenK ws m j) ws.length ≤ dot ws.reverse lens := by
    have e1 : dot ws.reverse lens = sumK (fun j => ws.getD j 0 * lens.reverse.getD j 0) ws.length := by
      rw [← dot_sum _ _ (by rw [List.length_reverse, hl]), ← dot_rev ws lens.reverse (by rw [List.length_reverse, hl]), List.reverse_reverse]
    rw [e1]
    refine pkg_least hR h1 h2 (by omega) (fun j => lens.reverse.getD j 0) (fun j k hjk hk => ?_) (fun j hj => ?_) ?_
    · show lens.reverse.getD k 0 ≤ lens.reverse.getD j 0
      rw [getD_rev _ _ (by omega), getD_rev _ _ (by omega)]
      exact rise_get _ hS.rise _ _ (by omega) (by omega)
    · show lens.reverse.getD j 0 ≤ m
      refine hS.hi _ ?_
      rw [getD_rev _ _ (by omega), List.getD_eq_getElem?_getD, List.getElem?_eq_getElem (by omega)]
      exact List.getElem_mem _
    · have := hS.sum
      rw [hpow] at this
      rw [← this, ← sum_rev, ← List.map_reverse, map_sum, List.length_reverse, hl]
  omega
end Go.Proofs.Ytclmjopppaknjaa
