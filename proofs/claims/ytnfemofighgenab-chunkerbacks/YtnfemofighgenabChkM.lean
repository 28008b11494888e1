/- Texts cut by what stands in them: the fingerprints and the cuts, no program. -/
import Derived.Test.YtnfemofighgenabPolyT
namespace Go.Proofs.Ytnfemofighgenab
set_option linter.unusedVariables false

def PR : Nat := 17349423945073011
def OL : Nat := 3892338706152590
theorem PR_bl : bl PR = 54 := by decide +kernel
theorem PR_ne : PR ≠ 0 := by decide
theorem OL_eq : pm (2 ^ 120) PR = OL := by decide +kernel

/-- The last sixteen bytes of a text, noughts ahead of it. -/
def zs (n : Nat) : List UInt8 := List.replicate n 0
theorem zs_len (n : Nat) : (zs n).length = n := List.length_replicate
def L16 (T : List UInt8) : List UInt8 := (zs 16 ++ T).drop T.length
theorem L16_len (T : List UInt8) : (L16 T).length = 16 := by rw [L16, List.length_drop, List.length_append, zs_len]; omega
theorem L16_nil : L16 [] = zs 16 := rfl
theorem zs_at (n i : Nat) : (zs n).getD i 0 = 0 := by
  unfold zs
  rw [List.getD_eq_getElem?_getD, List.getElem?_replicate]
  split <;> rfl
theorem drop1_at (l : List UInt8) (c : UInt8) (i : Nat) (h : i + 1 < l.length) : (l.drop 1 ++ [c]).getD i 0 = l.getD (i + 1) 0 := by
  rw [List.getD_eq_getElem?_getD, List.getD_eq_getElem?_getD, List.getElem?_append_left (by rw [List.length_drop]; omega), List.getElem?_drop, Nat.add_comm 1 i]
theorem drop1_last (l : List UInt8) (c : UInt8) (i : Nat) (h : i + 1 = l.length) : (l.drop 1 ++ [c]).getD i 0 = c := by
  rw [List.getD_eq_getElem?_getD, List.getElem?_append_right (by rw [List.length_drop]; omega), List.length_drop, show i - (l.length - 1) = 0 by omega]
  rfl
theorem L16_snoc (T : List UInt8) (c : UInt8) : L16 (T ++ [c]) = (L16 T).drop 1 ++ [c] := by
  unfold L16
  rw [← List.append_assoc, List.length_append, List.length_singleton, List.drop_append_of_le_length (by rw [List.length_append, zs_len]; omega), List.drop_drop]
theorem beN_zeros (n : Nat) (T : List UInt8) : beN (zs n ++ T) = beN T := by
  unfold zs
  induction n with
  | zero => simp
  | succ n ih => rw [List.replicate_succ, List.cons_append, beN_cons, ih]; simp
theorem beN_L16 (T : List UInt8) : beN (L16 T) = beN (T.drop (T.length - 16)) := by
  unfold L16
  by_cases h : 16 ≤ T.length
  · rw [List.drop_append, List.drop_of_length_le (by rw [zs_len]; exact h), List.nil_append, zs_len]
  · rw [List.drop_append, zs_len, show (zs 16).drop T.length = zs (16 - T.length) from List.drop_replicate, beN_zeros]
theorem beN_lt (T : List UInt8) : beN T < 2 ^ (8 * T.length) := by
  induction T with
  | nil => simp [beN]
  | cons b T ih =>
    rw [beN_cons, List.length_cons, show 8 * (T.length + 1) = 8 * T.length + 8 by omega, Nat.pow_add]
    have := b.toNat_lt
    have h2 : b.toNat * 2 ^ (8 * T.length) ≤ 255 * 2 ^ (8 * T.length) := Nat.mul_le_mul_right _ (by omega)
    rw [show (2 : Nat) ^ 8 = 256 from rfl]
    omega
/-- The fingerprint behind a text. -/
def fpr (T : List UInt8) : Nat := pm (beN (L16 T)) PR
theorem fpr_lt (T : List UInt8) : bl (fpr T) < 54 := by have := pm_lt (beN (L16 T)) PR PR_ne; rw [PR_bl] at this; exact this
theorem add_xor (a b i : Nat) (h : a < 2 ^ i) : a + b * 2 ^ i = a ^^^ b * 2 ^ i := by
  have := Nat.two_pow_add_eq_or_of_lt h b
  rw [Nat.add_comm, Nat.mul_comm, this]
  apply Nat.eq_of_testBit_eq
  intro j
  rw [Nat.testBit_or, Nat.testBit_xor]
  by_cases hj : j < i
  · have : (2 ^ i * b).testBit j = false := by rw [Nat.testBit_two_pow_mul]; simp; omega
    rw [this]; simp
  · have : a.testBit j = false := Nat.testBit_lt_two_pow (Nat.lt_of_lt_of_le h (Nat.pow_le_pow_right (by decide) (by omega)))
    rw [this]; simp
theorem Cg.byteP {m a b : Nat} (h : Cg m a b) (c : Nat) (hc : c < 256) : Cg m (256 * a + c) (256 * b + c) := by
  have e : ∀ x, 256 * x + c = c ^^^ x * 2 ^ 8 := fun x => by rw [← add_xor c x 8 hc]; omega
  rw [e, e]
  refine Cg.xor (Cg.refl _ _) ?_
  rw [← pow_cm, ← pow_cm]
  exact h.cmr _
/-- The byte that leaves the window leaves with what it brought. -/
theorem fpr_step (T : List UInt8) (c : UInt8) : pm (256 * (fpr T ^^^ tm PR OL ((L16 T).getD 0 0).toNat) + c.toNat) PR = fpr (T ++ [c]) := by
  have hl := L16_len T
  unfold fpr
  rw [L16_snoc]
  match hL : L16 T, hl with
  | b :: r, hl =>
    have hr : r.length = 15 := by simpa using hl
    rw [List.drop_one, List.tail_cons, beN_snoc, List.getD_cons_zero]
    refine pm_eq (Cg.byteP ?_ _ c.toNat_lt) PR_ne
    have hlt := beN_lt r
    rw [beN_cons, hr, show 8 * 15 = 120 from rfl]
    rw [hr] at hlt
    have c1 : Cg PR (pm (beN r + b.toNat * 2 ^ 120) PR) (beN r ^^^ b.toNat * 2 ^ 120) := by
      rw [add_xor _ _ _ hlt]; exact pm_cg _ _
    have c2 : Cg PR (tm PR OL b.toNat) (b.toNat * 2 ^ 120) := by
      refine (tm_cg PR OL b.toNat).trans ?_
      rw [← OL_eq]
      refine ((pm_cg (2 ^ 120) PR).cml b.toNat).trans ?_
      rw [pow_cm]; exact Cg.refl _ _
    have := c1.xor c2
    rw [xor_cancel] at this
    exact this
/-- The window: where each of the last sixteen bytes lies. -/
def WI (T : List UInt8) (win : Nat → UInt8) : Prop := ∀ i, i < 16 → win ((T.length + i) % 16) = (L16 T).getD i 0
theorem WI.start : WI [] (fun _ => 0) := fun i hi => by
  rw [L16_nil, zs_at]
theorem WI.gone {T : List UInt8} {win : Nat → UInt8} (h : WI T win) : win (T.length % 16) = (L16 T).getD 0 0 := by have := h 0 (by omega); simpa using this
theorem WI.step {T : List UInt8} {win : Nat → UInt8} (h : WI T win) (c : UInt8) : WI (T ++ [c]) (fun j => if j = T.length % 16 then c else win j) := by
  intro i hi
  have hl := L16_len T
  rw [L16_snoc, List.length_append, List.length_singleton]
  show (if (T.length + 1 + i) % 16 = T.length % 16 then c else win ((T.length + 1 + i) % 16)) = _
  by_cases h15 : i = 15
  · subst h15
    rw [if_pos (by omega), drop1_last _ _ _ (by rw [hl])]
  · rw [if_neg (by omega), show T.length + 1 + i = T.length + (i + 1) by omega, h (i + 1) (by omega), drop1_at _ _ _ (by rw [hl]; omega)]

/-- Does a chunk of n bytes end here? -/
def endB (mn bt mx : Nat) (T : List UInt8) (n : Nat) : Bool := decide (mx ≤ n) || (decide (mn ≤ n) && (fpr T % 2 ^ bt == 0))
/-- The chunks that end within s, and what is left: T the text ahead, p what no chunk has yet. -/
def ckW (mn bt mx : Nat) : List UInt8 → List UInt8 → List UInt8 → List (List UInt8) × List UInt8
  | _, p, [] => ([], p)
  | T, p, b :: s =>
    if endB mn bt mx (T ++ [b]) (p.length + 1) then ((p ++ [b]) :: (ckW mn bt mx (T ++ [b]) [] s).1, (ckW mn bt mx (T ++ [b]) [] s).2)
    else ckW mn bt mx (T ++ [b]) (p ++ [b]) s
theorem ckW_snoc (mn bt mx : Nat) : ∀ (s T p : List UInt8) (b : UInt8), ckW mn bt mx T p (s ++ [b]) =
    if endB mn bt mx (T ++ s ++ [b]) ((ckW mn bt mx T p s).2.length + 1) then ((ckW mn bt mx T p s).1 ++ [(ckW mn bt mx T p s).2 ++ [b]], []) else ((ckW mn bt mx T p s).1, (ckW mn bt mx T p s).2 ++ [b])
  | [], T, p, b => by simp [ckW]
  | a :: s, T, p, b => by
    rw [List.cons_append, ckW, ckW]
    by_cases h : endB mn bt mx (T ++ [a]) (p.length + 1) = true
    · rw [if_pos h, if_pos h]
      have ih := ckW_snoc mn bt mx s (T ++ [a]) [] b
      rw [ih]
      have e : T ++ a :: s = T ++ [a] ++ s := by simp
      rw [e]
      split <;> simp
    · rw [if_neg h, if_neg h, ckW_snoc mn bt mx s (T ++ [a]) (p ++ [a]) b, show T ++ a :: s = T ++ [a] ++ s by simp]
theorem ckW_append (mn bt mx : Nat) : ∀ (s T p r : List UInt8), ckW mn bt mx T p (s ++ r) = ((ckW mn bt mx T p s).1 ++ (ckW mn bt mx (T ++ s) (ckW mn bt mx T p s).2 r).1, (ckW mn bt mx (T ++ s) (ckW mn bt mx T p s).2 r).2)
  | [], T, p, r => by simp [ckW]
  | a :: s, T, p, r => by
    have e : T ++ a :: s = T ++ [a] ++ s := by simp
    rw [List.cons_append, ckW, ckW]
    by_cases h : endB mn bt mx (T ++ [a]) (p.length + 1) = true
    · rw [if_pos h, if_pos h, ckW_append mn bt mx s (T ++ [a]) [] r, e]; simp
    · rw [if_neg h, if_neg h, ckW_append mn bt mx s (T ++ [a]) (p ++ [a]) r, e]
/-- What is left is shorter than Max. -/
theorem ckW_left (mn bt mx : Nat) (hmx : 0 < mx) : ∀ (s T p : List UInt8), p.length < mx → (ckW mn bt mx T p s).2.length < mx
  | [], T, p, h => by simpa [ckW] using h
  | a :: s, T, p, h => by
    rw [ckW]
    split
    · exact ckW_left mn bt mx hmx s _ [] (by simpa using hmx)
    · rename_i hn
      refine ckW_left mn bt mx hmx s _ _ ?_
      unfold endB at hn
      simp at hn
      simp; omega
/-- Put together they are the text. -/
theorem ckW_flat (mn bt mx : Nat) : ∀ (s T p : List UInt8), (ckW mn bt mx T p s).1.flatten ++ (ckW mn bt mx T p s).2 = p ++ s
  | [], T, p => by simp [ckW]
  | a :: s, T, p => by
    rw [ckW]
    split
    · simp only [List.flatten_cons, List.append_assoc]
      rw [ckW_flat mn bt mx s (T ++ [a]) []]; simp
    · rw [ckW_flat mn bt mx s (T ++ [a]) (p ++ [a])]; simp
/-- Each chunk has at least Min bytes and at most Max. -/
theorem ckW_sizes (mn bt mx : Nat) (hmn : 1 ≤ mn) (hmx : mn ≤ mx) : ∀ (s T p : List UInt8), p.length < mx → ∀ x ∈ (ckW mn bt mx T p s).1, mn ≤ x.length ∧ x.length ≤ mx
  | [], T, p, h, x, hx => by simp [ckW] at hx
  | a :: s, T, p, h, x, hx => by
    rw [ckW] at hx
    split at hx
    · rename_i he
      simp only [List.mem_cons] at hx
      rcases hx with rfl | hx
      · unfold endB at he
        simp at he
        simp; omega
      · exact ckW_sizes mn bt mx hmn hmx s _ [] (by simp; omega) x hx
    · rename_i hn
      refine ckW_sizes mn bt mx hmn hmx s _ _ ?_ x hx
      unfold endB at hn
      simp at hn
      simp; omega
/-- The last chunk. -/
def lastC (p : List UInt8) : List (List UInt8) := if p = [] then [] else [p]
/-- A text's chunks. -/
def spl (mn bt mx : Nat) (s : List UInt8) : List (List UInt8) := (ckW mn bt mx [] [] s).1 ++ lastC (ckW mn bt mx [] [] s).2
theorem lastC_flat (p : List UInt8) : (lastC p).flatten = p := by unfold lastC; split <;> simp_all
theorem spl_flat (mn bt mx : Nat) (s : List UInt8) : (spl mn bt mx s).flatten = s := by
  have := ckW_flat mn bt mx s [] []
  unfold spl
  rw [List.flatten_append, lastC_flat, this]; rfl
/-- The error of a configuration. -/
def errC (mn bt mx : Int) : Nat := if mn < 1 ∨ mx < mn ∨ bt < 0 ∨ 20 < bt then 1 else if 4096 < mx then 2 else 0
end Go.Proofs.Ytnfemofighgenab
