/- No decreasing lengths whose parts come to a whole cost less than those of the package-merge way; what the document tries. -/
import Derived.Test.YtclmjopppaknjaaPkgO
namespace Go.Proofs.Ytclmjopppaknjaa
open Go.RowKit
set_option linter.unusedVariables false

theorem sumK_comm (f : Nat → Nat → Nat) (n : Nat) : ∀ m, sumK (fun i => sumK (fun j => f i j) n) m = sumK (fun j => sumK (fun i => f i j) m) n
  | 0 => by
    rw [sumK, sumK_congr (f := fun j => sumK (fun i => f i j) 0) (g := fun _ => 0) n (fun j _ => rfl), sumK_const]; omega
  | m + 1 => by
    rw [sumK, sumK_comm f n m, ← sumK_add]
    exact sumK_congr n fun j _ => rfl
theorem sumK_mulL (a : Nat) (f : Nat → Nat) : ∀ n, sumK (fun j => a * f j) n = a * sumK f n
  | 0 => by simp [sumK]
  | n + 1 => by rw [sumK, sumK, sumK_mulL a f n, Nat.mul_add]
theorem sumK_le1 (f : Nat → Nat) (hf : ∀ j, f j ≤ 1) : ∀ n, sumK f n ≤ n
  | 0 => Nat.le_refl _
  | n + 1 => by have := sumK_le1 f hf n; have := hf n; rw [sumK]; omega
/-- So many meet p: just the first ones do. -/
theorem cnt_down (p : Nat → Prop) [DecidablePred p] : ∀ n, (∀ j k, j ≤ k → k < n → p k → p j) → ∀ j, j < n → (j < sumK (fun j => if p j then 1 else 0) n ↔ p j)
  | 0, _, j, hj => by omega
  | n + 1, h, j, hj => by
    have ih := cnt_down p n (fun a b h1 h2 h3 => h a b h1 (by omega) h3)
    have hle := sumK_le1 (fun j => if p j then 1 else 0) (fun j => by show (if p j then 1 else 0) ≤ 1; split <;> omega) n
    rw [sumK]
    by_cases hp : p n
    · rw [if_pos hp]
      have hall : n ≤ sumK (fun j => if p j then 1 else 0) n := by
        cases n with
        | zero => omega
        | succ n => have := (ih n (by omega)).2 (h n (n + 1) (by omega) (by omega) hp); omega
      constructor
      · intro _; exact h j n (by omega) (by omega) hp
      · intro _; omega
    · rw [if_neg hp, Nat.add_zero]
      by_cases e : j = n
      · subst e
        constructor
        · intro q; omega
        · intro q; exact absurd q hp
      · exact ih j (by omega)
theorem geo (k : Nat) : ∀ m, k ≤ m → sumK (fun i => if k ≤ i then 2 ^ i else 0) m + 2 ^ k = 2 ^ m
  | 0, h => by have : k = 0 := by omega
               subst this; rfl
  | m + 1, h => by
    by_cases e : k = m + 1
    · subst e
      rw [sumK_congr (g := fun _ => 0) _ (fun i hi => if_neg (by omega)), sumK_const]; omega
    · have ih := geo k m (by omega)
      rw [sumK, if_pos (by omega), Nat.pow_succ]; omega
theorem cntFrom (a k : Nat) : ∀ m, k ≤ m → sumK (fun i => if k ≤ i then a else 0) m = a * (m - k)
  | 0, h => by simp [sumK]
  | m + 1, h => by
    by_cases e : k = m + 1
    · subst e
      rw [sumK_congr (g := fun _ => 0) _ (fun i hi => if_neg (by omega)), sumK_const]; simp
    · have ih := cntFrom a k m (by omega)
      rw [sumK, if_pos (by omega), ih, show m + 1 - k = (m - k) + 1 by omega, Nat.mul_succ]
theorem totW_sum (ws : List Nat) (s : Nat → Nat) : ∀ m, totW ws s m = sumK (fun i => preN ws (s (i + 1))) m
  | 0 => rfl
  | m + 1 => by rw [totW, totW_sum ws s m, sumK]; omega
theorem capC_div (s : Nat → Nat) : ∀ i, capC s (i + 1) = sumK (fun r => s (r + 1) * 2 ^ r) (i + 1) / 2 ^ i
  | 0 => by simp [capC, sumK]
  | i + 1 => by
    have ih := capC_div s i
    have e : sumK (fun r => s (r + 1) * 2 ^ r) (i + 1 + 1) = sumK (fun r => s (r + 1) * 2 ^ r) (i + 1) + s (i + 1 + 1) * 2 ^ (i + 1) := rfl
    rw [capC, ih, e, Nat.div_div_eq_div_mul, Nat.add_mul_div_right _ _ (Nat.two_pow_pos _), show 2 ^ i * 2 = 2 ^ (i + 1) from rfl]
    omega
/-- How many stand by themselves in row r. -/
def sR (l : Nat → Nat) (n m r : Nat) : Nat := sumK (fun j => if m + 1 ≤ l j + r then 1 else 0) n
theorem sR_lt (l : Nat → Nat) (n m r : Nat) (hd : ∀ j k, j ≤ k → k < n → l k ≤ l j) (j : Nat) (hj : j < n) : j < sR l n m r ↔ m + 1 ≤ l j + r :=
  cnt_down (fun j => m + 1 ≤ l j + r) n (fun a b h1 h2 h3 => by have := hd a b h1 h2; omega) j hj
/-- Decreasing lengths whose parts come to a whole cost at least as much. -/
theorem pkg_least {ws : List Nat} (hR : Rising ws) {m : Nat} (h1 : 1 ≤ m) (h2 : ws.length ≤ 2 ^ m) (h0 : 1 ≤ ws.length) (l : Nat → Nat) (hd : ∀ j k, j ≤ k → k < ws.length → l k ≤ l j) (hm : ∀ j, j < ws.length → l j ≤ m)
    (hK : sumK (fun j => 2 ^ (m - l j)) ws.length = 2 ^ m) : sumK (fun j => ws.getD j 0 * lenK ws m j) ws.length ≤ sumK (fun j => ws.getD j 0 * l j) ws.length := by
  obtain ⟨i, rfl⟩ : ∃ i, m = i + 1 := ⟨m - 1, by omega⟩
  have hs : ∀ r, sR l ws.length (i + 1) r ≤ ws.length := fun r => sumK_le1 _ (fun j => by show (if _ then 1 else 0) ≤ 1; split <;> omega) _
  have hcap : 2 * ws.length - 2 ≤ capC (sR l ws.length (i + 1)) (i + 1) := by
    rw [capC_div]
    have e : sumK (fun r => sR l ws.length (i + 1) (r + 1) * 2 ^ r) (i + 1) + 2 ^ (i + 1) = ws.length * 2 ^ (i + 1) := by
      have e1 : sumK (fun r => sR l ws.length (i + 1) (r + 1) * 2 ^ r) (i + 1) = sumK (fun j => sumK (fun r => if i + 1 - l j ≤ r then 2 ^ r else 0) (i + 1)) ws.length := by
        rw [← sumK_comm]
        refine sumK_congr _ fun r _ => ?_
        unfold sR
        rw [Nat.mul_comm, ← sumK_mulL]
        refine sumK_congr _ fun j hj => ?_
        by_cases q : i + 1 - l j ≤ r
        · rw [if_pos q, if_pos (by omega)]; omega
        · rw [if_neg q, if_neg (by omega)]; omega
      have e3 : sumK (fun j => sumK (fun r => if i + 1 - l j ≤ r then 2 ^ r else 0) (i + 1) + 2 ^ (i + 1 - l j)) ws.length = ws.length * 2 ^ (i + 1) := by
        rw [sumK_congr (g := fun _ => 2 ^ (i + 1)) _ (fun j hj => geo (i + 1 - l j) (i + 1) (by omega)), sumK_const]
      rw [sumK_add, hK] at e3
      rw [e1]; exact e3
    rw [Nat.le_div_iff_mul_le (Nat.two_pow_pos i)]
    have e2 : (2 * ws.length - 2) * 2 ^ i + 2 ^ (i + 1) = ws.length * 2 ^ (i + 1) := by
      obtain ⟨n, hn⟩ : ∃ n, ws.length = n + 1 := ⟨ws.length - 1, by omega⟩
      rw [hn, show 2 * (n + 1) - 2 = n * 2 by omega, Nat.mul_assoc, Nat.mul_comm 2 (2 ^ i), ← Nat.pow_succ, Nat.succ_mul]
    omega
  have hcost : totW ws (sR l ws.length (i + 1)) (i + 1) = sumK (fun j => ws.getD j 0 * l j) ws.length := by
    rw [totW_sum]
    have e1 : sumK (fun r => preN ws (sR l ws.length (i + 1) (r + 1))) (i + 1) = sumK (fun j => sumK (fun r => if i + 1 - l j ≤ r then ws.getD j 0 else 0) (i + 1)) ws.length := by
      rw [← sumK_comm]
      refine sumK_congr _ fun r _ => ?_
      rw [← sumK_pre ws _ (hs (r + 1))]
      refine sumK_congr _ fun j hj => ?_
      have := sR_lt l ws.length (i + 1) (r + 1) hd j hj
      by_cases q : i + 1 - l j ≤ r
      · rw [if_pos q, if_pos (this.2 (by omega))]
      · rw [if_neg q, if_neg (fun h => q (by have := this.1 h; omega))]
    rw [e1]
    refine sumK_congr _ fun j hj => ?_
    have := hm j hj
    rw [cntFrom _ _ _ (by omega), show i + 1 - (i + 1 - l j) = l j by omega]
  rw [cost_len h1 h2, ← hcost]
  exact row_least hR hs (i + 1) _ hcap
end Go.Proofs.Ytclmjopppaknjaa
