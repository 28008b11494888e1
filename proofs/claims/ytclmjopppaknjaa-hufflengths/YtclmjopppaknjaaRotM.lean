/- Pure: exchanges and turns of stretches of a row, as moves of places. -/
import Derived.Test.YtclmjopppaknjaaHSwp
namespace Go.Proofs.Ytclmjopppaknjaa
open Go.RowKit Go.Shelf Go.Lib Go.Sort
set_option linter.unusedVariables false
set_option linter.unusedSimpArgs false
variable {N : Nat} [Inhabited (Fin N)]

/-- Where the cell at place k comes from when n places from a are exchanged with those from b. -/
def swI (a b n k : Nat) : Nat := if a ≤ k ∧ k < a + n then k + (b - a) else if b ≤ k ∧ k < b + n then k - (b - a) else k
/-- Where the cell at place k comes from when [a, m) and [m, b) change places. -/
def rotI (a m b k : Nat) : Nat := if a ≤ k ∧ k < a + (b - m) then k + (m - a) else if a + (b - m) ≤ k ∧ k < b then k - (b - m) else k
theorem swp_at (d : Array (Fin N)) (i j k : Nat) (hi : i < d.size) (hj : j < d.size) : (swp d i j)[k]! = if k = j then d[i]! else if k = i then d[j]! else d[k]! := by
  unfold swp
  by_cases h1 : k = j
  · subst h1; rw [if_pos rfl, getElem!_set_same _ _ _ (by simpa using hj)]
  · rw [if_neg h1, getElem!_set_other _ _ _ _ h1]
    by_cases h2 : k = i
    · subst h2; rw [if_pos rfl, getElem!_set_same _ _ _ hi]
    · rw [if_neg h2, getElem!_set_other _ _ _ _ h2]
theorem swR_at (d : Array (Fin N)) (a b : Nat) : ∀ n, a + n ≤ b → b + n ≤ d.size → ∀ k, (swR d a b n)[k]! = d[swI a b n k]!
  | 0, _, _, k => by
    rw [swR]; congr 1; unfold swI; split <;> (try split) <;> omega
  | n + 1, h1, h2, k => by
    rw [swR, swp_at _ _ _ _ (by rw [swR_size]; omega) (by rw [swR_size]; omega)]
    have ih := swR_at d a b n (by omega) (by omega)
    by_cases e1 : k = b + n
    · rw [if_pos e1, ih]; congr 1; unfold swI; subst e1
      rw [if_neg (by omega), if_neg (by omega), if_neg (by omega), if_pos (by omega)]; omega
    · rw [if_neg e1]
      by_cases e2 : k = a + n
      · rw [if_pos e2, ih]; congr 1; unfold swI; subst e2
        rw [if_neg (by omega), if_neg (by omega), if_pos (by omega)]; omega
      · rw [if_neg e2, ih]; congr 1; unfold swI
        by_cases c1 : a ≤ k ∧ k < a + n
        · rw [if_pos c1, if_pos (by omega)]
        · rw [if_neg c1, if_neg (show ¬ (a ≤ k ∧ k < a + (n + 1)) by omega)]
          by_cases c2 : b ≤ k ∧ k < b + n
          · rw [if_pos c2, if_pos (by omega)]
          · rw [if_neg c2, if_neg (by omega)]
theorem swR_perm (d : Array (Fin N)) (a b lo hi : Nat) (ha : lo ≤ a) (hb : lo ≤ b) (hs : hi ≤ d.size) : ∀ n, a + n ≤ hi → b + n ≤ hi → PermIn lo hi d (swR d a b n)
  | 0, _, _ => permIn_refl _ _ _
  | n + 1, h1, h2 => permIn_trans _ _ _ _ _ (swR_perm d a b lo hi ha hb hs n (by omega) (by omega)) (swp_permIn _ lo hi _ _ (by omega) (by omega) (by omega) (by omega) (by rw [swR_size]; exact hs))
/-- d' is d with [a, m) and [m, b) having changed places. -/
def Rot (d d' : Array (Fin N)) (a m b : Nat) : Prop := d'.size = d.size ∧ ∀ k, d'[k]! = d[rotI a m b k]!
theorem rot_more (m i j k : Nat) (hj : 0 < j) (hij : j < i) (him : i ≤ m) : swI (m - i) m j (rotI (m - (i - j)) m (m + j) k) = rotI (m - i) m (m + j) k := by
  unfold rotI
  split
  · unfold swI; split
    · split <;> (try split) <;> omega
    · split
      · split <;> (try split) <;> omega
      · split <;> (try split) <;> omega
  · split
    · unfold swI; split
      · split <;> (try split) <;> omega
      · split
        · split <;> (try split) <;> omega
        · split <;> (try split) <;> omega
    · unfold swI; split
      · split <;> (try split) <;> omega
      · split
        · split <;> (try split) <;> omega
        · split <;> (try split) <;> omega
theorem rot_less (m i j k : Nat) (hi : 0 < i) (hij : i < j) (him : i ≤ m) : swI (m - i) (m + j - i) i (rotI (m - i) m (m + (j - i)) k) = rotI (m - i) m (m + j) k := by
  unfold rotI
  split
  · unfold swI; split
    · split <;> (try split) <;> omega
    · split
      · split <;> (try split) <;> omega
      · split <;> (try split) <;> omega
  · split
    · unfold swI; split
      · split <;> (try split) <;> omega
      · split
        · split <;> (try split) <;> omega
        · split <;> (try split) <;> omega
    · unfold swI; split
      · split <;> (try split) <;> omega
      · split
        · split <;> (try split) <;> omega
        · split <;> (try split) <;> omega
theorem rot_same (m i k : Nat) (hi : 0 < i) (him : i ≤ m) : swI (m - i) m i k = rotI (m - i) m (m + i) k := by
  unfold swI rotI
  split <;> (try split) <;> (try split) <;> (try split) <;> omega
end Go.Proofs.Ytclmjopppaknjaa
