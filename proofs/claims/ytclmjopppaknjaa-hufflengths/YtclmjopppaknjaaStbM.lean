/- Pure: a row that is sorted in blocks, and what merging two blocks side by side makes of it. -/
import Derived.Test.YtclmjopppaknjaaHRis1
namespace Go.Proofs.Ytclmjopppaknjaa
open Go.RowKit Go.Shelf Go.Lib Go.Sort
set_option linter.unusedVariables false
set_option linter.unusedSimpArgs false
variable {N : Nat} [Inhabited (Fin N)]

/-- Sorted within each block of s places, from lo to hi. -/
def SBk (lt : Fin N → Fin N → Bool) (s lo hi : Nat) (d : Array (Fin N)) : Prop := ∀ i j, lo ≤ i → i < j → j < hi → i / s = j / s → lt d[j]! d[i]! = false
theorem blk_of {s q i : Nat} (hs : 0 < s) (h1 : q * s ≤ i) (h2 : i < q * s + s) : i / s = q := by
  have a : q ≤ i / s := (Nat.le_div_iff_mul_le hs).2 h1
  have b : i / s < q + 1 := (Nat.div_lt_iff_lt_mul hs).2 (by rw [Nat.succ_mul]; exact h2)
  omega
theorem blk_lt {s q i : Nat} (hs : 0 < s) (h : i < q * s) : i / s < q := (Nat.div_lt_iff_lt_mul hs).2 h
theorem SBk.sorted {lt : Fin N → Fin N → Bool} {s lo hi q b : Nat} {d : Array (Fin N)} (h : SBk lt s lo hi d) (hs : 0 < s) (hl : lo ≤ q * s) (hb : b ≤ q * s + s) (hh : b ≤ hi) : SortedIn lt (q * s) b d :=
  fun i j h1 h2 h3 => h i j (by omega) h2 (by omega) (by rw [blk_of hs h1 (by omega), blk_of hs (show q * s ≤ j by omega) (by omega)])
theorem SBk.keep {lt : Fin N → Fin N → Bool} {s lo hi a b : Nat} {d d' : Array (Fin N)} (h : SBk lt s lo hi d) (P : PermIn a b d d') (hk : hi ≤ a ∨ b ≤ lo) : SBk lt s lo hi d' := by
  intro i j h1 h2 h3 h4
  rw [P.2.1 i (by omega), P.2.1 j (by omega)]; exact h i j h1 h2 h3 h4
/-- One block more. -/
theorem SBk.more {lt : Fin N → Fin N → Bool} {s q b : Nat} {d : Array (Fin N)} (hs : 0 < s) (h : SBk lt s 0 (q * s) d) (hb : b ≤ q * s + s) (hS : SortedIn lt (q * s) b d) : SBk lt s 0 b d := by
  intro i j _ h2 h3 h4
  by_cases c1 : j < q * s
  · exact h i j (by omega) h2 c1 h4
  · by_cases c2 : i < q * s
    · have := blk_lt hs c2
      rw [blk_of hs (show q * s ≤ j by omega) (by omega)] at h4
      omega
    · exact hS i j (by omega) h2 h3
theorem SBk.whole {lt : Fin N → Fin N → Bool} {s n : Nat} {d : Array (Fin N)} (h : SBk lt s 0 n d) (hs : n ≤ s) : SortedIn lt 0 n d := by
  intro i j h1 h2 h3
  exact h i j h1 h2 h3 (by rw [Nat.div_eq_of_lt (by omega), Nat.div_eq_of_lt (by omega)])
theorem SBk.later {lt : Fin N → Fin N → Bool} {s lo lo' hi : Nat} {d : Array (Fin N)} (h : SBk lt s lo hi d) (hl : lo ≤ lo') : SBk lt s lo' hi d :=
  fun i j h1 h2 h3 h4 => h i j (by omega) h2 h3 h4
end Go.Proofs.Ytclmjopppaknjaa
