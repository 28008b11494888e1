/- Contracts of huff.checkCounts, cmp.Compare, and of the order that huff.rising sorts by. -/
import Derived.Test.YtclmjopppaknjaaHBest
namespace Go.Proofs.Ytclmjopppaknjaa
open Go.RowKit
set_option linter.unusedVariables false
set_option linter.unusedSimpArgs false

/-- Below, above or alike. -/
def cmpZ (a b : Int) : Int := if a < b then -1 else if b < a then 1 else 0
set_option maxRecDepth 100000 in
theorem isNaN_any (a : Int) (w : World) : Calls Try.prog 66 #[.int .i64 a] w fun e w' => e = .returned (.bool false) ∧ w' = w := by
  go_enter Try.func66, Try.ntmps66
  have h : (a != a) = false := by simp
  go_wp2
  go_ret
  exact ⟨rfl, rfl⟩
set_option maxRecDepth 100000 in
theorem compare_any (a b : Int) (w : World) : Calls Try.prog 50 #[.int .i64 a, .int .i64 b] w fun e w' => e = .returned (.int .i64 (cmpZ a b)) ∧ w' = w := by
  go_enter Try.func50, Try.ntmps50
  go_wp2_with fail
  refine (isNaN_any a _).mono ?_
  rintro e w1 ⟨rfl, h1⟩
  obtain rfl : w = w1 := h1.symm
  go_wp2_with fail
  refine (isNaN_any b _).mono ?_
  rintro e w2 ⟨rfl, h2⟩
  obtain rfl : w = w2 := h2.symm
  clear h1 h2
  by_cases hab : a < b
  · have HE : Hid (cmpZ a b = -1) := by unfold Hid cmpZ; rw [if_pos hab]
    go_wp2
    go_ret
    exact ⟨by rw [HE.out]; rfl, rfl⟩
  · by_cases hba : b < a
    · have HE : Hid (cmpZ a b = 1) := by unfold Hid cmpZ; rw [if_neg hab, if_pos hba]
      go_wp2
      go_ret
      exact ⟨by rw [HE.out]; rfl, rfl⟩
    · have HE : Hid (cmpZ a b = 0) := by unfold Hid cmpZ; rw [if_neg hab, if_neg hba]
      go_wp2
      go_ret
      exact ⟨by rw [HE.out]; rfl, rfl⟩
/-- The error of Lengths that each number tells by itself. -/
def chkC (zs : List Int) (most : Int) : Nat := if 320 < zs.length then 2 else if most < 1 ∨ 15 < most then 1 else if ∃ z ∈ zs, z < 0 ∨ 1000000 < z then 1 else 0
end Go.Proofs.Ytclmjopppaknjaa
