/- The rest of a text's polynomial is its fingerprint: no program's walk. -/
import Derived.Test.YtnfemofighgenabPolyB
import Derived.Test.YtnfemofighgenabChkM
namespace Go.Proofs.Ytnfemofighgenab
set_option linter.unusedVariables false

theorem of_beN (m : Nat) (h0 : m ≠ 0) (l : List UInt8) : ofP m l = pm (beN l) m := by
  have key : ∀ n (l : List UInt8), l.length = n → ofP m l = pm (beN l) m := by
    intro n
    induction n with
    | zero => intro l hl; rw [List.length_eq_zero_iff.1 hl]; show (0 : Nat) = pm 0 m; rw [pm_small (by rw [bl_zero]; exact bl_pos.2 h0)]
    | succ n ih =>
      intro l hl
      rcases List.eq_nil_or_concat l with rfl | ⟨t, b, rfl⟩
      · simp at hl
      · rw [List.concat_eq_append] at hl ⊢
        rw [ofP_snoc, ih t (by simpa using hl), beN_snoc, nxt_pm _ _ _ h0 b.toNat_lt]; rfl
  exact key _ l rfl
/-- The fingerprint behind t bytes, by the last sixteen of them. -/
theorem of_fpr (s : List UInt8) (t fr : Nat) (h : t ≤ s.length) (hf : fr = t - 16) : ofP PR ((s.drop fr).take (t - fr)) = fpr (s.take t) := by
  rw [of_beN PR PR_ne]
  unfold fpr
  rw [beN_L16]
  congr 2
  rw [List.length_take, show min t s.length = t by omega, List.drop_take, ← hf]
end Go.Proofs.Ytnfemofighgenab
