/- Inflate of a small stream. -/
import Derived.Test.YtibnkpfginffhacAwkP
namespace Go.Proofs.Ytibnkpfginffhac
open Go.RowKit
set_option linter.unusedVariables false

theorem aw_inf (w : World) : Calls Try.prog 16 #[.string ⟨#[75, 4, 0]⟩, .int .i64 0, .int .i64 9] w fun e w' => e = .returned (.tuple #[.string ⟨#[97]⟩, .int .i64 3, .int .i64 0]) ∧ Below w.heap.size w w' := by
  refine (inflate_good sA sA 0 9 _ w (Nat.zero_le _) (by decide) (by decide) awSA awA).mono ?_
  rintro e w1 (⟨l, q, hr, rfl, _, hb⟩ | ⟨er, hr, _⟩)
  · simp only [Except.ok.injEq, Prod.mk.injEq] at hr
    obtain ⟨rfl, rfl⟩ := hr
    rw [awE]
    exact ⟨rfl, hb⟩
  · cases hr
end Go.Proofs.Ytibnkpfginffhac
