/- Contract of layer 10's awake. -/
import Derived.Test.YtnfemofighgenabChkQ
import Derived.Test.YtnfemofighgenabFew
namespace Go.Proofs.Ytnfemofighgenab
open Go.RowKit
set_option linter.unusedVariables false

theorem aw_split : spl 1 0 3 [97, 97, 97, 97] = [[97], [97], [97], [97]] := by decide +kernel
theorem aw_four (W : World) : OS (W.alloc (.cells #[.string ⟨#[97]⟩, .string ⟨#[97]⟩, .string ⟨#[97]⟩, .string ⟨#[97]⟩] 9)) W.heap.size (.slice (some ⟨W.heap.size, 0, none⟩) 4 4) [[97], [97], [97], [97]] :=
  World.ownsRow_lit W #[.string ⟨#[97]⟩, .string ⟨#[97]⟩, .string ⟨#[97]⟩, .string ⟨#[97]⟩] 4 (Nat.le_refl _) (by decide) rfl
theorem split_aw1 (w : World) : Calls Try.prog 14 #[.string ⟨#[97, 97, 97, 97]⟩, .agg #[.int .i64 1, .int .i64 0, .int .i64 3]] w fun e w' => ∃ v, e = .returned (.tuple #[v, .int .i64 0]) ∧ OS w' w.heap.size v [[97], [97], [97], [97]] ∧ Below w.heap.size w w' := by
  refine (split_good ⟨#[97, 97, 97, 97]⟩ 1 0 3 w (by decide) (by decide)).mono ?_
  rintro e w' ⟨v, h1, h2, h3⟩
  exact ⟨v, h1, aw_split ▸ h2, h3⟩
theorem split_aw2 (w : World) : Calls Try.prog 14 #[.string ⟨#[]⟩, .agg #[.int .i64 4, .int .i64 0, .int .i64 3]] w fun e w' => e = .returned (.tuple #[.slice none 0 0, .int .i64 1]) ∧ Below w.heap.size w w' :=
  split_bad ⟨#[]⟩ 4 0 3 w (by decide)
set_option maxRecDepth 100000 in
set_option maxHeartbeats 1000000 in
theorem awake10_any (w : World) : Calls Try.prog 10 #[] w fun e w' => e = .returned (.bool true) ∧ Below w.heap.size w w' := by
  go_enter Try.func10, Try.ntmps10
  go_wp2_with fail
  refine (split_aw1 _).mono ?_
  rintro e w1 ⟨v, rfl, hO1, hB1⟩
  go_wp2_with fail
  refine (split_aw2 _).mono ?_
  rintro e w2 ⟨rfl, hb2⟩
  have hO2 := hO1.below hb2
  have hB2 := hB1.trans (hb2.mono hB1.size)
  go_wp2_with fail
  refine (same_any v _ [[97], [97], [97], [97]] [[97], [97], [97], [97]] _ ?_ (aw_four w2).rs (by decide) (by decide)).mono ?_
  · exact (hO2.below ((Below.refl _ w2).alloc (Nat.le_refl _) _)).rs
  rintro e w3 ⟨rfl, n, rfl⟩
  have hB3 := below_drewN (hB2.alloc hB2.size (.cells #[.string ⟨#[97]⟩, .string ⟨#[97]⟩, .string ⟨#[97]⟩, .string ⟨#[97]⟩] 9)) n
  rw [show sameN [[97], [97], [97], [97]] [[97], [97], [97], [97]] = 0 from rfl]
  clear hO1 hO2
  go_wp2
  go_ret
  exact ⟨rfl, hB3⟩
end Go.Proofs.Ytnfemofighgenab
