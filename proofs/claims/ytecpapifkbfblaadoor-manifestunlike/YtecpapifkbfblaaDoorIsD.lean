/- Contract: digest.Is. -/
import Derived.Test.YtecpapifkbfblaaDoorIdxR
import Derived.Test.YtecpapifkbfblaaDoorUnhex
import Derived.Test.YtecpapifkbfblaaDoorStrR
namespace Go.Proofs.YtecpapifkbfblaaDoor
open Go.RowKit
set_option linter.unusedVariables false

set_option maxRecDepth 100000 in
set_option maxHeartbeats 400000 in
theorem isd_any (l : List UInt8) (w : World) (hs : l.length ≤ 140737488351232) :
    Calls Tryd.prog 53 #[.string (mkB l)] w fun e w' => e = .returned (.bool (isNm l)) ∧ Below w.heap.size w w' := by
  have hz := mkB_size l
  have hd : (mkB l).data.toList = l := rfl
  go_enter Tryd.func53, Tryd.ntmps53
  by_cases h64 : l.length = 64
  · have HB : Hid (isNm l = (unhex (mkB l).data.toList).isSome) := by unfold Hid isNm; rw [hd]; simp [h64]
    rw [h64] at hz
    go_wp2_with (go_at_call 71; refine (unhex_any (mkB l) _ (by rw [mkB_size]; exact hs)).mono ?_; rintro e w1 ⟨rfl, hb1⟩)
    go_ret
    exact ⟨by rw [HB.out]; rfl, hb1⟩
  · have HB : Hid (isNm l = false) := by unfold Hid isNm; simp [h64]
    have hz2 : ¬ (mkB l).size = 64 := by rw [hz]; exact h64
    have hz3 : ((l.length : Int) == 64) = false := by rw [beq_eq_false_iff_ne]; omega
    go_wp2_with fail
    go_ret
    exact ⟨by rw [HB.out]; rfl, Below.refl _ _⟩
end Go.Proofs.YtecpapifkbfblaaDoor
