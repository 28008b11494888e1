/- Contract of (*bitio.Source).Even. -/
import Derived.Test.YtibnkpfginffhacSrc2
import Derived.Deep.WholeRow
import Derived.Deep.QuietTactic
import Derived.BigQuiet
namespace Go.Proofs.Ytibnkpfginffhac
open Go.RowKit
set_option linter.unusedVariables false

theorem seven_any (g : Nat) (s : ByteArray) (p : Nat) (w : World) (hS : SrcAt w g s p) (hp : p ≤ 4000000000000000000) :
    Calls Try.prog 68 #[.pointer (some ⟨g, 0, none⟩)] w fun e w' => e = .returned (.tuple #[]) ∧ SrcAt w' g s ((p + 7) / 8 * 8) ∧ w.grownBy w' (some g) := by
  have c1 := hS.place
  have f1 := hS.free 1
  have HS : Hid (SrcAt (w.setCell ⟨g, 1, none⟩ (.int .i64 (((p + 7) / 8 * 8 : Nat) : Int))) g s ((p + 7) / 8 * 8)) := hS.set _
  have HG : Hid (w.grownBy (w.setCell ⟨g, 1, none⟩ (.int .i64 (((p + 7) / 8 * 8 : Nat) : Int))) (some g)) := gset (grefl w _) 1 _
  clear hS
  go_enter Try.func68, Try.ntmps68
  go_wp2_with (go_at_call 29; refine (bytesFor_any _ _ (by omega)).mono ?_; rintro e w1 ⟨rfl, rfl⟩)
  exact bodyPost_end (results_none rfl _ _ _) rfl ⟨rfl, HS.out, HG.out⟩
end Go.Proofs.Ytibnkpfginffhac
