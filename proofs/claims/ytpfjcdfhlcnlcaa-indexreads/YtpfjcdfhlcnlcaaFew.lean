/- Contract of the law's own Few: at most n bytes of a text. -/
import Derived.Test.YtpfjcdfhlcnlcaaRows
import Derived.Test.YtpfjcdfhlcnlcaaBase
import Derived.Test.YtpfjcdfhlcnlcaaBsM
namespace Go.Proofs.Ytpfjcdfhlcnlcaa
open Go.RowKit
set_option linter.unusedVariables false

set_option maxRecDepth 100000 in
set_option maxHeartbeats 400000 in
theorem few_any (s : ByteArray) (n : Int) (w : World) (hn : 0 ≤ n) (hs : s.size ≤ 9223372036854775807) :
    Calls Try.prog 14 #[.string s, .int .i64 n] w fun e w' => e = .returned (.string (s.extract 0 n.toNat)) ∧ w' = w := by
  obtain ⟨m, rfl⟩ := Int.eq_ofNat_of_zero_le hn
  rw [Int.toNat_natCast]
  by_cases h : m < s.size
  · go_enter Try.func14, Try.ntmps14
    go_wp2
    go_ret
    exact ⟨rfl, rfl⟩
  · have HE : Hid (_ = _) := few_all s m (by omega)
    go_enter Try.func14, Try.ntmps14
    go_wp2
    go_ret
    rw [HE.out]
    exact ⟨rfl, rfl⟩
end Go.Proofs.Ytpfjcdfhlcnlcaa
