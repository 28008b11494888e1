/- The element type 'byte', in one closed fact. -/
import Derived.Test.YtpfjcdfhlcnlcaaRows
import Derived.Test.YtpfjcdfhlcnlcaaBase
namespace Go.Proofs.Ytpfjcdfhlcnlcaa
open Go.RowKit
theorem Try.infoU8 : (Try.prog.info? 5).map (fun i => (i.zero, i.size, i.bytes)) = some (some (.int .u8 0), 1, 1) := by kernel_rfl
end Go.Proofs.Ytpfjcdfhlcnlcaa
