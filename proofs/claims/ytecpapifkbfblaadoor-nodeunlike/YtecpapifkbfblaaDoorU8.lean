/- The element type 'byte', in one closed fact. -/
import Derived.Test.YtecpapifkbfblaaDoorRows
import Derived.Test.YtecpapifkbfblaaDoorBase
namespace Go.Proofs.YtecpapifkbfblaaDoor
open Go.RowKit
theorem Tryd.infoU8 : (Tryd.prog.info? 5).map (fun i => (i.zero, i.size, i.bytes)) = some (some (.int .u8 0), 1, 1) := by kernel_rfl
end Go.Proofs.YtecpapifkbfblaaDoor
