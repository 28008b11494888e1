/- The element type 'byte', in one closed fact. -/
import Derived.Test.YthmijkpkegdcdaaDoorRows
import Derived.Test.YthmijkpkegdcdaaDoorBase
namespace Go.Proofs.YthmijkpkegdcdaaDoor
open Go.RowKit
theorem Tryd.infoU8 : (Tryd.prog.info? 5).map (fun i => (i.zero, i.size, i.bytes)) = some (some (.int .u8 0), 1, 1) := by kernel_rfl
end Go.Proofs.YthmijkpkegdcdaaDoor
