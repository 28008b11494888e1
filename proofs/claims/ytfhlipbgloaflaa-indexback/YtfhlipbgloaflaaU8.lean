/- The element type 'byte', in one closed fact. -/
import Derived.Test.YtfhlipbgloaflaaRows
import Derived.Test.YtfhlipbgloaflaaBase
namespace Go.Proofs.Ytfhlipbgloaflaa
open Go.RowKit
theorem Try.infoU8 : (Try.prog.info? 5).map (fun i => (i.zero, i.size, i.bytes)) = some (some (.int .u8 0), 1, 1) := by kernel_rfl
end Go.Proofs.Ytfhlipbgloaflaa
