/-
  What copying, marking and unpacking bytes answer. Conditions: at most 2^20 bytes; the first mark is below 2^30.
-/
import Derived.Test.YtflplihhakepfaaPackBytes
import Derived.Test.YtflplihhakepfaaOwn
namespace Go.Proofs.Ytflplihhakepfaa
open Go.RowKit

theorem Try.infoByte : (Try.prog.info? 5).map (fun i => (i.zero, i.size, i.bytes)) = some (some (.int .u8 0), 1, 1) := by kernel_rfl

end Go.Proofs.Ytflplihhakepfaa
