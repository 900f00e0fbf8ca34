/-
  What copying, marking and unpacking bytes answer. Conditions: at most 2^20 bytes; the first mark is below 2^30.
-/
import Derived.Test.YtflplihhakepfaaDoorPackBytes
import Derived.Test.YtflplihhakepfaaDoorOwn
namespace Go.Proofs.YtflplihhakepfaaDoor
open Go.RowKit

theorem Tryd.infoByte : (Tryd.prog.info? 5).map (fun i => (i.zero, i.size, i.bytes)) = some (some (.int .u8 0), 1, 1) := by kernel_rfl

end Go.Proofs.YtflplihhakepfaaDoor
