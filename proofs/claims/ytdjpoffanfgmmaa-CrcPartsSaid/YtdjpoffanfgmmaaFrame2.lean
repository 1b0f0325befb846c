/- The frame that the rows share which list no variable. -/
import Derived.Test.YtdjpoffanfgmmaaRows
import Derived.Test.YtdjpoffanfgmmaaSlices
import Derived.ProofKit
import Derived.OpenShut
import Derived.Deep.DeepHandedRow
namespace Go.Proofs.Ytdjpoffanfgmmaa
open Go Go.ChangeShapes Go.WideShapes Go.ChangeAt Go.RowKit

theorem own : ownKnob Try.prog.godebug = none := by kernel_rfl
theorem laidOut : laidOutB Try.prog = true := by kernel_rfl
end Go.Proofs.Ytdjpoffanfgmmaa
