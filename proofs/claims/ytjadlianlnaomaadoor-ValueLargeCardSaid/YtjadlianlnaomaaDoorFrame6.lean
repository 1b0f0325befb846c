/- The frame that the rows of stage 6 share: the listed variables in memory, a start that fits. -/
import Derived.Test.YtjadlianlnaomaaDoorValImp2
import Derived.Test.YtjadlianlnaomaaDoorCards
import Derived.Test.YtjadlianlnaomaaDoorTie
import Derived.ProofKit
import Derived.OpenShut
import Derived.Deep.DeepHandedRow
import Derived.Deep.DeepWitnessRowRef
import Derived.Lib.LaidTab
import Derived.Stop.LaidErr
namespace Go.Proofs.YtjadlianlnaomaaDoor
open Go Go.ChangeShapes Go.WideShapes Go.ChangeAt Go.RowKit

theorem own : ownKnob Tryd.prog.godebug = none := by kernel_rfl
/-- The list of the rows' cell 'laid'. -/
def seatLaid : List (String × DataW Unit) := [("math/bits.deBruijn32tab", Rows.laid_math_bits_deBruijn32tab), ("math/bits.deBruijn64tab", Rows.laid_math_bits_deBruijn64tab), ("internal/strconv.uint64pow10", Rows.laid_internal_strconv_uint64pow10)]

theorem pow_data : Rows.laid_internal_strconv_uint64pow10 (H := Unit) = Lib.tabData .u64 Lib.pow10Tab := by rfl

/-- What the list gives: the table as the walks want it. -/
theorem laid_of {W : World} (h : laidMet Tryd.prog seatLaid W) : PowTab W := by
  have h2 : laidMet Tryd.prog [("internal/strconv.uint64pow10", Lib.tabData .u64 Lib.pow10Tab)] W := h.tail.tail
  exact Lib.tabIs_of_head gPow (by kernel_rfl) Tryd.underlying66 Tryd.underlying50 (by kernel_rfl) (by kernel_rfl) h2

/-- The cells of a listed table. -/
def cellsOf : DataW Unit → Array Value
  | .agg parts => (parts.map fun d => match d with | .lit (.int k n) => Value.int k n | _ => undef).toArray
  | _ => #[]

/-- A start for the witness: the settled world, the listed variables holding what their initialisers lay. -/
noncomputable def laidWorld (os : Os) : World :=
  let w0 := World.holding Tryd.prog os ⟨#[], #[], []⟩
  let put (h : Array Obj) (g : Nat) (cs : Array Value) : Array Obj := h.modify g fun
    | .cells _ t frozen => .cells cs t frozen
    | o => o
  let h1 := put w0.heap 0 (cellsOf Rows.laid_internal_strconv_uint64pow10)
  let h2 := put h1 1 (cellsOf Rows.laid_math_bits_deBruijn32tab)
  let h3 := put h2 2 (cellsOf Rows.laid_math_bits_deBruijn64tab)
  { w0 with heap := h3 }

set_option maxRecDepth 100000 in
theorem laid_met (os : Os) (args : Array Value) : laidMet Tryd.prog seatLaid ((laidWorld os).forCall (fun _ _ => 0) ⟨#[], args, []⟩).memory :=
  laidMet_of_run' 8 (by kernel_rfl) (by kernel_rfl)

theorem laidOut : laidOutB Tryd.prog = true := by kernel_rfl

end Go.Proofs.YtjadlianlnaomaaDoor
