/- Facts on the translation that all walks share: the tables, the types. -/
import Derived.Test.YtcafenmkcjlhgaaDoorChecked
import Derived.Test.YtcafenmkcjlhgaaDoorMath
import Derived.WalkKit
import Derived.WalkSpells
import Derived.WalkLawsBesides
import Derived.Lib.LaidTab
import Derived.Lib.Hide
namespace Go.Proofs.YtcafenmkcjlhgaaDoor
open Go Go.RowKit

theorem gWidths : Tryd.prog.globalNamed "drumlin/codec.widths" = some 0 := by kernel_rfl

/-- The table of widths stands in memory as the program's text lays it. -/
def WTab (w : World) : Prop := w.cell? ⟨0, 0, none⟩ = some (.int .i64 1) ∧ w.cell? ⟨0, 1, none⟩ = some (.int .i64 2) ∧ w.cell? ⟨0, 2, none⟩ = some (.int .i64 4) ∧ w.cell? ⟨0, 3, none⟩ = some (.int .i64 8)

end Go.Proofs.YtcafenmkcjlhgaaDoor
