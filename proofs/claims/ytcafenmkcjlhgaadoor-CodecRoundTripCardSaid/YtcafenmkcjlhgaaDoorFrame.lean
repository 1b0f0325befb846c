/- The frame that all laws' rows share: the listed variables in memory, a start that fits. -/
import Derived.Test.YtcafenmkcjlhgaaDoorWorks
import Derived.Test.YtcafenmkcjlhgaaDoorCards
import Derived.Test.YtcafenmkcjlhgaaDoorTie
import Derived.ProofKit
import Derived.OpenShut
import Derived.Deep.DeepHandedRow
import Derived.Deep.DeepWitnessRowRef
import Derived.Lib.LaidTab
import Derived.Stop.LaidErr
namespace Go.Proofs.YtcafenmkcjlhgaaDoor
open Go Go.ChangeShapes Go.WideShapes Go.ChangeAt Go.RowKit

theorem own : ownKnob Tryd.prog.godebug = none := by kernel_rfl
theorem star : "*" ++ "errors.errorString" = "*errors.errorString" := by decide
theorem rowErr (u : TypeId) (h : Tryd.prog.typeName? 3 u = some "*errors.errorString") : u = 81 :=
  typeName_ptr_named (nm := "errors.errorString") (by rw [star]; kernel_rfl) (by kernel_rfl) (by decide) u (by rw [star]; exact h)

/-- The list of the rows' cell 'laid'. -/
def seatLaid : List (String × DataW Unit) := [("math/bits.deBruijn32tab", Rows.laid_math_bits_deBruijn32tab), ("math/bits.deBruijn64tab", Rows.laid_math_bits_deBruijn64tab), ("internal/strconv.uint64pow10", Rows.laid_internal_strconv_uint64pow10), ("strconv.ErrRange", Rows.laid_strconv_ErrRange), ("strconv.ErrSyntax", Rows.laid_strconv_ErrSyntax), ("drumlin/codec.widths", Rows.laid_drumlin_codec_widths)]

theorem pow_data : Rows.laid_internal_strconv_uint64pow10 (H := Unit) = Lib.tabData .u64 Lib.pow10Tab := by rfl
theorem wid_data : Rows.laid_drumlin_codec_widths (H := Unit) = Lib.tabData .i64 [1, 2, 4, 8] := by rfl

/-- What the list gives: the tables as the walks want them. -/
theorem laid_of {W : World} (h : laidMet Tryd.prog seatLaid W) : Laid W := by
  have h2 : laidMet Tryd.prog (("internal/strconv.uint64pow10", Lib.tabData .u64 Lib.pow10Tab) :: [("strconv.ErrRange", Rows.laid_strconv_ErrRange), ("strconv.ErrSyntax", Rows.laid_strconv_ErrSyntax), ("drumlin/codec.widths", Rows.laid_drumlin_codec_widths)]) W := h.tail.tail
  have h3 := h2.tail
  have h5 : laidMet Tryd.prog [("drumlin/codec.widths", Lib.tabData .i64 [1, 2, 4, 8])] W := h3.tail.tail
  have hp := Lib.tabIs_of_head gPow (by kernel_rfl) Tryd.underlying76 Tryd.underlying23 (by kernel_rfl) (by kernel_rfl) h2
  have hw := Lib.tabIs_of_head gWidths (by kernel_rfl) Tryd.underlying58 Tryd.underlying3 (by kernel_rfl) (by kernel_rfl) h5
  obtain ⟨a, s, hv, _⟩ := laid_sentinel (g := 2) h3 (by kernel_rfl) (by kernel_rfl) Tryd.underlying54 rowErr Tryd.underlying81 Tryd.underlying83 rfl rfl Tryd.underlying9 (by kernel_rfl) (by kernel_rfl)
  refine ⟨?_, hp, ⟨_, _, hv⟩⟩
  exact ⟨hw.cell gWidths 0 (by decide), hw.cell gWidths 1 (by decide), hw.cell gWidths 2 (by decide), hw.cell gWidths 3 (by decide)⟩

/-- The cells of a listed table. -/
def cellsOf : DataW Unit → Array Value
  | .agg parts => (parts.map fun d => match d with | .lit (.int k n) => Value.int k n | _ => undef).toArray
  | _ => #[]

/-- The bytes of a listed error's text. -/
def textOf : DataW Unit → ByteArray
  | .iface _ (.ptr (.agg [.lit (.string bs)])) => ⟨bs.toArray⟩
  | _ => ByteArray.empty

/-- A start for the witness: the settled world, the listed variables holding what their initialisers lay. -/
noncomputable def laidWorld (os : Os) : World :=
  let N := (World.settled Tryd.prog os).heap.size
  let w0 := World.holding Tryd.prog os ⟨#[.cells #[.string (textOf Rows.laid_strconv_ErrRange)] 83, .cells #[.string (textOf Rows.laid_strconv_ErrSyntax)] 83], #[], []⟩
  let put (h : Array Obj) (g : Nat) (cs : Array Value) : Array Obj := h.modify g fun
    | .cells _ t frozen => .cells cs t frozen
    | o => o
  let h1 := put w0.heap 2 #[.iface 81 (.pointer (some ⟨N, 0, none⟩))]
  let h2 := put h1 1 #[.iface 81 (.pointer (some ⟨N + 1, 0, none⟩))]
  let h3 := put h2 0 (cellsOf Rows.laid_drumlin_codec_widths)
  let h4 := put h3 3 (cellsOf Rows.laid_internal_strconv_uint64pow10)
  let h5 := put h4 4 (cellsOf Rows.laid_math_bits_deBruijn32tab)
  let h6 := put h5 5 (cellsOf Rows.laid_math_bits_deBruijn64tab)
  { w0 with heap := h6 }

set_option maxRecDepth 100000 in
theorem laid_met (os : Os) (args : Array Value) : laidMet Tryd.prog seatLaid ((laidWorld os).forCall (fun _ _ => 0) ⟨#[], args, []⟩).memory :=
  laidMet_of_run' 8 (by kernel_rfl) (by kernel_rfl)

theorem laidOut : laidOutB Tryd.prog = true := by kernel_rfl

/-- What the walk is told of a slice of integers that came in. -/
def IsRow (k : IntKind) (w : World) (a : Option Addr) (len cap : Nat) (zs : List Int) : Prop :=
  (a = none ∧ len = 0 ∧ cap = 0 ∧ zs = []) ∨
  ∃ x, a = some x ∧ len ≤ cap ∧ cap ≤ maxLen ∧ zs.length = cap ∧ (∀ i, i < zs.length → w.cell? (x.add i) = some (.int k (zs.getD i 0))) ∧ ∀ n ∈ zs, (Lit.int k n).wf = true

/-- A slice of bytes that came in, by what it holds. -/
theorem isRow_sl {w : World} {a : Option Addr} {len cap : Nat} {zs : List Int} (h : IsRow .u8 w a len cap zs) : Sl w a len cap (zs.take len) ∧ cap ≤ maxLen := by
  rcases h with ⟨rfl, rfl, rfl, rfl⟩ | ⟨x, rfl, hl, hm, hz, hc, hw⟩
  · exact ⟨sl_nil w, Nat.zero_le _⟩
  · refine ⟨⟨by simp; omega, hl, Lib.BytesIn.of_cells (fun i hi => ?_), (fun h => by cases h), fun y hy => ?_⟩, hm⟩
    · rw [hc i (by omega)]; simp [List.getD, hi]
    · have := hw y (List.mem_of_mem_take hy)
      have := bounds_u8 this
      omega
end Go.Proofs.YtcafenmkcjlhgaaDoor
