/-
  No cell of these rows narrows 'for every input' (looked for: loops, veiled, ifaces, maps, wideKeys, modest, calm, conditions, laid).
  DERIVED. THE GIVEN ROWS OF THIS SEAT. 9 by the template 'for every input the law returns true; each argument reads behind the call as it read before'; 0 by the template 'total and deterministic' (their statements: YtejkbanecbjdoaaTotals.lean).
  GIVEN WITH THE SEED: the statements are not yours to turn. If you find one false, say at which input.
  Laid BY PROGRAM, IN A SANDBOX (cutbox-rows.mjs): the forced cells as the released guide's own fill.sh prints them over the translation 291fcd2c2ed663b1… (all of the seat's roots in one cut). By AI agents, Wed Nov 11 2026. No macro, syntax, notation, axiom, sorry.
-/
import Derived.Test.YtejkbanecbjdoaaChecked
import GoSem.Claim
import GoSem.ClaimJoined
import GoSem.ClaimMapViews
import Derived.JoinedTies
import Derived.KernelRfl
namespace Go.Proofs.Ytejkbanecbjdoaa
/- THE CELL 'sum', in the pinned program and in every row, IS THE sha256 OF THE DUMP (.gsa) THAT YtejkbanecbjdoaaProg.lean LOADS. Nothing in Lean hashes anything: it is a label: what it is worth is what the hold of that sum in a sandbox is worth. -/
noncomputable def Try.pinned : Pinned := { name := "ytejkbanecbjdoaa", sum := "291fcd2c2ed663b137819db027d4faf66c03652c0022f8091d14f062642011b8", checked := Try.checked }
namespace Rows
def none {H : Type} : Left H := { results := [], args := [] }

/-- 'drumlinlaw08.SlotsetPlays': WHATEVER THE INPUT: true; the input reads as it did. -/
def slotsetPlaysSpec : ChangeSpec := { name := "slotsetPlays", fn := fun _ => fun
  | [d1, d2, d3, d4] => { results := [.lit (.bool true)], args := [d1, d2, d3, d4] }
  | _ => none }
def slotsetPlaysRow : OpenClaim := { program := "ytejkbanecbjdoaa", sum := "291fcd2c2ed663b137819db027d4faf66c03652c0022f8091d14f062642011b8", func := "drumlin/drumlinlaw08.SlotsetPlays", spec := "slotsetPlays", unfollowed := true, recurses := true, apart := false }
def SlotsetPlaysSaid : Prop := slotsetPlaysRow.holds Try.pinned (OpenSpec.ofChange slotsetPlaysSpec)

/-- ITS FALSE NEIGHBOUR: 'it returns false'. Refute it at one input. -/
def slotsetPlaysWrong : ChangeSpec := { name := "slotsetPlays", fn := fun _ => fun
  | [d1, d2, d3, d4] => { results := [.lit (.bool false)], args := [d1, d2, d3, d4] }
  | _ => none }
def SlotsetPlaysWrongFalsely : Prop := slotsetPlaysRow.holds Try.pinned (OpenSpec.ofChange slotsetPlaysWrong)

/-- 'drumlinlaw08.SlotsetNil': WHATEVER THE INPUT: true; the input reads as it did. -/
def slotsetNilSpec : ChangeSpec := { name := "slotsetNil", fn := fun _ => fun
  | [d] => { results := [.lit (.bool true)], args := [d] }
  | _ => none }
def slotsetNilRow : OpenClaim := { program := "ytejkbanecbjdoaa", sum := "291fcd2c2ed663b137819db027d4faf66c03652c0022f8091d14f062642011b8", func := "drumlin/drumlinlaw08.SlotsetNil", spec := "slotsetNil", unfollowed := true, recurses := true, apart := false }
def SlotsetNilSaid : Prop := slotsetNilRow.holds Try.pinned (OpenSpec.ofChange slotsetNilSpec)

/-- ITS FALSE NEIGHBOUR: 'it returns false'. Refute it at one input. -/
def slotsetNilWrong : ChangeSpec := { name := "slotsetNil", fn := fun _ => fun
  | [d] => { results := [.lit (.bool false)], args := [d] }
  | _ => none }
def SlotsetNilWrongFalsely : Prop := slotsetNilRow.holds Try.pinned (OpenSpec.ofChange slotsetNilWrong)

/-- 'drumlinlaw08.SlotsetHas': WHATEVER THE INPUT: true; the input reads as it did. -/
def slotsetHasSpec : ChangeSpec := { name := "slotsetHas", fn := fun _ => fun
  | [d1, d2, d3] => { results := [.lit (.bool true)], args := [d1, d2, d3] }
  | _ => none }
def slotsetHasRow : OpenClaim := { program := "ytejkbanecbjdoaa", sum := "291fcd2c2ed663b137819db027d4faf66c03652c0022f8091d14f062642011b8", func := "drumlin/drumlinlaw08.SlotsetHas", spec := "slotsetHas", unfollowed := true, recurses := true, apart := false }
def SlotsetHasSaid : Prop := slotsetHasRow.holds Try.pinned (OpenSpec.ofChange slotsetHasSpec)

/-- ITS FALSE NEIGHBOUR: 'it returns false'. Refute it at one input. -/
def slotsetHasWrong : ChangeSpec := { name := "slotsetHas", fn := fun _ => fun
  | [d1, d2, d3] => { results := [.lit (.bool false)], args := [d1, d2, d3] }
  | _ => none }
def SlotsetHasWrongFalsely : Prop := slotsetHasRow.holds Try.pinned (OpenSpec.ofChange slotsetHasWrong)

/-- 'drumlinlaw08.SlotsetNext': WHATEVER THE INPUT: true; the input reads as it did. -/
def slotsetNextSpec : ChangeSpec := { name := "slotsetNext", fn := fun _ => fun
  | [d1, d2] => { results := [.lit (.bool true)], args := [d1, d2] }
  | _ => none }
def slotsetNextRow : OpenClaim := { program := "ytejkbanecbjdoaa", sum := "291fcd2c2ed663b137819db027d4faf66c03652c0022f8091d14f062642011b8", func := "drumlin/drumlinlaw08.SlotsetNext", spec := "slotsetNext", unfollowed := true, recurses := true, apart := false }
def SlotsetNextSaid : Prop := slotsetNextRow.holds Try.pinned (OpenSpec.ofChange slotsetNextSpec)

/-- ITS FALSE NEIGHBOUR: 'it returns false'. Refute it at one input. -/
def slotsetNextWrong : ChangeSpec := { name := "slotsetNext", fn := fun _ => fun
  | [d1, d2] => { results := [.lit (.bool false)], args := [d1, d2] }
  | _ => none }
def SlotsetNextWrongFalsely : Prop := slotsetNextRow.holds Try.pinned (OpenSpec.ofChange slotsetNextWrong)

/-- 'drumlinlaw08.SlotsetUnion': WHATEVER THE INPUT: true; the input reads as it did. -/
def slotsetUnionSpec : ChangeSpec := { name := "slotsetUnion", fn := fun _ => fun
  | [d1, d2, d3] => { results := [.lit (.bool true)], args := [d1, d2, d3] }
  | _ => none }
def slotsetUnionRow : OpenClaim := { program := "ytejkbanecbjdoaa", sum := "291fcd2c2ed663b137819db027d4faf66c03652c0022f8091d14f062642011b8", func := "drumlin/drumlinlaw08.SlotsetUnion", spec := "slotsetUnion", unfollowed := true, recurses := true, apart := false }
def SlotsetUnionSaid : Prop := slotsetUnionRow.holds Try.pinned (OpenSpec.ofChange slotsetUnionSpec)

/-- ITS FALSE NEIGHBOUR: 'it returns false'. Refute it at one input. -/
def slotsetUnionWrong : ChangeSpec := { name := "slotsetUnion", fn := fun _ => fun
  | [d1, d2, d3] => { results := [.lit (.bool false)], args := [d1, d2, d3] }
  | _ => none }
def SlotsetUnionWrongFalsely : Prop := slotsetUnionRow.holds Try.pinned (OpenSpec.ofChange slotsetUnionWrong)

/-- 'drumlinlaw08.SlotsetRefuses': WHATEVER THE INPUT: true; the input reads as it did. -/
def slotsetRefusesSpec : ChangeSpec := { name := "slotsetRefuses", fn := fun _ => fun
  | [d1, d2, d3] => { results := [.lit (.bool true)], args := [d1, d2, d3] }
  | _ => none }
def slotsetRefusesRow : OpenClaim := { program := "ytejkbanecbjdoaa", sum := "291fcd2c2ed663b137819db027d4faf66c03652c0022f8091d14f062642011b8", func := "drumlin/drumlinlaw08.SlotsetRefuses", spec := "slotsetRefuses", unfollowed := true, recurses := true, apart := false }
def SlotsetRefusesSaid : Prop := slotsetRefusesRow.holds Try.pinned (OpenSpec.ofChange slotsetRefusesSpec)

/-- ITS FALSE NEIGHBOUR: 'it returns false'. Refute it at one input. -/
def slotsetRefusesWrong : ChangeSpec := { name := "slotsetRefuses", fn := fun _ => fun
  | [d1, d2, d3] => { results := [.lit (.bool false)], args := [d1, d2, d3] }
  | _ => none }
def SlotsetRefusesWrongFalsely : Prop := slotsetRefusesRow.holds Try.pinned (OpenSpec.ofChange slotsetRefusesWrong)

/-- 'drumlinlaw08.SlotsetLoops': WHATEVER THE INPUT: true; the input reads as it did. -/
def slotsetLoopsSpec : ChangeSpec := { name := "slotsetLoops", fn := fun _ => fun
  | [d1, d2, d3] => { results := [.lit (.bool true)], args := [d1, d2, d3] }
  | _ => none }
def slotsetLoopsRow : OpenClaim := { program := "ytejkbanecbjdoaa", sum := "291fcd2c2ed663b137819db027d4faf66c03652c0022f8091d14f062642011b8", func := "drumlin/drumlinlaw08.SlotsetLoops", spec := "slotsetLoops", unfollowed := true, recurses := true, apart := false }
def SlotsetLoopsSaid : Prop := slotsetLoopsRow.holds Try.pinned (OpenSpec.ofChange slotsetLoopsSpec)

/-- ITS FALSE NEIGHBOUR: 'it returns false'. Refute it at one input. -/
def slotsetLoopsWrong : ChangeSpec := { name := "slotsetLoops", fn := fun _ => fun
  | [d1, d2, d3] => { results := [.lit (.bool false)], args := [d1, d2, d3] }
  | _ => none }
def SlotsetLoopsWrongFalsely : Prop := slotsetLoopsRow.holds Try.pinned (OpenSpec.ofChange slotsetLoopsWrong)

/-- 'drumlinlaw08.SlotsetCopies': WHATEVER THE INPUT: true; the input reads as it did. -/
def slotsetCopiesSpec : ChangeSpec := { name := "slotsetCopies", fn := fun _ => fun
  | [d1, d2, d3] => { results := [.lit (.bool true)], args := [d1, d2, d3] }
  | _ => none }
def slotsetCopiesRow : OpenClaim := { program := "ytejkbanecbjdoaa", sum := "291fcd2c2ed663b137819db027d4faf66c03652c0022f8091d14f062642011b8", func := "drumlin/drumlinlaw08.SlotsetCopies", spec := "slotsetCopies", unfollowed := true, recurses := true, apart := false }
def SlotsetCopiesSaid : Prop := slotsetCopiesRow.holds Try.pinned (OpenSpec.ofChange slotsetCopiesSpec)

/-- ITS FALSE NEIGHBOUR: 'it returns false'. Refute it at one input. -/
def slotsetCopiesWrong : ChangeSpec := { name := "slotsetCopies", fn := fun _ => fun
  | [d1, d2, d3] => { results := [.lit (.bool false)], args := [d1, d2, d3] }
  | _ => none }
def SlotsetCopiesWrongFalsely : Prop := slotsetCopiesRow.holds Try.pinned (OpenSpec.ofChange slotsetCopiesWrong)

/-- 'drumlinlaw08.SlotsetKnown': WHATEVER THE INPUT: true; the input reads as it did. -/
def slotsetKnownSpec : ChangeSpec := { name := "slotsetKnown", fn := fun _ => fun
  | [] => { results := [.lit (.bool true)], args := [] }
  | _ => none }
def slotsetKnownRow : OpenClaim := { program := "ytejkbanecbjdoaa", sum := "291fcd2c2ed663b137819db027d4faf66c03652c0022f8091d14f062642011b8", func := "drumlin/drumlinlaw08.SlotsetKnown", spec := "slotsetKnown", unfollowed := true, recurses := true, apart := false }
def SlotsetKnownSaid : Prop := slotsetKnownRow.holds Try.pinned (OpenSpec.ofChange slotsetKnownSpec)

/-- ITS FALSE NEIGHBOUR: 'it returns false'. Refute it at one input. -/
def slotsetKnownWrong : ChangeSpec := { name := "slotsetKnown", fn := fun _ => fun
  | [] => { results := [.lit (.bool false)], args := [] }
  | _ => none }
def SlotsetKnownWrongFalsely : Prop := slotsetKnownRow.holds Try.pinned (OpenSpec.ofChange slotsetKnownWrong)

/- THE SECOND FORM. 'bulk': how many values and letters a reading holds, each counted each time it is reached (what is shared counts as often as it is met; a slice's spare places count too). A statement '..UptoSaid' is the law's where the arguments, and the package variables that the reading takes, are together of bulk at most 1048576: NARROWER than '..Said'. Prove '..Said' where nothing that the law and all that it calls make is longer than what came in: it says more and counts as full. Else prove '..UptoSaid'. A law counts once. -/
mutual
def uptoBulk {H : Type} : DataW H → Nat
  | .lit (.string bytes) => bytes.length + 1
  | .lit _ => 1
  | .nil => 1
  | .ptr d => uptoBulk d + 1
  | .slice elems spare => uptoBulkAll elems + uptoBulkAll spare + 1
  | .agg parts => uptoBulkAll parts + 1
  | .iface _ d => uptoBulk d + 1
  | .map entries => uptoBulkEntries entries + 1
  | .held _ => 1
def uptoBulkAll {H : Type} : List (DataW H) → Nat
  | [] => 0
  | d :: r => uptoBulk d + uptoBulkAll r
def uptoBulkEntries {H : Type} : List (Lit × DataW H) → Nat
  | [] => 0
  | x :: r => uptoBulkEntry x + uptoBulkEntries r
def uptoBulkEntry {H : Type} : Lit × DataW H → Nat
  | (.string bytes, d) => bytes.length + uptoBulk d + 1
  | (_, d) => uptoBulk d + 1
 end
def uptoSmall : (H : Type) → List (DataW H) → Bool := fun _ ds => decide (uptoBulkAll ds ≤ 1048576)
def OpenSpec.upto (s : _root_.Go.ChangeSpec) : _root_.Go.OpenSpec := { _root_.Go.OpenSpec.ofChange s with cond := some uptoSmall }

/-- 'drumlinlaw08.SlotsetPlays', WHERE WHAT IT READS IS OF BULK AT MOST 1048576: true; the input reads as it did. -/
def slotsetPlaysUptoRow : OpenClaim := { program := "ytejkbanecbjdoaa", sum := "291fcd2c2ed663b137819db027d4faf66c03652c0022f8091d14f062642011b8", func := "drumlin/drumlinlaw08.SlotsetPlays", spec := "slotsetPlays", unfollowed := true, recurses := true, apart := false, narrowed := true }
def SlotsetPlaysUptoSaid : Prop := slotsetPlaysUptoRow.holds Try.pinned (OpenSpec.upto slotsetPlaysSpec)

/-- 'drumlinlaw08.SlotsetNil', WHERE WHAT IT READS IS OF BULK AT MOST 1048576: true; the input reads as it did. -/
def slotsetNilUptoRow : OpenClaim := { program := "ytejkbanecbjdoaa", sum := "291fcd2c2ed663b137819db027d4faf66c03652c0022f8091d14f062642011b8", func := "drumlin/drumlinlaw08.SlotsetNil", spec := "slotsetNil", unfollowed := true, recurses := true, apart := false, narrowed := true }
def SlotsetNilUptoSaid : Prop := slotsetNilUptoRow.holds Try.pinned (OpenSpec.upto slotsetNilSpec)

/-- 'drumlinlaw08.SlotsetHas', WHERE WHAT IT READS IS OF BULK AT MOST 1048576: true; the input reads as it did. -/
def slotsetHasUptoRow : OpenClaim := { program := "ytejkbanecbjdoaa", sum := "291fcd2c2ed663b137819db027d4faf66c03652c0022f8091d14f062642011b8", func := "drumlin/drumlinlaw08.SlotsetHas", spec := "slotsetHas", unfollowed := true, recurses := true, apart := false, narrowed := true }
def SlotsetHasUptoSaid : Prop := slotsetHasUptoRow.holds Try.pinned (OpenSpec.upto slotsetHasSpec)

/-- 'drumlinlaw08.SlotsetNext', WHERE WHAT IT READS IS OF BULK AT MOST 1048576: true; the input reads as it did. -/
def slotsetNextUptoRow : OpenClaim := { program := "ytejkbanecbjdoaa", sum := "291fcd2c2ed663b137819db027d4faf66c03652c0022f8091d14f062642011b8", func := "drumlin/drumlinlaw08.SlotsetNext", spec := "slotsetNext", unfollowed := true, recurses := true, apart := false, narrowed := true }
def SlotsetNextUptoSaid : Prop := slotsetNextUptoRow.holds Try.pinned (OpenSpec.upto slotsetNextSpec)

/-- 'drumlinlaw08.SlotsetUnion', WHERE WHAT IT READS IS OF BULK AT MOST 1048576: true; the input reads as it did. -/
def slotsetUnionUptoRow : OpenClaim := { program := "ytejkbanecbjdoaa", sum := "291fcd2c2ed663b137819db027d4faf66c03652c0022f8091d14f062642011b8", func := "drumlin/drumlinlaw08.SlotsetUnion", spec := "slotsetUnion", unfollowed := true, recurses := true, apart := false, narrowed := true }
def SlotsetUnionUptoSaid : Prop := slotsetUnionUptoRow.holds Try.pinned (OpenSpec.upto slotsetUnionSpec)

/-- 'drumlinlaw08.SlotsetRefuses', WHERE WHAT IT READS IS OF BULK AT MOST 1048576: true; the input reads as it did. -/
def slotsetRefusesUptoRow : OpenClaim := { program := "ytejkbanecbjdoaa", sum := "291fcd2c2ed663b137819db027d4faf66c03652c0022f8091d14f062642011b8", func := "drumlin/drumlinlaw08.SlotsetRefuses", spec := "slotsetRefuses", unfollowed := true, recurses := true, apart := false, narrowed := true }
def SlotsetRefusesUptoSaid : Prop := slotsetRefusesUptoRow.holds Try.pinned (OpenSpec.upto slotsetRefusesSpec)

/-- 'drumlinlaw08.SlotsetLoops', WHERE WHAT IT READS IS OF BULK AT MOST 1048576: true; the input reads as it did. -/
def slotsetLoopsUptoRow : OpenClaim := { program := "ytejkbanecbjdoaa", sum := "291fcd2c2ed663b137819db027d4faf66c03652c0022f8091d14f062642011b8", func := "drumlin/drumlinlaw08.SlotsetLoops", spec := "slotsetLoops", unfollowed := true, recurses := true, apart := false, narrowed := true }
def SlotsetLoopsUptoSaid : Prop := slotsetLoopsUptoRow.holds Try.pinned (OpenSpec.upto slotsetLoopsSpec)

/-- 'drumlinlaw08.SlotsetCopies', WHERE WHAT IT READS IS OF BULK AT MOST 1048576: true; the input reads as it did. -/
def slotsetCopiesUptoRow : OpenClaim := { program := "ytejkbanecbjdoaa", sum := "291fcd2c2ed663b137819db027d4faf66c03652c0022f8091d14f062642011b8", func := "drumlin/drumlinlaw08.SlotsetCopies", spec := "slotsetCopies", unfollowed := true, recurses := true, apart := false, narrowed := true }
def SlotsetCopiesUptoSaid : Prop := slotsetCopiesUptoRow.holds Try.pinned (OpenSpec.upto slotsetCopiesSpec)

/-- 'drumlinlaw08.SlotsetKnown', WHERE WHAT IT READS IS OF BULK AT MOST 1048576: true; the input reads as it did. -/
def slotsetKnownUptoRow : OpenClaim := { program := "ytejkbanecbjdoaa", sum := "291fcd2c2ed663b137819db027d4faf66c03652c0022f8091d14f062642011b8", func := "drumlin/drumlinlaw08.SlotsetKnown", spec := "slotsetKnown", unfollowed := true, recurses := true, apart := false, narrowed := true }
def SlotsetKnownUptoSaid : Prop := slotsetKnownUptoRow.holds Try.pinned (OpenSpec.upto slotsetKnownSpec)

end Rows
end Go.Proofs.Ytejkbanecbjdoaa
