/-
  DERIVED. GIVEN WITH THE SEED: THE CARDS: each row of YtcafenmkcjlhgabDoorRows.lean that lists a variable, with what it lists TIED to the program's text (the seventh form; the later family's looks); each row that meets fmt, with fmt's text TOLD by the authors' own Lean function (tested against real Go, not proved from fmt's source: count such statements apart). THE CARD IS WHAT COUNTS. Prove the row's statement (the work); the ties are given (YtcafenmkcjlhgabDoorTie.lean); close each card by the builder's one call (the guide's Derived/Test/ToyasCard.lean, 'card_holds'). Laid BY PROGRAM, IN A SANDBOX (cutbox-door.mjs). By AI agents, Wed Nov 11 2026. No macro, syntax, notation, axiom, sorry.
-/
import Derived.Test.YtcafenmkcjlhgabDoorRows
import GoSem.ClaimSeven
namespace Go.Proofs.YtcafenmkcjlhgabDoor
namespace Rows

/-- THE TIED CARD OF 'drumlinlaw01.CodecHexBack'. -/
def codecHexBackCard : Claim7 := { stood := { row := codecHexBackRow, standIns := [], harness := (true, "4da2e28d799efce5dbe68adbfb411fb58ba1f850ff0c672d3971e69180015b98"), looks := true }, kinds := [], alts := [], laidByText := true, laidKinds := [.data, .data, .data, .sentinel, .sentinel, .data], laidTests := true, laidLooks := .later }
def CodecHexBackCardSaid : Prop := Claim7.holds Tryd.pinned (.plain (OpenSpec.ofChange codecHexBackSpec)) codecHexBackCard

/-- THE TIED CARD OF 'drumlinlaw01.CodecDigitsBack'. -/
def codecDigitsBackCard : Claim7 := { stood := { row := codecDigitsBackRow, standIns := [], harness := (true, "4da2e28d799efce5dbe68adbfb411fb58ba1f850ff0c672d3971e69180015b98"), looks := true }, kinds := [], alts := [], laidByText := true, laidKinds := [.data, .data, .data, .sentinel, .sentinel, .data], laidTests := true, laidLooks := .later }
def CodecDigitsBackCardSaid : Prop := Claim7.holds Tryd.pinned (.plain (OpenSpec.ofChange codecDigitsBackSpec)) codecDigitsBackCard

/-- THE TIED CARD OF 'drumlinlaw01.CodecRefuses'. -/
def codecRefusesCard : Claim7 := { stood := { row := codecRefusesRow, standIns := [], harness := (true, "4da2e28d799efce5dbe68adbfb411fb58ba1f850ff0c672d3971e69180015b98"), looks := true }, kinds := [], alts := [], laidByText := true, laidKinds := [.data, .data, .data, .sentinel, .sentinel, .data], laidTests := true, laidLooks := .later }
def CodecRefusesCardSaid : Prop := Claim7.holds Tryd.pinned (.plain (OpenSpec.ofChange codecRefusesSpec)) codecRefusesCard

/-- THE SECOND FORM's CARD OF 'drumlinlaw01.CodecHexBack'. -/
def codecHexBackUptoCard : Claim7 := { stood := { row := codecHexBackUptoRow, standIns := [], harness := (true, "4da2e28d799efce5dbe68adbfb411fb58ba1f850ff0c672d3971e69180015b98"), looks := true }, kinds := [], alts := [], laidByText := true, laidKinds := [.data, .data, .data, .sentinel, .sentinel, .data], laidTests := true, laidLooks := .later }
def CodecHexBackUptoCardSaid : Prop := Claim7.holds Tryd.pinned (.plain (OpenSpec.upto codecHexBackSpec)) codecHexBackUptoCard

/-- THE SECOND FORM's CARD OF 'drumlinlaw01.CodecDigitsBack'. -/
def codecDigitsBackUptoCard : Claim7 := { stood := { row := codecDigitsBackUptoRow, standIns := [], harness := (true, "4da2e28d799efce5dbe68adbfb411fb58ba1f850ff0c672d3971e69180015b98"), looks := true }, kinds := [], alts := [], laidByText := true, laidKinds := [.data, .data, .data, .sentinel, .sentinel, .data], laidTests := true, laidLooks := .later }
def CodecDigitsBackUptoCardSaid : Prop := Claim7.holds Tryd.pinned (.plain (OpenSpec.upto codecDigitsBackSpec)) codecDigitsBackUptoCard

/-- THE SECOND FORM's CARD OF 'drumlinlaw01.CodecRefuses'. -/
def codecRefusesUptoCard : Claim7 := { stood := { row := codecRefusesUptoRow, standIns := [], harness := (true, "4da2e28d799efce5dbe68adbfb411fb58ba1f850ff0c672d3971e69180015b98"), looks := true }, kinds := [], alts := [], laidByText := true, laidKinds := [.data, .data, .data, .sentinel, .sentinel, .data], laidTests := true, laidLooks := .later }
def CodecRefusesUptoCardSaid : Prop := Claim7.holds Tryd.pinned (.plain (OpenSpec.upto codecRefusesSpec)) codecRefusesUptoCard
end Rows
end Go.Proofs.YtcafenmkcjlhgabDoor
