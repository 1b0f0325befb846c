/- A cell behind a store. Of no program. -/
import Derived.Test.YtbkdcafamdiliaaPqMem
namespace Go.Proofs.Ytbkdcafamdiliaa
open Go Go.RowKit

/-- Behind a store there is still something. -/
theorem cell_after_set {w : World} {p q : Addr} {x v : Value} (h : w.cell? q = some v) : ∃ v', (w.setCell p x).cell? q = some v' := by
  by_cases e : p = q
  · subst e; exact ⟨x, World.cell?_setCell_same w p x h⟩
  · exact ⟨v, (World.cell?_setCell_other w p q x e).trans h⟩

theorem Touch.rowAt {b g : Nat} {p : Option Addr} {W w' : World} (h : Touch b p W w') (hp : p = some ⟨g, 0, none⟩) (o : Nat) (v : Value) : Touch b p W (w'.setCell ⟨g, o, none⟩ v) := by
  subst hp; exact h.row (a := ⟨g, 0, none⟩) o v

/-- A row that became another one: what is written in it was not there before. -/
theorem Touch.head {b : Nat} {p p' : Option Addr} {A B C : World} {N : Nat} (h : Touch b p A B) (k : Touch b p' B C) (hh : Head p p' N) (hN : A.heap.size ≤ N) : Touch b p A C :=
  ⟨k.os.trans h.os, k.tape.trans h.tape, k.output.trans h.output, Nat.le_trans h.size k.size, fun q hq h1 h2 =>
    (k.block q (Nat.lt_of_lt_of_le hq h.size) h1 fun a' ha' => by
      rcases hh a' ha' with ⟨a, ha, e⟩ | hge
      · rw [← e]; exact h2 a ha
      · omega).trans (h.block q hq h1 h2)⟩
end Go.Proofs.Ytbkdcafamdiliaa
