/- Slices of bytes in memory: lemmas outside the walks. -/
import Derived.Test.YtcafenmkcjlhgaaDoorBase
import Derived.Test.YtcafenmkcjlhgaaDoorShelf
import Derived.Test.YtcafenmkcjlhgaaDoorMath
namespace Go.Proofs.YtcafenmkcjlhgaaDoor
open Go Go.RowKit

/-- The slice value v is made of the bytes l (as numbers), in the world w. -/
def Row (w : World) (v : Value) (l : List Int) : Prop := ∃ p n c, v = .slice p n c ∧ l.length = n ∧ n ≤ c ∧ Lib.BytesIn w p n l ∧ (p = none → n = 0 ∧ c = 0)

theorem bytesIn_below {w w' : World} {p : Option Addr} {n : Nat} {l : List Int} (h : Lib.BytesIn w p n l) (hb : Below w.heap.size w w') : Lib.BytesIn w' p n l := by
  intro hn
  obtain ⟨b, o, rfl, hc⟩ := h hn
  refine ⟨b, o, rfl, fun i hi => ?_⟩
  have h1 := hc i hi
  have hlt : b < w.heap.size := World.block_lt_of_cell? w _ h1
  rw [hb.cell (p := ⟨b, o + i, none⟩) hlt]
  exact h1

theorem Row.below {w w' : World} {v : Value} {l : List Int} (h : Row w v l) (hb : Below w.heap.size w w') : Row w' v l := by
  obtain ⟨p, n, c, rfl, h1, h2, h3, h4⟩ := h
  exact ⟨p, n, c, rfl, h1, h2, bytesIn_below h3 hb, h4⟩

theorem row_nil (w : World) : Row w (.slice none 0 0) [] := ⟨none, 0, 0, rfl, rfl, Nat.le_refl _, Lib.BytesIn.nil _ _ _, fun _ => ⟨rfl, rfl⟩⟩

theorem row_owns {w : World} {base : Nat} {e : TypeId} {v : Value} {n : Nat} {l : List Int} (h : w.ownsRow base e 1 v n (l.map (Value.int .u8))) : Row w v l := by
  have hlen : l.length = n := by have := h.1; simpa using this
  rcases h.2 with ⟨rfl, rfl⟩ | ⟨g, cap, cur, rfl, hb, hg, hcap, hm, hs, ht⟩
  · have : l = [] := List.eq_nil_of_length_eq_zero hlen
    subst this
    exact row_nil w
  · refine ⟨_, n, cap, rfl, hlen, hcap, ?_, fun h => by cases h⟩
    intro hn
    refine ⟨g, 0, rfl, fun i hi => ?_⟩
    have h1 := h.cellAt i (by omega)
    rw [Nat.zero_add, h1]
    simp [List.getD, hlen, hi]

theorem WTab.below {w w' : World} (h : WTab w) (hb : Below w.heap.size w w') : WTab w' := by
  obtain ⟨h0, h1, h2, h3⟩ := h
  have hlt : 0 < w.heap.size := World.block_lt_of_cell? w _ h0
  exact ⟨(hb.cell (p := ⟨0, 0, none⟩) hlt).trans h0, (hb.cell (p := ⟨0, 1, none⟩) hlt).trans h1, (hb.cell (p := ⟨0, 2, none⟩) hlt).trans h2, (hb.cell (p := ⟨0, 3, none⟩) hlt).trans h3⟩

/-- Cells of a source of bytes, for the laws on append. -/
theorem cells_of_in {w : World} {p : Option Addr} {n : Nat} {l : List Int} (hl : l.length = n) (h : Lib.BytesIn w p n l) : ∀ ad, p = some ad → ∀ j u, (l.map (Value.int .u8))[j]? = some u → w.cell? (ad.add j) = some u := by
  intro ad hp j u hu
  have hj : j < l.length := by have := (List.getElem?_eq_some_iff.1 hu).1; simpa using this
  obtain ⟨b, o, hp', hc⟩ := h (by omega)
  rw [hp] at hp'
  obtain rfl := Option.some.inj hp'
  rw [Addr.add_lit, hc j (by omega)]
  simp [hj] at hu
  simp [List.getD, hj, hu]

end Go.Proofs.YtcafenmkcjlhgaaDoor
