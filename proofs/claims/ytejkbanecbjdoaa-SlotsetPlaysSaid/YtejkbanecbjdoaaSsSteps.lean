/- The argument of SlotsetPlays: a slice of steps, as it lies in memory. -/
import Derived.Test.YtejkbanecbjdoaaSsShow
namespace Go.Proofs.Ytejkbanecbjdoaa
open Go Go.RowKit

/-- A step: what is done, a slot, and where its slots lie. -/
structure Stp where
  doo : Int
  ix : Int
  p : Option Addr
  n : Nat
  c : Nat

/-- A slice of steps lies in blocks below N, and the slots of each. -/
def StepsAt8 (w : World) (N : Nat) (a : Option Addr) (xs : List Stp) : Prop :=
  ∀ (j : Nat) x, xs[j]? = some x → (∃ g o, a = some ⟨g, o, none⟩ ∧ g < N ∧ w.cell? ⟨g, o + j * 3, none⟩ = some (.int .i64 x.doo) ∧ w.cell? ⟨g, o + j * 3 + 1, none⟩ = some (.int .i64 x.ix) ∧ w.cell? ⟨g, o + j * 3 + 2, none⟩ = some (.slice x.p x.n x.c)) ∧ x.n ≤ x.c ∧ x.c ≤ 9223372036854775807 ∧
    ∀ k, k < x.n → ∃ g o z, x.p = some ⟨g, o, none⟩ ∧ g < N ∧ w.cell? ⟨g, o + k, none⟩ = some (.int .i64 z)

theorem StepsAt8.below {w w' : World} {N : Nat} {a : Option Addr} {xs : List Stp} (h : StepsAt8 w N a xs) (hb : Below N w w') : StepsAt8 w' N a xs := fun j x hx => by
  obtain ⟨⟨g, o, h1, h2, h3, h4, h5⟩, h6, h7, h8⟩ := h j x hx
  refine ⟨⟨g, o, h1, h2, (hb.cell h2).trans h3, (hb.cell h2).trans h4, (hb.cell h2).trans h5⟩, h6, h7, fun k hk => ?_⟩
  obtain ⟨g2, o2, z, k1, k2, k3⟩ := h8 k hk
  exact ⟨g2, o2, z, k1, k2, (hb.cell (p := ⟨g2, o2 + k, none⟩) k2).trans k3⟩
end Go.Proofs.Ytejkbanecbjdoaa
