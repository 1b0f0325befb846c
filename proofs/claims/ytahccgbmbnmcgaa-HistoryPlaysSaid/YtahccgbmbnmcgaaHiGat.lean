/- A slice in a box that gathers what a loop over a function yields. Of no program. -/
import Derived.Test.YtahccgbmbnmcgaaPqRow0
import Derived.Test.YtahccgbmbnmcgaaHiRange
namespace Go.Proofs.Ytahccgbmbnmcgaa
open Go Go.RowKit

/-- The slice in the box B holds just these, in a row of its own from hi on; all else of X stands. -/
structure Gat (X W : World) (B hi : Nat) (tS tE : TypeId) (ys : List Value) : Prop where
  out : ∃ v, Boxed W B tS v ∧ W.ownsRow hi tE 1 v ys.length ys
  os : W.os = X.os
  tape : W.tape = X.tape
  output : W.output = X.output
  size : X.heap.size ≤ W.heap.size
  hiw : hi ≤ W.heap.size
  block : ∀ k, k < X.heap.size → k ≠ B → W.heap[k]? = X.heap[k]?

section
variable {X W C : World} {B hi : Nat} {tS tE : TypeId} {ys : List Value}

theorem Gat.step (h : Gat X W B hi tS tE ys) (hB : B < X.heap.size) (hs : OwnStep X.heap.size hi W C) : Gat X C B hi tS tE ys := by
  obtain ⟨⟨v, h1, h2⟩, h5, h6, h7, h8, h10, h9⟩ := h
  exact ⟨⟨v, boxed_step h1 hB hs, ownsRow_step h2 (Nat.le_refl _) hs⟩, hs.os.trans h5, hs.tape.trans h6, hs.output.trans h7, Nat.le_trans h8 hs.size, Nat.le_trans h10 hs.size, fun k hk k1 => (hs.block k (by omega) (.inl hk)).trans (h9 k hk k1)⟩

theorem Gat.start (hb : Boxed X B tS (.slice none 0 0)) (hA : Below X.heap.size X W) : Gat X W B W.heap.size tS tE [] :=
  ⟨⟨_, (hA.block B hb.lt).trans hb, World.ownsRow_nil _ _ _ _⟩, hA.os, hA.tape, hA.output, hA.size, Nat.le_refl _, fun k hk _ => hA.block k hk⟩

/-- One more. -/
theorem Gat.more {w1 : World} {v v' : Value} {zs : List Value} (h : Gat X W B hi tS tE ys) (hG : Grew W w1 B hi tS tE v v' zs.length zs) (hB : B < X.heap.size) (hX : X.heap.size ≤ hi) : Gat X (w1.setCell ⟨B, 0, none⟩ v') B hi tS tE zs ∧ KeepsIn X.heap.size hi W (w1.setCell ⟨B, 0, none⟩ v') :=
  ⟨⟨⟨_, hG.box, hG.row⟩, hG.os.trans h.os, hG.tape.trans h.tape, hG.output.trans h.output, Nat.le_trans h.size hG.size, Nat.le_trans h.hiw hG.size, fun k hk hne => (hG.lowBlock (by omega) (by have := h.size; omega) hne).trans (h.block k hk hne)⟩, hG.keeps hB⟩

theorem Gat.below (h : Gat X W B hi tS tE ys) {N : Nat} (hN : N ≤ B) (hN2 : N ≤ X.heap.size) : Below N X W := ⟨h.os, h.tape, h.output, h.size, fun k hk => h.block k (by omega) (by omega)⟩
end

/-- The row of a slice lowered. -/
theorem ownsRow_low {w : World} {base base' : Nat} {e : TypeId} {size : Nat} {v : Value} {n : Nat} {xs : List Value} (h : w.ownsRow base e size v n xs) (hb : base' ≤ base) : w.ownsRow base' e size v n xs := by
  refine ⟨h.1, ?_⟩
  rcases h.2 with h1 | ⟨g, cap, cur, h1, h2, h3⟩
  · exact .inl h1
  · exact .inr ⟨g, cap, cur, h1, Nat.le_trans hb h2, h3⟩
end Go.Proofs.Ytahccgbmbnmcgaa
