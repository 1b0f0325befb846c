/- A slice in a box that gathers, where its row was there before the loop. Of no program. -/
import Derived.Test.YtahccgbmbnmcgaaHiGat
import Derived.Maps.OwnIn
namespace Go.Proofs.Ytahccgbmbnmcgaa
open Go Go.RowKit

theorem ownsRow_block {w w' : World} {base : Nat} {e : TypeId} {size : Nat} {v : Value} {n : Nat} {xs : List Value} (h : w.ownsRow base e size v n xs) (hk : ∀ k, v.ownBlock = some k → w'.heap[k]? = w.heap[k]?) : w'.ownsRow base e size v n xs := by
  refine ⟨h.1, ?_⟩
  rcases h.2 with h1 | ⟨g, cap, cur, h1, h2, h3, h4⟩
  · exact .inl h1
  · exact .inr ⟨g, cap, cur, h1, h2, (hk g (by rw [h1]; rfl)).trans h3, h4⟩

/-- The slice in the box B holds just these, in a row from R on that is none of the iterator's blocks; all below R stands. -/
structure GatW (X W : World) (R B hi : Nat) (tS tE : TypeId) (ys : List Value) : Prop where
  out : ∃ v, Boxed W B tS v ∧ W.ownsRow R tE 1 v ys.length ys ∧ ∀ k, v.ownBlock = some k → k < X.heap.size ∨ hi ≤ k
  os : W.os = X.os
  tape : W.tape = X.tape
  output : W.output = X.output
  size : X.heap.size ≤ W.heap.size
  hiw : hi ≤ W.heap.size
  block : ∀ k, k < R → W.heap[k]? = X.heap[k]?

section
variable {X W C : World} {R B hi : Nat} {tS tE : TypeId} {ys : List Value}

theorem GatW.step (h : GatW X W R B hi tS tE ys) (hR : R ≤ B) (hB : B < X.heap.size) (hs : OwnStep X.heap.size hi W C) : GatW X C R B hi tS tE ys := by
  obtain ⟨⟨v, h1, h2, h3⟩, h5, h6, h7, h8, h10, h9⟩ := h
  refine ⟨⟨v, boxed_step h1 hB hs, ownsRow_block h2 (fun k hk => hs.block k (h2.lt k hk).2 (h3 k hk)), h3⟩, hs.os.trans h5, hs.tape.trans h6, hs.output.trans h7, Nat.le_trans h8 hs.size, Nat.le_trans h10 hs.size, fun k hk => (hs.block k (by omega) (.inl (by omega))).trans (h9 k hk)⟩

theorem GatW.start {v : Value} (hb : Boxed X B tS v) (hr : X.ownsRow R tE 1 v ys.length ys) (hR : R ≤ X.heap.size) (hA : Below X.heap.size X W) : GatW X W R B W.heap.size tS tE ys :=
  ⟨⟨v, (hA.block B hb.lt).trans hb, ownsRow_block hr (fun k hk => hA.block k (hr.lt k hk).2), fun k hk => .inl (hr.lt k hk).2⟩, hA.os, hA.tape, hA.output, hA.size, Nat.le_refl _, fun k hk => hA.block k (by omega)⟩

/-- One more. -/
theorem GatW.more {w1 : World} {v v' : Value} {zs : List Value} {tmp : Obj} (h : GatW X W R B hi tS tE ys) (hv : Boxed W B tS v) (hd : ∀ k, v.ownBlock = some k → k < X.heap.size ∨ hi ≤ k) (hG : Grew W w1 B R tS tE v v' zs.length zs) (hh : v'.ownBlock = v.ownBlock ∨ v'.ownBlock = some (W.alloc tmp).heap.size) (hR : R ≤ B) (hB : B < X.heap.size) :
    GatW X (w1.setCell ⟨B, 0, none⟩ v') R B hi tS tE zs ∧ KeepsIn X.heap.size hi W (w1.setCell ⟨B, 0, none⟩ v') := by
  have hs := h.size
  have hw := h.hiw
  refine ⟨⟨⟨_, hG.box, hG.row, fun k hk => ?_⟩, hG.os.trans h.os, hG.tape.trans h.tape, hG.output.trans h.output, Nat.le_trans h.size hG.size, Nat.le_trans h.hiw hG.size, fun k hk => (hG.lowBlock (by omega) (by omega) (by omega)).trans (h.block k hk)⟩, ⟨hG.os, hG.size, fun k h1 h2 h3 => hG.block k h3 (by omega) (fun e => ?_)⟩⟩
  · rcases hh with e | e
    · exact hd k (by rw [← e]; exact hk)
    · rw [e] at hk
      injection hk with hk
      simp at hk
      omega
  · have := hd k e.symm
    omega
end
end Go.Proofs.Ytahccgbmbnmcgaa
