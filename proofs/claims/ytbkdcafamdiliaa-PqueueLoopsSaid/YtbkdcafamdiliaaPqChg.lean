/- Below N only one block is written. Of no program. -/
import Derived.Test.YtbkdcafamdiliaaPqSet
namespace Go.Proofs.Ytbkdcafamdiliaa
open Go Go.RowKit

structure Chg (N b : Nat) (A B : World) : Prop where
  os : B.os = A.os
  tape : B.tape = A.tape
  output : B.output = A.output
  size : A.heap.size ≤ B.heap.size
  block : ∀ k, k < N → k ≠ b → B.heap[k]? = A.heap[k]?

theorem Chg.refl (N b : Nat) (A : World) : Chg N b A A := ⟨rfl, rfl, rfl, Nat.le_refl _, fun _ _ _ => rfl⟩
theorem Chg.trans {N b : Nat} {A B C : World} (h : Chg N b A B) (k : Chg N b B C) : Chg N b A C :=
  ⟨k.os.trans h.os, k.tape.trans h.tape, k.output.trans h.output, Nat.le_trans h.size k.size, fun i h1 h2 => (k.block i h1 h2).trans (h.block i h1 h2)⟩
theorem Chg.of_below {N b : Nat} {A B : World} (h : Below N A B) : Chg N b A B := ⟨h.os, h.tape, h.output, h.size, fun k hk _ => h.block k hk⟩
theorem Chg.below {N b : Nat} {A B : World} (h : Chg N b A B) : Below (min b N) A B := ⟨h.os, h.tape, h.output, h.size, fun k hk => h.block k (by omega) (by omega)⟩
theorem Touch.chg {N b : Nat} {p : Option Addr} {A B : World} (h : Touch b p A B) (hN : N ≤ A.heap.size) (hp : ∀ a, p = some a → N ≤ a.block) : Chg N b A B :=
  ⟨h.os, h.tape, h.output, h.size, fun k hk h1 => h.block k (by omega) h1 (fun a ha => by have := hp a ha; omega)⟩
theorem Head.low {p p' : Option Addr} {M N : Nat} (h : Head p p' M) (hN : N ≤ M) (hp : ∀ a, p = some a → N ≤ a.block) : ∀ a, p' = some a → N ≤ a.block := fun a ha => by
  rcases h a ha with ⟨a0, h1, h2⟩ | h1
  · have := hp a0 h1; omega
  · omega
end Go.Proofs.Ytbkdcafamdiliaa
