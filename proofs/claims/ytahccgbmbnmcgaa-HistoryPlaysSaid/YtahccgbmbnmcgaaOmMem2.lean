/- More on rows of elements: one cell of an element set; blocks that a call may write. -/
import Derived.Test.YtahccgbmbnmcgaaOmMem
namespace Go.Proofs.Ytahccgbmbnmcgaa
open Go Go.RowKit

theorem below_then {a b c : World} (h : Below a.heap.size a b) (k : Below b.heap.size b c) : Below a.heap.size a c := h.trans (k.mono h.size)

theorem Below.drewSelf {B : Nat} {w : World} : Below B w w.drew := (Below.refl B w).drew

theorem flat_set {es : List (List Value)} {K r : Nat} {k v u : Value} (h : Elems K es) (he : es[r]? = some [k, v]) : (es.set r [k, u]).flatten = es.flatten.set (r * K + 1) u := by
  have hr : r < es.length := (List.getElem?_eq_some_iff.1 he).1
  have e1 : es = es.take r ++ [k, v] :: es.drop (r + 1) := by
    conv => lhs; rw [← List.take_append_drop r es, List.drop_eq_getElem_cons hr, (List.getElem?_eq_some_iff.1 he).2]
  have hA : (es.take r).flatten.length = r * K := by rw [(h.take r).len, List.length_take, Nat.min_eq_left (by omega)]
  rw [List.set_eq_take_append_cons_drop, if_pos hr]
  conv => rhs; rw [e1]
  rw [List.flatten_append, List.flatten_append, List.set_append_right _ _ (by rw [hA]; omega), hA]
  simp

theorem set_head {w : World} {b : Nat} {t : TypeId} {x y : Value} (h : w.heap[b]? = some (.cells #[x, y] t (0, 0))) (v : Value) : (w.setCell ⟨b, 1, none⟩ v).heap[b]? = some (.cells #[x, v] t (0, 0)) := by
  rw [setCell_eq_setRow w b 1 #[x, y] t (0, 0) v h]
  exact setRow_heap w b _ _ t _ h

/-- Only block b, the row at p, and new blocks have been written. -/
structure Touch (b : Nat) (p : Option Addr) (W w' : World) : Prop where
  os : w'.os = W.os
  tape : w'.tape = W.tape
  output : w'.output = W.output
  size : W.heap.size ≤ w'.heap.size
  block : ∀ k, k < W.heap.size → k ≠ b → (∀ a, p = some a → k ≠ a.block) → w'.heap[k]? = W.heap[k]?

theorem Touch.of_below {b : Nat} {p : Option Addr} {W w' : World} (h : Below W.heap.size W w') : Touch b p W w' := ⟨h.os, h.tape, h.output, h.size, fun k hk _ _ => h.block k hk⟩
theorem Touch.trans {b : Nat} {p : Option Addr} {A B C : World} (h : Touch b p A B) (k : Touch b p B C) : Touch b p A C :=
  ⟨k.os.trans h.os, k.tape.trans h.tape, k.output.trans h.output, Nat.le_trans h.size k.size, fun i hi h1 h2 => (k.block i (Nat.lt_of_lt_of_le hi h.size) h1 h2).trans (h.block i hi h1 h2)⟩
theorem Touch.of_grown {b : Nat} {p : Option Addr} {W w' : World} {n c : Nat} (h : W.grownBy w' (Value.slice p n c).ownBlock) : Touch b p W w' :=
  ⟨h.os, h.tape, h.output, h.size, fun k hk _ h2 => h.block k hk (by
    cases p with
    | none => simp [Value.ownBlock]
    | some a => simp only [Value.ownBlock]; intro e; injection e with e; exact h2 a rfl e)⟩
theorem Touch.set {b : Nat} {p : Option Addr} {W w' : World} (h : Touch b p W w') (o : Nat) (v : Value) : Touch b p W (w'.setCell ⟨b, o, none⟩ v) :=
  h.trans ⟨rfl, rfl, rfl, by simp [World.setCell], fun k _ h1 _ => Below.heap_setCell _ _ _ _ h1⟩
theorem Touch.row {b : Nat} {a : Addr} {W w' : World} (h : Touch b (some a) W w') (o : Nat) (v : Value) : Touch b (some a) W (w'.setCell ⟨a.block, o, none⟩ v) :=
  h.trans ⟨rfl, rfl, rfl, by simp [World.setCell], fun k _ _ h2 => Below.heap_setCell _ _ _ _ (h2 a rfl)⟩
theorem Touch.drew {b : Nat} {p : Option Addr} {W w' : World} (h : Touch b p W w') : Touch b p W w'.drew := ⟨h.os, h.tape, h.output, h.size, h.block⟩
theorem Touch.below {b B : Nat} {p : Option Addr} {W w' : World} (h : Touch b p W w') (hb : B ≤ b) (hp : ∀ a, p = some a → B ≤ a.block) (hB : B ≤ W.heap.size) : Below B W w' :=
  ⟨h.os, h.tape, h.output, h.size, fun k hk => h.block k (by omega) (by omega) (fun a ha => by have := hp a ha; omega)⟩

/-- The row is where it was, or new. -/
def Head (p p' : Option Addr) (N : Nat) : Prop := ∀ a', p' = some a' → (∃ a, p = some a ∧ a.block = a'.block) ∨ N ≤ a'.block
theorem Head.mono {p p' : Option Addr} {N M : Nat} (h : Head p p' N) (hm : M ≤ N) : Head p p' M := fun a ha => (h a ha).imp id (fun x => by omega)
theorem Head.refl (p : Option Addr) (N : Nat) : Head p p N := fun a h => .inl ⟨a, h, rfl⟩
end Go.Proofs.Ytahccgbmbnmcgaa
