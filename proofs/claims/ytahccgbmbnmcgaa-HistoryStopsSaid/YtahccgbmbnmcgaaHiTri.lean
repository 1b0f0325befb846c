/- Several lists side by side. -/
import Derived.Test.YtahccgbmbnmcgaaHiMade
namespace Go.Proofs.Ytahccgbmbnmcgaa
open Go Go.RowKit

/-- Two lists have no block in common. -/
structure Apt (b : Nat) (p : Option Addr) (c : Nat) (q : Option Addr) : Prop where
  bc : b ≠ c
  pc : ∀ a, p = some a → a.block ≠ c
  qb : ∀ a, q = some a → a.block ≠ b
  pq : ∀ a a', p = some a → q = some a' → a.block ≠ a'.block

theorem Apt.symm {b c : Nat} {p q : Option Addr} (h : Apt b p c q) : Apt c q b p := ⟨h.bc.symm, h.qb, h.pc, fun a a' h1 h2 => (h.pq a' a h2 h1).symm⟩

/-- One list's row moves. -/
theorem Apt.head {b c N : Nat} {p q q' : Option Addr} (h : Apt b p c q) (hh : Head q q' N) (hb : b < N) (hp : ∀ a, p = some a → a.block < N) : Apt b p c q' :=
  ⟨h.bc, h.pc, fun a ha => by
    rcases hh a ha with ⟨a0, h1, h2⟩ | h1
    · rw [← h2]; exact h.qb a0 h1
    · omega, fun a a' ha ha' => by
    have := hp a ha
    rcases hh a' ha' with ⟨a0, h1, h2⟩ | h1
    · rw [← h2]; exact h.pq a a0 ha h1
    · omega⟩

section
variable {w W W' : World} {N b c lim m : Nat} {l : List Int} {p q : Option Addr}

theorem One.lt (h : One w W N b lim m l p) : b < W.heap.size := by obtain ⟨c, hL⟩ := h.list; exact hL.lt
theorem One.plt (h : One w W N b lim m l p) : ∀ a, p = some a → a.block < W.heap.size := fun a ha => by obtain ⟨c, hL⟩ := h.list; exact hL.own ha
theorem One.ml (h : One w W N b lim m l p) : m ≤ l.length := by obtain ⟨c, hL⟩ := h.list; exact hL.ml
theorem One.ll (h : One w W N b lim m l p) : l.length ≤ lim := by obtain ⟨c, hL⟩ := h.list; exact hL.ll

/-- What turns another list leaves this one. -/
theorem One.other {m2 lim2 : Nat} {l2 : List Int} (h : One w W N b lim m l p) (h2 : One w W N c lim2 m2 l2 q) (ha : Apt b p c q) (ht : Touch c q W W') : One w W' N b lim m l p := by
  obtain ⟨cc, hL⟩ := h.list
  refine ⟨⟨cc, hL.same (ht.block b hL.lt ha.bc (fun a e => (ha.qb a e).symm)) (fun a e => ht.block _ (hL.own e) (ha.pc a e) (fun a' e' => ha.pq a a' e e'))⟩, ?_, h.nb, h.np, h.nw⟩
  exact ⟨ht.os.trans h.low.os, ht.tape.trans h.low.tape, ht.output.trans h.low.output, Nat.le_trans h.low.size ht.size, fun k hk => (ht.block k (by have := h.low.size; have := h.nw; omega) (by have := h2.nb; omega) (fun a e => by have := h2.np a e; omega)).trans (h.low.block k hk)⟩

/-- A copy. -/
theorem One.copy (h : One w W N b lim m l p) : Calls Try.prog 34 #[.pointer (some ⟨b, 0, none⟩)] W fun e w' => ∃ d q, e = .returned (.pointer (some ⟨d, 0, none⟩)) ∧ Hid (One w w' N b lim m l p ∧ One w w' N d lim m l q ∧ Apt b p d q ∧ Below W.heap.size W w' ∧ W.heap.size ≤ d ∧ ∀ a, q = some a → W.heap.size ≤ a.block) := by
  have h0 := h
  obtain ⟨c, hL⟩ := h.list
  refine (copyI hL).mono fun e w' ⟨d, q, c', he, g1, g2, g3, g4⟩ => ⟨d, q, he, Lib.hid ⟨h0.below g2, ⟨⟨c', g1⟩, (h0.below g2).low, by have := h0.lt; have := h0.nb; omega, fun a ha => by have := g4 a ha; have := h0.lt; have := h0.nb; omega, h0.nw⟩, ⟨by have := h0.lt; omega, fun a ha => by have := h0.plt a ha; omega, fun a ha => by have := g4 a ha; have := h0.lt; omega, fun a a' ha ha' => by have := h0.plt a ha; have := g4 a' ha'; omega⟩, g2, g3, g4⟩⟩

/-- One more. -/
theorem One.add (h : One w W N b lim m l p) (hl : l.length < lim) (x : Int) : Calls Try.prog 35 #[.pointer (some ⟨b, 0, none⟩), .int .i64 x] W fun e w' => e = .returned (.int .i64 0) ∧ ∃ p', One w w' N b lim m (l ++ [x]) p' ∧ Touch b p W w' ∧ Head p p' W.heap.size := by
  have h0 := h
  obtain ⟨c, hL⟩ := h.list
  exact (addI hL hl x).mono fun e w' ⟨he, p', c', g1, g2, g3⟩ => ⟨he, p', h0.step g1 g2 g3, g2, g3⟩
/-- .. to a list that is full. -/
theorem One.addFull (h : One w W N b lim m l p) (hl : l.length = lim) (x : Int) : Calls Try.prog 35 #[.pointer (some ⟨b, 0, none⟩), .int .i64 x] W fun e w' => e = .returned (.int .i64 4) ∧ Below W.heap.size W w' := by
  obtain ⟨c, hL⟩ := h.list
  exact addFullI hL hl x
/-- All removed. -/
theorem One.clear (h : One w W N b lim m l p) : Calls Try.prog 36 #[.pointer (some ⟨b, 0, none⟩)] W fun e w' => (∃ v, e = .returned v) ∧ One w w' N b lim 0 [] none ∧ Touch b p W w' := by
  have h0 := h
  obtain ⟨c, hL⟩ := h.list
  exact (clearI hL).mono fun e w' ⟨he, g1, g2⟩ => ⟨he, h0.step g1 g2 (fun a h => by cases h), g2⟩

/-- Integers that lie in blocks of their own stay. -/
theorem RdI.touch {zs : List Int} (h : RdI W q zs) (ht : Touch b p W W') (h1 : ∀ a, q = some a → a.block ≠ b) (h2 : ∀ a a', q = some a → p = some a' → a.block ≠ a'.block) : RdI W' q zs :=
  h.kept fun a ha hl => ht.block _ hl (h1 a ha) (fun a' ha' => h2 a a' ha ha')
end
end Go.Proofs.Ytahccgbmbnmcgaa
