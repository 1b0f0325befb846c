/- The argument of the laws on histories: a slice of moves; a list that this call made. -/
import Derived.Test.YtahccgbmbnmcgaaHiMoved
import Derived.Test.YtahccgbmbnmcgaaHiEls
import Derived.Test.YtahccgbmbnmcgaaHiReadsI
namespace Go.Proofs.Ytahccgbmbnmcgaa
open Go Go.RowKit

/-- At a there lie these moves, in blocks below N. -/
def MovesAt (w : World) (N : Nat) (a : Option Addr) (xs : List (Nat × Nat)) : Prop :=
  ∀ j x, xs[j]? = some x → (∃ g o, a = some ⟨g, o, none⟩ ∧ g < N ∧ w.cell? ⟨g, o + j * 2, none⟩ = some (.int .u8 (x.1 : Nat)) ∧ w.cell? ⟨g, o + j * 2 + 1, none⟩ = some (.int .u16 (x.2 : Nat))) ∧ x.1 ≤ 255 ∧ x.2 ≤ 65535

theorem MovesAt.below {w w' : World} {N : Nat} {a : Option Addr} {xs : List (Nat × Nat)} (h : MovesAt w N a xs) (hb : Below N w w') : MovesAt w' N a xs := fun j x hx => by
  obtain ⟨⟨g, o, ha, hg, h1, h2⟩, hr⟩ := h j x hx
  exact ⟨⟨g, o, ha, hg, (hb.cell (p := ⟨g, o + j * 2, none⟩) hg).trans h1, (hb.cell (p := ⟨g, o + j * 2 + 1, none⟩) hg).trans h2⟩, hr⟩

/-- A list that lies from N on, with all that lies below N as in w. -/
structure One (w W : World) (N b lim m : Nat) (l : List Int) (p : Option Addr) : Prop where
  list : ∃ c, HLI W b p c lim m l
  low : Below N w W
  nb : N ≤ b
  np : ∀ a, p = some a → N ≤ a.block
  nw : N ≤ w.heap.size

section
variable {w W W' : World} {N b lim m m' : Nat} {l l' : List Int} {p p' : Option Addr}

theorem One.below (h : One w W N b lim m l p) (hb : Below W.heap.size W W') : One w W' N b lim m l p := by
  obtain ⟨c, hL⟩ := h.list
  exact ⟨⟨c, hL.below hb⟩, h.low.trans (hb.mono (Nat.le_trans h.nw h.low.size)), h.nb, h.np, h.nw⟩

theorem One.step (h : One w W N b lim m l p) {c' : Nat} (hL : HLI W' b p' c' lim m' l') (ht : Touch b p W W') (hh : Head p p' W.heap.size) : One w W' N b lim m' l' p' :=
  ⟨⟨c', hL⟩, ⟨ht.os.trans h.low.os, ht.tape.trans h.low.tape, ht.output.trans h.low.output, Nat.le_trans h.low.size ht.size, fun k hk => (ht.block k (by have := h.low.size; have := h.nw; omega) (by have := h.nb; omega) (fun a ha => by have := h.np a ha; omega)).trans (h.low.block k hk)⟩, h.nb, fun a ha => by
    rcases hh a ha with ⟨a0, h1, h2⟩ | h1
    · have := h.np a0 h1; omega
    · have := h.low.size; have := h.nw; omega, h.nw⟩

theorem One.moved (h : One w W N b lim m l p) (k n : Nat) (hn : n ≤ 65535) :
    Calls Try.prog 25 #[.agg #[.int .u8 k, .int .u16 n], .pointer (some ⟨b, 0, none⟩), .int .i64 lim] W fun e w' => e = .returned (.bool true) ∧ ∃ p' m' l', One w w' N b lim m' l' p' ∧ Mv k n m l l' ∧ Touch b p W w' ∧ Head p p' W.heap.size := by
  obtain ⟨c, hL⟩ := h.list
  exact (moved_any hL k n hn).mono fun e w' ⟨he, p', c', m', l', g1, g2, g3, g4⟩ => ⟨he, p', m', l', h.step g1 g3 g4, g2, g3, g4⟩

theorem One.elements (h : One w W N b lim m l p) : Calls Try.prog 26 #[.pointer (some ⟨b, 0, none⟩), .int .i64 lim] W fun e w' => ∃ q c, e = .returned (.tuple #[.slice q l.length c, .bool true]) ∧ l.length ≤ c ∧ Hid (One w w' N b lim m l p) ∧ Hid (RdI w' q l) ∧ Hid (Below W.heap.size W w') ∧ (q = none → c = 0) ∧ (∀ a, q = some a → W.heap.size ≤ a.block ∧ a.block < w'.heap.size ∧ a.off = 0 ∧ a.spot = none) := by
  obtain ⟨c, hL⟩ := h.list
  refine (elements_any W hL lim hL.ll).mono fun e w' ⟨v, he, hr, hb⟩ => ?_
  obtain ⟨q, d, rfl, hc, hc63⟩ := ownsRow_slice4 hr
  refine ⟨q, d, he, hc, Lib.hid (h.below hb), Lib.hid (rdI_of_row hr), Lib.hid hb, ?_, ?_⟩
  · rintro rfl
    rcases hr.2 with ⟨h1, h2⟩ | ⟨g, cap, cur, h1, h2, h3, h4⟩
    · injection h1
    · injection h1 with e1; cases e1
  · intro a ha
    subst ha
    rcases hr.2 with ⟨h1, h2⟩ | ⟨g, cap, cur, h1, h2, h3, h4⟩
    · injection h1 with e1; cases e1
    · injection h1 with e1
      injection e1 with e1
      subst e1
      exact ⟨h2, (Array.getElem?_eq_some_iff.1 h3).1, rfl, rfl⟩

theorem One.len0 (h : One w W N b lim m l p) : Calls Try.prog 27 #[.pointer (some ⟨b, 0, none⟩)] W fun e w' => e = .returned (.int .i64 l.length) ∧ w' = W := by
  obtain ⟨c, hL⟩ := h.list
  exact lenI hL
theorem One.marked0 (h : One w W N b lim m l p) : Calls Try.prog 28 #[.pointer (some ⟨b, 0, none⟩)] W fun e w' => e = .returned (.int .i64 (m : Nat)) ∧ w' = W := by
  obtain ⟨c, hL⟩ := h.list
  exact markedI hL
theorem One.len (h : One w W N b lim m l p) (q : Nat) : Calls Try.prog 27 #[.pointer (some ⟨b, 0, none⟩)] (W.drewN q) fun e w' => e = .returned (.int .i64 l.length) ∧ w' = W.drewN q := by
  obtain ⟨c, hL⟩ := h.list
  exact lenI (hL.below (Below.drewN' q (Below.refl _ _)))
theorem One.marked (h : One w W N b lim m l p) (q : Nat) : Calls Try.prog 28 #[.pointer (some ⟨b, 0, none⟩)] (W.drewN q) fun e w' => e = .returned (.int .i64 (m : Nat)) ∧ w' = W.drewN q := by
  obtain ⟨c, hL⟩ := h.list
  exact markedI (hL.below (Below.drewN' q (Below.refl _ _)))
end

end Go.Proofs.Ytahccgbmbnmcgaa
