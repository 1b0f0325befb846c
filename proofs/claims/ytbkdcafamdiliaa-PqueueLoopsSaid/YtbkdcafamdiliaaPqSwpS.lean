/- Two items exchanged. -/
import Derived.Test.YtbkdcafamdiliaaPqSwapS
import Derived.Test.YtbkdcafamdiliaaPqSet
namespace Go.Proofs.Ytbkdcafamdiliaa
open Go Go.RowKit

set_option maxHeartbeats 1600000 in
set_option maxRecDepth 1000000 in
theorem swapS {W : World} {base b : Nat} {p : Option Addr} {c S : Nat} {l : List (Nat × ByteArray)} {T : Nat → Nat} (h : QuS W base b p c S l T) {i j : Nat} {x y : Nat × ByteArray} (hx : l[i]? = some x) (hy : l[j]? = some y) (hx1 : x.1 < 1024) (hy1 : y.1 < 1024) :
    Calls Try.prog 169 #[.pointer (some ⟨b, 0, none⟩), .int .i64 (i : Nat), .int .i64 (j : Nat)] W fun e w' => e = .returned (.tuple #[]) ∧ QuS w' base b p c S (swp l i j) (tSet (tSet T y.1 (i + 1)) x.1 (j + 1)) ∧ Touch b p W w' := by
  obtain ⟨g, hpg, hc, hi0, hi1⟩ := h.at hx
  obtain ⟨g', hg', _, hj0, hj1⟩ := h.at hy
  rw [hpg] at hg'
  injection hg' with hg'
  injection hg' with hg'
  subst hg'
  have hp := h.heap
  have hil : i < l.length := (List.getElem?_eq_some_iff.1 hx).1
  have hjl : j < l.length := (List.getElem?_eq_some_iff.1 hy).1
  have hsm := h.sm
  have hgf : ∀ o, W.frozen? ⟨g, o, none⟩ = false := by
    obtain ⟨g2, cur, e1, _, _, _, h3, _, _⟩ := h.items hx
    rw [hpg] at e1
    injection e1 with e1
    injection e1 with e1
    subst e1
    exact fun o => row_frozen h3 o
  have f1 := hgf (i * 2)
  have f2 := hgf (i * 2 + 1)
  have f3 := hgf (j * 2)
  have f4 := hgf (j * 2 + 1)
  have hset : ∃ z, (l.set i y)[j]? = some z := ⟨_, List.getElem?_eq_getElem (by simpa using hjl)⟩
  obtain ⟨z, hz⟩ := hset
  have hQ1 := (h.setItem hpg y hx).setItem hpg x hz
  rw [← swp_eq hx hy] at hQ1
  have hT1 : Touch b p W ((((W.setCell ⟨g, i * 2, none⟩ (.int .i64 (y.1 : Nat))).setCell ⟨g, i * 2 + 1, none⟩ (Value.string y.2)).setCell ⟨g, j * 2, none⟩ (.int .i64 (x.1 : Nat))).setCell ⟨g, j * 2 + 1, none⟩ (Value.string x.2)) :=
    ((((Touch.of_below (Below.refl _ _)).rowAt hpg _ _).rowAt hpg _ _).rowAt hpg _ _).rowAt hpg _ _
  have hl1 : (swp l i j)[i]? = some y := by
    rw [swp_at hx hy]
    by_cases e : i = j
    · subst e; rw [hx] at hy; cases hy; rw [if_pos rfl]
    · rw [if_neg e, if_pos rfl]
  have hl2 : (swp l i j)[j]? = some x := by rw [swp_at hx hy, if_pos rfl]
  have hll := swp_len l i j
  have HQ := Lib.hid hQ1
  have HT := Lib.hid hT1
  have HL := Lib.hid (And.intro hl1 (And.intro hl2 hll))
  have HXY := Lib.hid (And.intro hx hy)
  clear hQ1 hT1 hl1 hl2 hll hz hgf h hx hy
  subst hpg
  generalize hn : l.length = n at *
  have HN := Lib.hid hn
  clear hn
  obtain ⟨xi, xp⟩ := x
  obtain ⟨yi, yp⟩ := y
  have h0 : (0 : Int) ≤ (i : Int) := by omega
  have h1 : (i : Int) < (n : Int) := by omega
  have h2 : (0 : Int) ≤ (j : Int) := by omega
  have h3 : (j : Int) < (n : Int) := by omega
  obtain ⟨u1, hu1⟩ := cell_after_set (w := W) (p := ⟨g, i * 2, none⟩) (x := .int .i64 (yi : Nat)) (q := ⟨g, j * 2, none⟩) hj0
  obtain ⟨u3, hu3⟩ := cell_after_set (w := W) (p := ⟨g, i * 2, none⟩) (x := .int .i64 (yi : Nat)) (q := ⟨g, j * 2 + 1, none⟩) hj1
  obtain ⟨u4, hu4⟩ := cell_after_set (p := ⟨g, i * 2 + 1, none⟩) (x := Value.string yp) hu3
  clear hu3
  obtain ⟨u2, hu2⟩ := cell_after_set (w := W) (p := ⟨g, i * 2 + 1, none⟩) (x := Value.string yp) (q := ⟨g, j * 2 + 1, none⟩) hj1
  go_enter Try.func169, Try.ntmps169
  go_wp2_with fail
  go_region
  clear hu1 hu2 hu4 hi0 hi1 hj0 hj1 f1 f2 f3 f4 hp
  have hQ2 := HQ.out.below Below.drewSelf
  have hT2 := HT.out.drew
  clear HQ HT
  go_wp2_with fail
  generalize ((((W.setCell ⟨g, i * 2, none⟩ (.int .i64 (yi : Nat))).setCell ⟨g, i * 2 + 1, none⟩ (Value.string yp)).setCell ⟨g, j * 2, none⟩ (.int .i64 (xi : Nat))).setCell ⟨g, j * 2 + 1, none⟩ (Value.string xp)).drew = W2 at *
  have hp2 := hQ2.heap
  rw [HL.out.2.2] at hp2
  obtain ⟨g2, hg2, _, ci, _⟩ := hQ2.at HL.out.1
  injection hg2 with hg2
  injection hg2 with hg2
  subst hg2
  have cp := hQ2.place hy1
  have cf := hQ2.frozen (3 + yi)
  have HQ2 := Lib.hid hQ2
  have HT2 := Lib.hid hT2
  clear hQ2 hT2
  have hyi : (yi : Int) < 1024 := by omega
  go_region
  clear cp cf ci hp2
  have hQ3 := (HQ2.out.setT yi (i + 1)).below Below.drewSelf
  have hT3 := (HT2.out.set (3 + yi) (.int .i64 ((i + 1 : Nat) : Int))).drew
  clear HQ2 HT2
  rw [show ((i + 1 : Nat) : Int) = (i : Int) + 1 by omega] at hQ3 hT3
  go_wp2_with fail
  generalize (W2.setCell ⟨b, 3 + yi, none⟩ (.int .i64 ((i : Int) + 1))).drew = W3 at *
  have hp3 := hQ3.heap
  rw [HL.out.2.2] at hp3
  obtain ⟨g3, hg3, _, ci, _⟩ := hQ3.at HL.out.2.1
  injection hg3 with hg3
  injection hg3 with hg3
  subst hg3
  have cp := hQ3.place hx1
  have cf := hQ3.frozen (3 + xi)
  have HQ3 := Lib.hid hQ3
  have HT3 := Lib.hid hT3
  clear hQ3 hT3
  have hxi : (xi : Int) < 1024 := by omega
  go_region
  clear cp cf ci hp3
  have hQ4 := (HQ3.out.setT xi (j + 1)).below Below.drewSelf
  have hT4 := (HT3.out.set (3 + xi) (.int .i64 ((j + 1 : Nat) : Int))).drew
  clear HQ3 HT3
  rw [show ((j + 1 : Nat) : Int) = (j : Int) + 1 by omega] at hQ4 hT4
  go_wp2_with fail
  go_end0
  exact ⟨rfl, hQ4, hT4⟩
end Go.Proofs.Ytbkdcafamdiliaa
