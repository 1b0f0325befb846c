/- The chapter's example of histories. -/
import Derived.Test.YtahccgbmbnmcgaaHiReadsS
import Derived.Test.YtahccgbmbnmcgaaHiSinceL
import Derived.Test.YtahccgbmbnmcgaaHiCopyS
namespace Go.Proofs.Ytahccgbmbnmcgaa
open Go Go.RowKit

/-- What stands while the example goes on: a list that this call made, with at most three elements. -/
def Ex7 (w W : World) (m : Nat) (l : List ByteArray) : Prop := ∃ p c, HLS W w.heap.size p c 3 m l ∧ Below w.heap.size w W ∧ ∀ a, p = some a → w.heap.size ≤ a.block

section
variable {w W W' : World} {m : Nat} {l : List ByteArray}

theorem Touch.lowB {b N : Nat} {p : Option Addr} {w W W' : World} (hb : Below N w W) (h : Touch b p W W') (hN : N ≤ b) (hp : ∀ a, p = some a → N ≤ a.block) (hs : N ≤ w.heap.size) : Below N w W' :=
  ⟨h.os.trans hb.os, h.tape.trans hb.tape, h.output.trans hb.output, Nat.le_trans hb.size h.size, fun k hk => (h.block k (by have := hb.size; omega) (by omega) (fun a ha => by have := hp a ha; omega)).trans (hb.block k hk)⟩

theorem Ex7.step {p p' : Option Addr} {c' m' : Nat} {l' : List ByteArray} (hb : Below w.heap.size w W) (hp : ∀ a, p = some a → w.heap.size ≤ a.block) (hL : HLS W' w.heap.size p' c' 3 m' l') (ht : Touch w.heap.size p W W') (hh : Head p p' W.heap.size) : Ex7 w W' m' l' :=
  ⟨p', c', hL, Touch.lowB hb ht (Nat.le_refl _) hp (Nat.le_refl _), fun a ha => by
    rcases hh a ha with ⟨a0, h1, h2⟩ | h1
    · have := hp a0 h1; omega
    · have := hb.size; omega⟩

theorem Ex7.below (h : Ex7 w W m l) (hb : Below W.heap.size W W') : Ex7 w W' m l := by
  obtain ⟨p, c, h1, h2, h3⟩ := h
  exact ⟨p, c, h1.below hb, h2.trans (hb.mono h2.size), h3⟩

theorem exAdd (h : Ex7 w W m l) (hl : l.length < 3) (x : ByteArray) : Calls Try.prog 13 #[.pointer (some ⟨w.heap.size, 0, none⟩), .string x] W fun e w' => e = .returned (.int .i64 0) ∧ Hid (Ex7 w w' m (l ++ [x])) := by
  obtain ⟨p, c, h1, h2, h3⟩ := h
  exact (addS h1 hl x).mono fun e w' ⟨he, p', c', g1, g2, g3⟩ => ⟨he, Lib.hid (Ex7.step h2 h3 g1 g2 g3)⟩
theorem exFull (h : Ex7 w W m l) (hl : l.length = 3) (x : ByteArray) : Calls Try.prog 13 #[.pointer (some ⟨w.heap.size, 0, none⟩), .string x] W fun e w' => e = .returned (.int .i64 4) ∧ Hid (Ex7 w w' m l) := by
  have h0 := h
  obtain ⟨p, c, h1, h2, h3⟩ := h
  exact (addFullS h1 hl x).mono fun e w' ⟨he, g1⟩ => ⟨he, Lib.hid (h0.below g1)⟩
theorem exMark (h : Ex7 w W m l) : Calls Try.prog 15 #[.pointer (some ⟨w.heap.size, 0, none⟩)] W fun e w' => (∃ v, e = .returned v) ∧ Hid (Ex7 w w' l.length l) := by
  obtain ⟨p, c, h1, h2, h3⟩ := h
  exact (markS h1).mono fun e w' ⟨he, g1, g2⟩ => ⟨he, Lib.hid (Ex7.step h2 h3 g1 g2 (Head.refl _ _))⟩
theorem exClear (h : Ex7 w W m l) : Calls Try.prog 19 #[.pointer (some ⟨w.heap.size, 0, none⟩)] W fun e w' => (∃ v, e = .returned v) ∧ Hid (Ex7 w w' 0 []) := by
  obtain ⟨p, c, h1, h2, h3⟩ := h
  exact (clearS h1).mono fun e w' ⟨he, g1, g2⟩ => ⟨he, Lib.hid (Ex7.step h2 h3 g1 g2 (fun a h => by cases h))⟩
theorem exCut (h : Ex7 w W m l) (k : Nat) (h1 : m ≤ k) (h2 : k ≤ l.length) : Calls Try.prog 17 #[.pointer (some ⟨w.heap.size, 0, none⟩), .int .i64 k] W fun e w' => e = .returned (.int .i64 0) ∧ Hid (Ex7 w w' m (l.take k)) := by
  obtain ⟨p, c, g1, g2, g3⟩ := h
  exact (cutS g1 k h1 h2).mono fun e w' ⟨he, f1, f2⟩ => ⟨he, Lib.hid (Ex7.step g2 g3 f1 f2 (Head.refl _ _))⟩
theorem exCutBad (h : Ex7 w W m l) (k : Int) (h1 : k < (m : Int) ∨ (l.length : Int) < k) : Calls Try.prog 17 #[.pointer (some ⟨w.heap.size, 0, none⟩), .int .i64 k] W fun e w' => e = .returned (.int .i64 3) ∧ Hid (Ex7 w w' m l) := by
  have h0 := h
  obtain ⟨p, c, g1, g2, g3⟩ := h
  exact (cutBadS g1 k h1).mono fun e w' ⟨he, hw⟩ => ⟨he, by rw [hw]; exact Lib.hid h0⟩
theorem exLen (h : Ex7 w W m l) : Calls Try.prog 41 #[.pointer (some ⟨w.heap.size, 0, none⟩)] W fun e w' => e = .returned (.int .i64 l.length) ∧ Hid (Ex7 w w' m l) := by
  have h0 := h
  obtain ⟨p, c, g1, g2, g3⟩ := h
  exact (lenS g1).mono fun e w' ⟨he, hw⟩ => ⟨he, by rw [hw]; exact Lib.hid h0⟩
theorem exMarked (h : Ex7 w W m l) : Calls Try.prog 40 #[.pointer (some ⟨w.heap.size, 0, none⟩)] W fun e w' => e = .returned (.int .i64 (m : Nat)) ∧ Hid (Ex7 w w' m l) := by
  have h0 := h
  obtain ⟨p, c, g1, g2, g3⟩ := h
  exact (markedS g1).mono fun e w' ⟨he, hw⟩ => ⟨he, by rw [hw]; exact Lib.hid h0⟩
theorem exAt (h : Ex7 w W m l) (j : Nat) (x : ByteArray) (hx : l[j]? = some x) : Calls Try.prog 44 #[.pointer (some ⟨w.heap.size, 0, none⟩), .int .i64 j] W fun e w' => e = .returned (.tuple #[.string x, .int .i64 0]) ∧ Hid (Ex7 w w' m l) := by
  have h0 := h
  obtain ⟨p, c, g1, g2, g3⟩ := h
  exact (atS g1 j x hx).mono fun e w' ⟨he, hw⟩ => ⟨he, by rw [hw]; exact Lib.hid h0⟩
theorem exAtBad (h : Ex7 w W m l) (j : Int) (hx : j < 0 ∨ (l.length : Int) ≤ j) : Calls Try.prog 44 #[.pointer (some ⟨w.heap.size, 0, none⟩), .int .i64 j] W fun e w' => e = .returned (.tuple #[.string ⟨#[]⟩, .int .i64 3]) ∧ Hid (Ex7 w w' m l) := by
  have h0 := h
  obtain ⟨p, c, g1, g2, g3⟩ := h
  exact (atBadS g1 j hx).mono fun e w' ⟨he, hw⟩ => ⟨he, by rw [hw]; exact Lib.hid h0⟩
theorem exSince (h : Ex7 w W m l) (hl : l.length ≤ 3) : Calls Try.prog 43 #[.pointer (some ⟨w.heap.size, 0, none⟩)] W fun e w' => ∃ p c, e = .returned (.slice p (l.length - m) c) ∧ Hid (Ex7 w w' m l) ∧ Hid (RdS w' p (l.drop m)) := by
  have h0 := h
  obtain ⟨p, c, g1, g2, g3⟩ := h
  refine (since_any W g1 (by omega)).mono fun e w' ⟨v, he, hr, hb⟩ => ?_
  obtain ⟨q, d, rfl, -, -⟩ := ownsRow_slice4 hr
  exact ⟨q, d, he, Lib.hid (h0.below hb), Lib.hid (rdS_of_row hr)⟩
end

theorem rdS_lit (w : World) (t : TypeId) (zs : List ByteArray) : RdS (w.alloc (.cells (zs.map Value.string).toArray t)) (some ⟨w.heap.size, 0, none⟩) zs := fun j x hx => by
  refine ⟨_, 0, rfl, ?_⟩
  have : (w.alloc (.cells (zs.map Value.string).toArray t)).heap[w.heap.size]? = some (.cells (zs.map Value.string).toArray t (0, 0)) := heap_alloc_new w _
  show World.cell? _ ⟨w.heap.size, 0 + j, none⟩ = _
  simp only [World.cell?, this]
  rw [List.getElem?_toArray, List.getElem?_map, Nat.zero_add, hx]
  rfl

theorem Ex7.fresh {w W : World} {m : Nat} {l : List ByteArray} (h : Ex7 w W m l) (o : Obj) (k : Nat) : Ex7 w ((W.alloc o).drewN k) m l := h.below (Below.drewN' k ((Below.refl _ _).alloc (Nat.le_refl _) o))

set_option maxHeartbeats 6400000 in
set_option maxRecDepth 100000 in
theorem works7_any (w : World) : Calls Try.prog 10 #[] w fun e w' => e = .returned (.bool true) ∧ Below w.heap.size w w' := by
  have h1 := newS 3 (by omega) w
  go_enter Try.func10, Try.ntmps10
  go_wp2_with fail
  refine h1.mono ?_
  rintro e w1 ⟨rfl, hq, hb, hs⟩
  have HX : Hid (Ex7 w w1 0 []) := Lib.hid ⟨none, 0, hq, hb, fun a h => by cases h⟩
  clear hq hb hs h1
  go_wp2_with fail
  refine (exAdd HX.out (by decide) _).mono ?_
  rintro e w2 ⟨rfl, HX⟩
  go_wp2_with fail
  refine (exMark HX.out).mono ?_
  rintro e w3 ⟨⟨v, rfl⟩, HX⟩
  go_wp2_with fail
  refine (exAdd HX.out (by decide) _).mono ?_
  rintro e w4 ⟨rfl, HX⟩
  go_wp2_with fail
  refine (exAdd HX.out (by decide) _).mono ?_
  rintro e w5 ⟨rfl, HX⟩
  go_wp2_with fail
  refine (exFull HX.out rfl _).mono ?_
  rintro e w6 ⟨rfl, HX⟩
  go_wp2_with fail
  refine (exMarked HX.out).mono ?_
  rintro e w7 ⟨rfl, HX⟩
  go_wp2_with fail
  refine (exLen HX.out).mono ?_
  rintro e w8 ⟨rfl, HX⟩
  go_wp2_with fail
  refine (exSince HX.out (by decide)).mono ?_
  rintro e w9 ⟨p, c, rfl, HX, HR⟩
  go_wp2_with fail
  have hr : RdS w9 p [⟨#[98]⟩, ⟨#[99]⟩] := HR.out
  refine ((hr.below ((Below.refl _ _).alloc (Nat.le_refl _) _)).same (rdS_lit w9 9 [⟨#[98]⟩, ⟨#[99]⟩]) rfl rfl (by decide) (by decide)).mono ?_
  rintro e wa ⟨rfl, q, rfl⟩
  have HX := Lib.hid (HX.out.fresh (.cells #[.string ⟨#[98]⟩, .string ⟨#[99]⟩] 9) q)
  obtain ⟨Z, hZ⟩ : ∃ Z, Z = (w9.alloc (.cells #[.string ⟨#[98]⟩, .string ⟨#[99]⟩] 9)).drewN q := ⟨_, rfl⟩
  rw [show (w9.alloc (.cells (List.map Value.string [⟨#[98]⟩, ⟨#[99]⟩]).toArray 9)).drewN q = Z from hZ.symm]
  rw [← hZ] at HX
  clear hZ hr HR
  go_wp2_with fail
  refine (exCutBad HX.out 0 (.inl (by decide))).mono ?_
  rintro e wb ⟨rfl, HX⟩
  go_wp2_with fail
  refine (exCutBad HX.out 4 (.inr (by decide))).mono ?_
  rintro e wc ⟨rfl, HX⟩
  go_wp2_with fail
  refine (exCut HX.out 2 (by decide) (by decide)).mono ?_
  rintro e wd ⟨rfl, HX⟩
  go_wp2_with fail
  refine (exLen HX.out).mono ?_
  rintro e we ⟨rfl, HX⟩
  go_wp2_with fail
  refine (exMark HX.out).mono ?_
  rintro e wf ⟨⟨v2, rfl⟩, HX⟩
  go_wp2_with fail
  refine (exAt HX.out 1 ⟨#[98]⟩ rfl).mono ?_
  rintro e wg ⟨rfl, HX⟩
  go_wp2_with fail
  refine (exAtBad HX.out 2 (.inr (by decide))).mono ?_
  rintro e wh ⟨rfl, HX⟩
  go_wp2_with fail
  refine (exCutBad HX.out 1 (.inl (by decide))).mono ?_
  rintro e wi ⟨rfl, HX⟩
  go_wp2_with fail
  refine (exClear HX.out).mono ?_
  rintro e wj ⟨⟨v3, rfl⟩, HX⟩
  go_wp2_with fail
  refine (exLen HX.out).mono ?_
  rintro e wk ⟨rfl, HX⟩
  go_wp2_with fail
  refine (exMarked HX.out).mono ?_
  rintro e wl ⟨rfl, HX⟩
  go_wp2_with fail
  refine (exAdd HX.out (by decide) _).mono ?_
  rintro e wm ⟨rfl, HX⟩
  go_wp2_with fail
  go_ret
  obtain ⟨_, _, _, hb, _⟩ := HX.out
  exact ⟨rfl, hb⟩
end Go.Proofs.Ytahccgbmbnmcgaa
