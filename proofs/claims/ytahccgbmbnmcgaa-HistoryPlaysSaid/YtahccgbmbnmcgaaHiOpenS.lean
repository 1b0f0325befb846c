/- The argument of HistoryPlays: a slice of steps; the two New. -/
import Derived.Test.YtahccgbmbnmcgaaHiOpen
import Derived.Test.YtahccgbmbnmcgaaHiPair2
namespace Go.Proofs.Ytahccgbmbnmcgaa
open Go Go.ChangeShapes Go.WideShapes Go.ChangeAt Go.RowKit

/-- A slice of steps lies in blocks below N. -/
def StepsAt (w : World) (N : Nat) (a : Option Addr) (xs : List (Nat × ByteArray × Int)) : Prop :=
  ∀ (j : Nat) x, xs[j]? = some x → (∃ g o, a = some ⟨g, o, none⟩ ∧ g < N ∧ w.cell? ⟨g, o + j * 3, none⟩ = some (.int .u8 (x.1 : Nat)) ∧ w.cell? ⟨g, o + j * 3 + 1, none⟩ = some (.string x.2.1) ∧ w.cell? ⟨g, o + j * 3 + 2, none⟩ = some (.int .i64 x.2.2)) ∧ x.1 ≤ 255 ∧ -9223372036854775808 ≤ x.2.2 ∧ x.2.2 ≤ 9223372036854775807

theorem StepsAt.below {w w' : World} {N : Nat} {a : Option Addr} {xs : List (Nat × ByteArray × Int)} (h : StepsAt w N a xs) (hb : Below N w w') : StepsAt w' N a xs := fun j x hx => by
  obtain ⟨⟨g, o, h1, h2, h3, h4, h5⟩, h6⟩ := h j x hx
  exact ⟨⟨g, o, h1, h2, (hb.cell h2).trans h3, (hb.cell h2).trans h4, (hb.cell h2).trans h5⟩, h6⟩

theorem stepCells7 : Try.prog.cellsOf 32 = 3 := by kernel_rfl
theorem cellsStr7 : Try.prog.cellsOf 9 = 1 := by kernel_rfl
theorem cellsInt7 : Try.prog.cellsOf 3 = 1 := by kernel_rfl

set_option maxRecDepth 100000 in
theorem open_steps7 {H : Type} {enc : TypeId × Value → H} {w : World} {base : Nat} {spare : Nat → Bool} {held : Bool} {a : Option Addr} {len cap : Nat} {d : DataW H} {ps : List MemPlace}
    (h : DataW.Trod enc Try.prog w base spare held 22 (.slice a len cap) d ps) :
    ∃ xs : List (Nat × ByteArray × Int), xs.length = len ∧ len ≤ cap ∧ cap ≤ 9223372036854775807 ∧ StepsAt w w.heap.size a xs := by
  obtain ⟨fuel, hf⟩ := h
  rcases Go.Deep.open_slice Try.underlying22 hf with ⟨hcs, _⟩ | ⟨p, l, c, m, n, D, Pl, hcs, _, hl, hc, hm, _, hi⟩
  · simp [Value.cells] at hcs
    obtain ⟨rfl, rfl, rfl⟩ := hcs
    exact ⟨[], rfl, Nat.le_refl _, by omega, fun j x hx => by simp at hx⟩
  · simp [Value.cells] at hcs
    obtain ⟨rfl, rfl, rfl⟩ := hcs
    have hlm : len ≤ m := by rw [hm]; split <;> omega
    obtain ⟨xs, hxl, hx⟩ := list_of7 (Q := fun j (x : Nat × ByteArray × Int) => (∃ g o, (some p : Option Addr) = some ⟨g, o, none⟩ ∧ g < w.heap.size ∧ w.cell? ⟨g, o + j * 3, none⟩ = some (.int .u8 (x.1 : Nat)) ∧ w.cell? ⟨g, o + j * 3 + 1, none⟩ = some (.string x.2.1) ∧ w.cell? ⟨g, o + j * 3 + 2, none⟩ = some (.int .i64 x.2.2)) ∧ x.1 ≤ 255 ∧ -9223372036854775808 ≤ x.2.2 ∧ x.2.2 ≤ 9223372036854775807) len (fun i hlt => by
      have h0 : p.spot = none := by
        obtain ⟨cs0, hc0, -⟩ := hi 0 (by omega)
        rw [stepCells7] at hc0
        obtain ⟨_, hlen0, hat0⟩ := World.cells?_some hc0
        have := hat0 0 (by omega)
        rw [List.getElem?_eq_getElem (by omega)] at this
        simpa [Addr.add] using World.cell?_spot this
      obtain ⟨g, o, s⟩ := p
      subst h0
      obtain ⟨cs', hc', ht'⟩ := hi i (by omega)
      obtain ⟨ys, n', hn', hy, hlen, hyl, hfld⟩ := DataW.trod_struct Try.underlying32 ht'
      rw [stepCells7] at hc' hlen
      obtain ⟨_, _, hat⟩ := World.cells?_some hc'
      match cs', hlen with
      | [u0, u1, u2], _ =>
        have f0 := hfld 0 _ rfl
        have f1 := hfld 1 _ rfl
        have f2 := hfld 2 _ rfl
        have a0 := hat 0 (by omega)
        have a1 := hat 1 (by omega)
        have a2 := hat 2 (by omega)
        match ys, hyl with
        | [y0, y1, y2], _ =>
          simp only [List.getElem_toArray, List.getElem_cons_zero, List.getElem_cons_succ] at f0 f1 f2
          rw [cellsU87] at f0
          rw [cellsStr7] at f1
          rw [cellsInt7] at f2
          have f0' : DataW.trod enc Try.prog w base spare held n' 5 [u0] = some y0 := f0
          have f1' : DataW.trod enc Try.prog w base spare held n' 9 [u1] = some y1 := f1
          have f2' : DataW.trod enc Try.prog w base spare held n' 3 [u2] = some y2 := f2
          obtain ⟨k, hk, -, hkw⟩ := DataW.trod_int Try.underlying5 f0'
          obtain ⟨s, hs, -, -⟩ := DataW.trod_string Try.underlying9 f1'
          obtain ⟨v, hv, -, hvw⟩ := DataW.trod_int Try.underlying3 f2'
          injection hk with hk _
          injection hs with hs _
          injection hv with hv _
          subst hk; subst hs; subst hv
          simp only [Addr.add_lit] at a0 a1 a2
          have r0 := bounds_u8 hkw
          have r1 := bounds_i64 hvw
          obtain ⟨k', rfl⟩ : ∃ k' : Nat, k = k' := ⟨k.toNat, by omega⟩
          exact ⟨(k', s, v), ⟨g, o, rfl, World.block_lt_of_cell? _ _ a0, a0, a1, a2⟩, by show k' ≤ 255; omega, by show -9223372036854775808 ≤ v; omega, by show v ≤ 9223372036854775807; omega⟩)
    refine ⟨xs, hxl, hl, by unfold maxLen at hc; omega, hx⟩

/-- The two New: both nil, with one number, or two lists without elements. -/
theorem new2 (most : Int) (W : World) : ∃ e0 : Nat, Calls Try.prog 11 #[.int .i64 most] W fun e w' => ∃ u, e = .returned (.tuple #[.pointer u, .int .i64 (e0 : Nat)]) ∧ Hid (Below W.heap.size W w') ∧
    Hid (Calls Try.prog 12 #[.int .i64 most] w' fun e w'' => ∃ u2, e = .returned (.tuple #[.pointer u2, .int .i64 (e0 : Nat)]) ∧ ((u = none ∧ u2 = none) ∨ ∃ x y, u = some x ∧ u2 = some y) ∧ Hid (Pair (fun k => k < W.heap.size) w'' 0 u u2 ∧ Below W.heap.size W w'')) := by
  by_cases hm : most < 0 ∨ 100000 < most
  · refine ⟨2, (newBadS most hm W).mono fun e w' ⟨he, hw⟩ => ?_⟩
    subst hw
    exact ⟨_, he, Lib.hid (Below.refl _ _), Lib.hid ((rnewBad most hm w').mono fun e2 w2 ⟨h1, h2⟩ => ⟨_, h1, .inl ⟨rfl, rfl⟩, Lib.hid ⟨Pair.nils _ _ _, by subst h2; exact Below.refl _ _⟩⟩)⟩
  · obtain ⟨lim, rfl⟩ : ∃ lim : Nat, most = lim := ⟨most.toNat, by omega⟩
    refine ⟨0, (newS lim (by omega) W).mono fun e w' ⟨he, hL, hb, hs⟩ => ⟨_, he, Lib.hid hb, Lib.hid ?_⟩⟩
    refine (rnew lim (by omega) w').mono fun e2 w2 ⟨h1, hR, hb2, hs2⟩ => ⟨_, h1, .inr ⟨_, _, rfl, rfl⟩, Lib.hid ⟨.inr ⟨_, _, _, _, _, _, _, _, _, rfl, rfl, ⟨hL.below hb2, hR, ?_, ?_⟩, Nat.le_refl _⟩, hb.trans (hb2.mono hb.size)⟩⟩
    · intro k hk hk'
      rcases hk with rfl | ⟨a, ha, rfl⟩
      · rcases hk' with e | ⟨a, ha, e⟩
        · omega
        · cases ha
      · cases ha
    · intro k hk
      show ¬ k < W.heap.size
      rcases hk with (rfl | ⟨a, ha, rfl⟩) | (rfl | ⟨a, ha, rfl⟩)
      · omega
      · cases ha
      · omega
      · cases ha
end Go.Proofs.Ytahccgbmbnmcgaa
