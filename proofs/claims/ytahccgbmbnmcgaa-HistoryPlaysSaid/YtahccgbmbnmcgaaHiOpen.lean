/- The arguments of the laws on histories: slices of moves. -/
import Derived.Test.YtahccgbmbnmcgaaHiMade
import Derived.Test.YtahccgbmbnmcgaaFrame3
import Derived.Deep.Slices
import Derived.ChangeSame
import Derived.OpenShut
namespace Go.Proofs.Ytahccgbmbnmcgaa
open Go Go.ChangeShapes Go.WideShapes Go.ChangeAt Go.RowKit

theorem list_of7 {α : Type} {Q : Nat → α → Prop} : ∀ n : Nat, (∀ i, i < n → ∃ x, Q i x) → ∃ xs : List α, xs.length = n ∧ ∀ (j : Nat) x, xs[j]? = some x → Q j x
  | 0, _ => ⟨[], rfl, fun j x h => by simp at h⟩
  | n + 1, h => by
    obtain ⟨xs, hl, hx⟩ := list_of7 n (fun i hi => h i (by omega))
    obtain ⟨x, hq⟩ := h n (by omega)
    refine ⟨xs ++ [x], by simp [hl], fun j y hy => ?_⟩
    by_cases hj : j < n
    · rw [List.getElem?_append_left (by omega)] at hy
      exact hx j y hy
    · have : j < n + 1 := by have := (List.getElem?_eq_some_iff.1 hy).1; simp [hl] at this; exact this
      obtain rfl : j = n := by omega
      rw [List.getElem?_append_right (by omega), hl, Nat.sub_self] at hy
      injection hy with hy
      exact hy ▸ hq

theorem moveCells : Try.prog.cellsOf 51 = 2 := by kernel_rfl
theorem cellsU87 : Try.prog.cellsOf 5 = 1 := by kernel_rfl
theorem cellsU167 : Try.prog.cellsOf 49 = 1 := by kernel_rfl

set_option maxRecDepth 100000 in
theorem open_moves {H : Type} {enc : TypeId × Value → H} {w : World} {base : Nat} {spare : Nat → Bool} {held : Bool} {a : Option Addr} {len cap : Nat} {d : DataW H} {ps : List MemPlace}
    (h : DataW.Trod enc Try.prog w base spare held 44 (.slice a len cap) d ps) :
    ∃ xs : List (Nat × Nat), xs.length = len ∧ len ≤ cap ∧ cap ≤ 9223372036854775807 ∧ MovesAt w w.heap.size a xs := by
  obtain ⟨fuel, hf⟩ := h
  rcases Go.Deep.open_slice Try.underlying44 hf with ⟨hcs, _⟩ | ⟨p, l, c, m, n, D, Pl, hcs, _, hl, hc, hm, _, hi⟩
  · simp [Value.cells] at hcs
    obtain ⟨rfl, rfl, rfl⟩ := hcs
    exact ⟨[], rfl, Nat.le_refl _, by omega, fun j x hx => by simp at hx⟩
  · simp [Value.cells] at hcs
    obtain ⟨rfl, rfl, rfl⟩ := hcs
    have hlm : len ≤ m := by rw [hm]; split <;> omega
    obtain ⟨xs, hxl, hx⟩ := list_of7 (Q := fun j (x : Nat × Nat) => (∃ g o, (some p : Option Addr) = some ⟨g, o, none⟩ ∧ g < w.heap.size ∧ w.cell? ⟨g, o + j * 2, none⟩ = some (.int .u8 (x.1 : Nat)) ∧ w.cell? ⟨g, o + j * 2 + 1, none⟩ = some (.int .u16 (x.2 : Nat))) ∧ x.1 ≤ 255 ∧ x.2 ≤ 65535) len (fun i hlt => by
      have h0 : p.spot = none := by
        obtain ⟨cs0, hc0, -⟩ := hi 0 (by omega)
        rw [moveCells] at hc0
        obtain ⟨_, hlen0, hat0⟩ := World.cells?_some hc0
        have := hat0 0 (by omega)
        rw [List.getElem?_eq_getElem (by omega)] at this
        simpa [Addr.add] using World.cell?_spot this
      obtain ⟨g, o, s⟩ := p
      subst h0
      obtain ⟨cs', hc', ht'⟩ := hi i (by omega)
      obtain ⟨ys, n', hn', hy, hlen, hyl, hfld⟩ := DataW.trod_struct Try.underlying51 ht'
      rw [moveCells] at hc' hlen
      obtain ⟨_, _, hat⟩ := World.cells?_some hc'
      match cs', hlen with
      | [u0, u1], _ =>
        have f0 := hfld 0 _ rfl
        have f1 := hfld 1 _ rfl
        have a0 := hat 0 (by omega)
        have a1 := hat 1 (by omega)
        match ys, hyl with
        | [y0, y1], _ =>
          simp only [List.getElem_toArray, List.getElem_cons_zero, List.getElem_cons_succ] at f0 f1
          rw [cellsU87] at f0
          rw [cellsU167] at f1
          have f0' : DataW.trod enc Try.prog w base spare held n' 5 [u0] = some y0 := f0
          have f1' : DataW.trod enc Try.prog w base spare held n' 49 [u1] = some y1 := f1
          obtain ⟨k, hk, -, hkw⟩ := DataW.trod_int Try.underlying5 f0'
          obtain ⟨v, hv, -, hvw⟩ := DataW.trod_int Try.underlying49 f1'
          injection hk with hk _
          injection hv with hv _
          subst hk; subst hv
          simp only [Addr.add_lit] at a0 a1
          have r0 := bounds_u8 hkw
          have r1 := bounds_u16 hvw
          obtain ⟨k', rfl⟩ : ∃ k' : Nat, k = k' := ⟨k.toNat, by omega⟩
          obtain ⟨v', rfl⟩ : ∃ v' : Nat, v = v' := ⟨v.toNat, by omega⟩
          exact ⟨(k', v'), ⟨g, o, rfl, World.block_lt_of_cell? _ _ a0, a0, a1⟩, by show k' ≤ 255; omega, by show v' ≤ 65535; omega⟩)
    refine ⟨xs, hxl, hl, by unfold maxLen at hc; omega, hx⟩
end Go.Proofs.Ytahccgbmbnmcgaa
