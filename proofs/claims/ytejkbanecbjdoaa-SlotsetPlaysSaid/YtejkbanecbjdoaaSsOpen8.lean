/- The argument of SlotsetPlays, opened. -/
import Derived.Test.YtejkbanecbjdoaaSsSteps
import Derived.Test.YtejkbanecbjdoaaFrame3
import Derived.Deep.Slices
import Derived.ChangeSlices
import Derived.ChangeSame
import Derived.OpenShut
namespace Go.Proofs.Ytejkbanecbjdoaa
open Go Go.ChangeShapes Go.WideShapes Go.ChangeAt Go.RowKit

theorem list_of8 {α : Type} {Q : Nat → α → Prop} : ∀ n : Nat, (∀ i, i < n → ∃ x, Q i x) → ∃ xs : List α, xs.length = n ∧ ∀ (j : Nat) x, xs[j]? = some x → Q j x
  | 0, _ => ⟨[], rfl, fun j x h => by simp at h⟩
  | n + 1, h => by
    obtain ⟨xs, hl, hx⟩ := list_of8 n (fun i hi => h i (by omega))
    obtain ⟨x, hq⟩ := h n (by omega)
    refine ⟨xs ++ [x], by simp [hl], fun j y hy => ?_⟩
    by_cases hj : j < n
    · rw [List.getElem?_append_left (by omega)] at hy
      exact hx j y hy
    · have : j < n + 1 := by have := (List.getElem?_eq_some_iff.1 hy).1; simp [hl] at this; exact this
      obtain rfl : j = n := by omega
      rw [List.getElem?_append_right (by omega), hl, Nat.sub_self] at hy
      injection hy with hy
      exact hy ▸ hq

theorem stepCells8 : Try.prog.cellsOf 26 = 3 := by kernel_rfl
theorem cellsInt8 : Try.prog.cellsOf 3 = 1 := by kernel_rfl
theorem cellsInts8 : Try.prog.cellsOf 24 = 1 := by kernel_rfl

set_option maxRecDepth 100000 in
theorem open_steps8 {H : Type} {enc : TypeId × Value → H} {w : World} {base : Nat} {spare : Nat → Bool} {held : Bool} {a : Option Addr} {len cap : Nat} {d : DataW H} {ps : List MemPlace}
    (h : DataW.Trod enc Try.prog w base spare held 22 (.slice a len cap) d ps) :
    ∃ xs : List Stp, xs.length = len ∧ len ≤ cap ∧ cap ≤ 9223372036854775807 ∧ StepsAt8 w w.heap.size a xs := by
  obtain ⟨fuel, hf⟩ := h
  rcases Go.Deep.open_slice Try.underlying22 hf with ⟨hcs, _⟩ | ⟨p, l, c, m, n, D, Pl, hcs, _, hl, hc, hm, _, hi⟩
  · simp [Value.cells] at hcs
    obtain ⟨rfl, rfl, rfl⟩ := hcs
    exact ⟨[], rfl, Nat.le_refl _, by omega, fun j x hx => by simp at hx⟩
  · simp [Value.cells] at hcs
    obtain ⟨rfl, rfl, rfl⟩ := hcs
    have hlm : len ≤ m := by rw [hm]; split <;> omega
    obtain ⟨xs, hxl, hx⟩ := list_of8 (Q := fun j (x : Stp) => (∃ g o, (some p : Option Addr) = some ⟨g, o, none⟩ ∧ g < w.heap.size ∧ w.cell? ⟨g, o + j * 3, none⟩ = some (.int .i64 x.doo) ∧ w.cell? ⟨g, o + j * 3 + 1, none⟩ = some (.int .i64 x.ix) ∧ w.cell? ⟨g, o + j * 3 + 2, none⟩ = some (.slice x.p x.n x.c)) ∧ x.n ≤ x.c ∧ x.c ≤ 9223372036854775807 ∧
        ∀ k, k < x.n → ∃ g o z, x.p = some ⟨g, o, none⟩ ∧ g < w.heap.size ∧ w.cell? ⟨g, o + k, none⟩ = some (.int .i64 z)) len (fun i hlt => by
      have h0 : p.spot = none := by
        obtain ⟨cs0, hc0, -⟩ := hi 0 (by omega)
        rw [stepCells8] at hc0
        obtain ⟨_, hlen0, hat0⟩ := World.cells?_some hc0
        have := hat0 0 (by omega)
        rw [List.getElem?_eq_getElem (by omega)] at this
        simpa [Addr.add] using World.cell?_spot this
      obtain ⟨g, o, s⟩ := p
      subst h0
      obtain ⟨cs', hc', ht'⟩ := hi i (by omega)
      obtain ⟨ys, n', hn', hy, hlen, hyl, hfld⟩ := DataW.trod_struct Try.underlying26 ht'
      rw [stepCells8] at hc' hlen
      obtain ⟨_, _, hat⟩ := World.cells?_some hc'
      match cs', hlen with
      | [u0, u1, u2], _ =>
        have f0 := hfld 0 _ rfl
        have f1 := hfld 1 _ rfl
        have f2 := hfld 2 _ rfl
        have a0 := hat 0 (by omega)
        have a1 := hat 1 (by omega)
        have a2 := hat 2 (by omega)
        match ys, hyl with
        | [y0, y1, y2], _ =>
          simp only [List.getElem_toArray, List.getElem_cons_zero, List.getElem_cons_succ] at f0 f1 f2
          rw [cellsInt8] at f0 f1
          rw [cellsInts8] at f2
          have f0' : DataW.trod enc Try.prog w base spare held n' 3 [u0] = some y0 := f0
          have f1' : DataW.trod enc Try.prog w base spare held n' 3 [u1] = some y1 := f1
          have f2' : DataW.trod enc Try.prog w base spare held n' 24 [u2] = some y2 := f2
          obtain ⟨k, hk, -, hkw⟩ := DataW.trod_int Try.underlying3 f0'
          obtain ⟨v, hv, -, hvw⟩ := DataW.trod_int Try.underlying3 f1'
          injection hk with hk _
          injection hv with hv _
          subst hk; subst hv
          simp only [Addr.add_lit] at a0 a1 a2
          rcases open_ints Try.underlying24 Try.underlying3 (by kernel_rfl) f2' with ⟨hcs, _⟩ | ⟨x, l2, c2, zs, hcs, _, hl2, hm2, hz, _, hcell, hwz⟩
          · injection hcs with hcs _
            subst hcs
            exact ⟨⟨k, v, none, 0, 0⟩, ⟨g, o, rfl, World.block_lt_of_cell? _ _ a0, a0, a1, a2⟩, Nat.le_refl _, Nat.zero_le _, fun j hj => absurd hj (Nat.not_lt_zero _)⟩
          · injection hcs with hcs _
            subst hcs
            have hlz : l2 ≤ zs.length := by rw [hz]; split <;> omega
            refine ⟨⟨k, v, some x, l2, c2⟩, ⟨g, o, rfl, World.block_lt_of_cell? _ _ a0, a0, a1, a2⟩, hl2, by unfold maxLen at hm2; omega, fun j hj => ?_⟩
            have hc2 := hcell j (by have : j < l2 := hj; omega)
            have hsp : x.spot = none := by simpa [Addr.add] using World.cell?_spot (hcell 0 (by have : j < l2 := hj; omega))
            obtain ⟨g2, o2, s2⟩ := x
            subst hsp
            rw [Addr.add_lit] at hc2
            exact ⟨g2, o2, _, rfl, World.block_lt_of_cell? _ _ hc2, hc2⟩)
    refine ⟨xs, hxl, hl, by unfold maxLen at hc; omega, hx⟩
end Go.Proofs.Ytejkbanecbjdoaa
