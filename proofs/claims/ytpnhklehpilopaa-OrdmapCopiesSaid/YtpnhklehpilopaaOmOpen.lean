/- The argument of the laws on ordmap: a slice of calls. -/
import Derived.Test.YtpnhklehpilopaaOmFilled
import Derived.Test.YtpnhklehpilopaaFrame3
import Derived.Deep.Slices
import Derived.ChangeSame
import Derived.OpenShut
namespace Go.Proofs.Ytpnhklehpilopaa
open Go Go.ChangeShapes Go.WideShapes Go.ChangeAt Go.RowKit

theorem list_of {α : Type} {Q : Nat → α → Prop} : ∀ n : Nat, (∀ i, i < n → ∃ x, Q i x) → ∃ xs : List α, xs.length = n ∧ ∀ (j : Nat) x, xs[j]? = some x → Q j x
  | 0, _ => ⟨[], rfl, fun j x h => by simp at h⟩
  | n + 1, h => by
    obtain ⟨xs, hl, hx⟩ := list_of n (fun i hi => h i (by omega))
    obtain ⟨x, hq⟩ := h n (by omega)
    refine ⟨xs ++ [x], by simp [hl], fun j y hy => ?_⟩
    by_cases hj : j < n
    · rw [List.getElem?_append_left (by omega)] at hy
      exact hx j y hy
    · have : j < n + 1 := by have := (List.getElem?_eq_some_iff.1 hy).1; simp [hl] at this; exact this
      obtain rfl : j = n := by omega
      rw [List.getElem?_append_right (by omega), hl, Nat.sub_self] at hy
      injection hy with hy
      exact hy ▸ hq

theorem callCells : Try.prog.cellsOf 66 = 3 := by kernel_rfl
theorem cellsBool : Try.prog.cellsOf 4 = 1 := by kernel_rfl
theorem cellsI16 : Try.prog.cellsOf 64 = 1 := by kernel_rfl

set_option maxRecDepth 100000 in
theorem open_calls {H : Type} {enc : TypeId × Value → H} {w : World} {base : Nat} {spare : Nat → Bool} {held : Bool} {a : Option Addr} {len cap : Nat} {d : DataW H} {ps : List MemPlace}
    (h : DataW.Trod enc Try.prog w base spare held 45 (.slice a len cap) d ps) :
    ∃ xs : List (Bool × Int × Int), xs.length = len ∧ len ≤ cap ∧ cap ≤ 9223372036854775807 ∧ CallsAt w w.heap.size a xs := by
  obtain ⟨fuel, hf⟩ := h
  rcases Go.Deep.open_slice Try.underlying45 hf with ⟨hcs, _⟩ | ⟨p, l, c, m, n, D, Pl, hcs, _, hl, hc, hm, _, hi⟩
  · simp [Value.cells] at hcs
    obtain ⟨rfl, rfl, rfl⟩ := hcs
    exact ⟨[], rfl, Nat.le_refl _, by omega, fun j x hx => by simp at hx⟩
  · simp [Value.cells] at hcs
    obtain ⟨rfl, rfl, rfl⟩ := hcs
    have hlm : len ≤ m := by rw [hm]; split <;> omega
    obtain ⟨xs, hxl, hx⟩ := list_of (Q := fun j (x : Bool × Int × Int) => (∃ g o, (some p : Option Addr) = some ⟨g, o, none⟩ ∧ g < w.heap.size ∧ w.cell? ⟨g, o + j * 3, none⟩ = some (.bool x.1) ∧ w.cell? ⟨g, o + j * 3 + 1, none⟩ = some (.int .i16 x.2.1) ∧ w.cell? ⟨g, o + j * 3 + 2, none⟩ = some (.int .i16 x.2.2)) ∧
        -32768 ≤ x.2.1 ∧ x.2.1 ≤ 32767 ∧ -32768 ≤ x.2.2 ∧ x.2.2 ≤ 32767) len (fun i hlt => by
      have h0 : p.spot = none := by
        obtain ⟨cs0, hc0, -⟩ := hi 0 (by omega)
        rw [callCells] at hc0
        obtain ⟨_, hlen0, hat0⟩ := World.cells?_some hc0
        have := hat0 0 (by omega)
        rw [List.getElem?_eq_getElem (by omega)] at this
        simpa [Addr.add] using World.cell?_spot this
      obtain ⟨g, o, s⟩ := p
      subst h0
      obtain ⟨cs', hc', ht'⟩ := hi i (by omega)
      obtain ⟨ys, n', hn', hy, hlen, hyl, hfld⟩ := DataW.trod_struct Try.underlying66 ht'
      rw [callCells] at hc' hlen
      obtain ⟨_, _, hat⟩ := World.cells?_some hc'
      match cs', hlen with
      | [u0, u1, u2], _ =>
        have f0 := hfld 0 _ rfl
        have f1 := hfld 1 _ rfl
        have f2 := hfld 2 _ rfl
        have a0 := hat 0 (by omega)
        have a1 := hat 1 (by omega)
        have a2 := hat 2 (by omega)
        match ys, hyl with
        | [y0, y1, y2], _ =>
          simp only [List.getElem_toArray, List.getElem_cons_zero, List.getElem_cons_succ] at f0 f1 f2
          rw [cellsBool] at f0
          rw [cellsI16] at f1 f2
          have f0' : DataW.trod enc Try.prog w base spare held n' 4 [u0] = some y0 := f0
          have f1' : DataW.trod enc Try.prog w base spare held n' 64 [u1] = some y1 := f1
          have f2' : DataW.trod enc Try.prog w base spare held n' 64 [u2] = some y2 := f2
          obtain ⟨b, hb, -⟩ := DataW.trod_bool Try.underlying4 f0'
          obtain ⟨k, hk, -, hkw⟩ := DataW.trod_int Try.underlying64 f1'
          obtain ⟨v, hv, -, hvw⟩ := DataW.trod_int Try.underlying64 f2'
          injection hb with hb _
          injection hk with hk _
          injection hv with hv _
          subst hb; subst hk; subst hv
          simp only [Addr.add_lit] at a0 a1 a2
          have r1 := bounds_i16 hkw
          have r2 := bounds_i16 hvw
          exact ⟨(b, k, v), ⟨g, o, rfl, World.block_lt_of_cell? _ _ a0, a0, a1, a2⟩, r1.1, r1.2, r2.1, r2.2⟩)
    refine ⟨xs, hxl, hl, by unfold maxLen at hc; omega, hx⟩
end Go.Proofs.Ytpnhklehpilopaa
