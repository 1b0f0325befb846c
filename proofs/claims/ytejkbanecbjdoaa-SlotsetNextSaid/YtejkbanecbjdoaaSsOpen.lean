/- The argument of the laws on sets: a slice of bytes. -/
import Derived.Test.YtejkbanecbjdoaaSsFill
import Derived.Test.YtejkbanecbjdoaaFrame3
import Derived.ChangeSlices
import Derived.ChangeSame
import Derived.OpenShut
namespace Go.Proofs.Ytejkbanecbjdoaa
open Go Go.ChangeShapes Go.WideShapes Go.ChangeAt Go.RowKit

theorem open_u8s {H : Type} {enc : TypeId × Value → H} {w : World} {base : Nat} {spare : Nat → Bool} {held : Bool} {a : Option Addr} {len cap : Nat} {d : DataW H} {ps : List MemPlace}
    (h : DataW.Trod enc Try.prog w base spare held 52 (.slice a len cap) d ps) :
    ∃ xs : List Nat, xs.length = len ∧ len ≤ cap ∧ cap ≤ 9223372036854775807 ∧ RdU w a xs := by
  obtain ⟨fuel, hf⟩ := h
  rcases open_ints Try.underlying52 Try.underlying5 (by kernel_rfl) hf with ⟨hcs, _⟩ | ⟨x, l, c, zs, hcs, _, hl, hm, hz, _, hcell, hwz⟩
  · simp [Value.cells] at hcs
    obtain ⟨rfl, rfl, rfl⟩ := hcs
    exact ⟨[], rfl, Nat.le_refl _, by omega, fun j x hx => by simp at hx⟩
  · simp [Value.cells] at hcs
    obtain ⟨rfl, rfl, rfl⟩ := hcs
    have hlz : len ≤ zs.length := by rw [hz]; split <;> omega
    refine ⟨(zs.take len).map Int.toNat, by simp; omega, hl, by unfold maxLen at hm; omega, fun j y hy => ?_⟩
    have hj : j < len := by have := (List.getElem?_eq_some_iff.1 hy).1; simp at this; omega
    have hjz : j < zs.length := by omega
    rw [List.getElem?_map, List.getElem?_take, if_pos hj, List.getElem?_eq_getElem hjz] at hy
    simp only [Option.map_some, Option.some.injEq] at hy
    have hw := bounds_u8 (hwz zs[j] (List.getElem_mem hjz))
    have hc := hcell j hjz
    rw [List.getD_eq_getElem?_getD, List.getElem?_eq_getElem hjz] at hc
    have hyz : zs[j] = (y : Int) := by omega
    have hc' : w.cell? (x.add j) = some (.int .u8 (y : Nat)) := by rw [← hyz]; exact hc
    have hsp : x.spot = none := by simpa [Addr.add] using World.cell?_spot (hcell 0 (by omega))
    obtain ⟨g, o, s⟩ := x
    subst hsp
    rw [Addr.add_lit] at hc'
    exact ⟨by omega, g, o, rfl, World.block_lt_of_cell? _ _ hc', hc'⟩
end Go.Proofs.Ytejkbanecbjdoaa
