/- Slices of bytes, cut. -/
import Derived.Test.YtcafenmkcjlhgaaDoorApi
import Derived.Test.YtcafenmkcjlhgaaDoorMath3
namespace Go.Proofs.YtcafenmkcjlhgaaDoor
open Go Go.RowKit

/-- The first bytes of a slice. -/
theorem Sl.take {w : World} {p : Option Addr} {n c : Nat} {l : List Int} (h : Sl w p n c l) (k : Nat) (hk : k ≤ n) : Sl w p k c (l.take k) := by
  refine ⟨by rw [List.length_take, h.len]; omega, Nat.le_trans hk h.cap, ?_, ?_, fun x hx => h.rng x (List.mem_of_mem_take hx)⟩
  · intro hpos
    obtain ⟨b, o, hp, hc⟩ := h.bytes (by omega)
    refine ⟨b, o, hp, fun i hi => ?_⟩
    rw [hc i (by omega)]
    simp [List.getD, hi]
  · intro hp
    have := h.nil hp
    exact ⟨by omega, this.2⟩

end Go.Proofs.YtcafenmkcjlhgaaDoor
