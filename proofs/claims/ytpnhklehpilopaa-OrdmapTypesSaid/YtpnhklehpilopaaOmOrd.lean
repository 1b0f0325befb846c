/- The orders of the keys. -/
import Derived.Test.YtpnhklehpilopaaOmMath
import Derived.Deep.QuietTactic
import Derived.WalkKit
namespace Go.Proofs.Ytpnhklehpilopaa
open Go Go.RowKit

def ltI (a b : Int) : Bool := decide (a < b)
theorem ordI : KOrd ltI := ⟨fun a => by simp [ltI], fun a b c h1 h2 => by simp [ltI] at *; omega, fun a b h1 h2 => by simp [ltI] at *; omega⟩

theorem ltI_geq (a b : Int) : (!ltI a b) = decide (b ≤ a) := by unfold ltI; by_cases h : a < b <;> simp [h] <;> omega

theorem Below.drewN' {B : Nat} {a : World} : ∀ (n : Nat) {w : World}, Below B a w → Below B a (w.drewN n) := fun _ _ h => ⟨h.os, h.tape, h.output, h.size, h.block⟩
end Go.Proofs.Ytpnhklehpilopaa
