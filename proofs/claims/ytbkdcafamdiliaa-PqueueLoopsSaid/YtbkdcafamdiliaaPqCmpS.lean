/- Two priorities compared, two items compared. -/
import Derived.Test.YtbkdcafamdiliaaPqBaseS
import Derived.Test.YtbkdcafamdiliaaPqCmpV
import Derived.Deep.LoopGhost
import Derived.Lib.Hide
namespace Go.Proofs.Ytbkdcafamdiliaa
open Go Go.RowKit

set_option maxHeartbeats 800000 in
set_option maxRecDepth 100000 in
theorem cmpS (x y : ByteArray) (W : World) : Calls Try.prog 239 #[Value.string x, Value.string y] W fun e w' => e = .returned (.int .i64 (cmpV ltS x y)) ∧ w' = W := by
  have hx := eqReflltS x
  have hy := eqReflltS y
  unfold cmpV
  cases h1 : ltS x y with
  | true =>
    unfold ltS at h1
    go_enter Try.func239, Try.ntmps239
    go_wp2
    go_ret
    exact ⟨rfl, rfl⟩
  | false =>
    cases h2 : ltS y x with
    | true =>
      have hgt := gtrltS x y h1
      rw [h2] at hgt
      try simp only [Bool.not_true, Bool.not_false] at hgt
      unfold ltS at h1
      go_enter Try.func239, Try.ntmps239
      go_wp2
      go_ret
      exact ⟨rfl, rfl⟩
    | false =>
      have hgt := gtrltS x y h1
      rw [h2] at hgt
      try simp only [Bool.not_true, Bool.not_false] at hgt
      unfold ltS at h1
      go_enter Try.func239, Try.ntmps239
      go_wp2
      go_ret
      exact ⟨rfl, rfl⟩
end Go.Proofs.Ytbkdcafamdiliaa
