/- Two priorities compared, two items compared. -/
import Derived.Test.YtbkdcafamdiliaaPqBaseI
import Derived.Test.YtbkdcafamdiliaaPqCmpV
import Derived.Deep.LoopGhost
import Derived.Lib.Hide
namespace Go.Proofs.Ytbkdcafamdiliaa
open Go Go.RowKit

set_option maxHeartbeats 800000 in
set_option maxRecDepth 100000 in
theorem cmpI (x y : Int) (W : World) : Calls Try.prog 238 #[Value.int .i64 x, Value.int .i64 y] W fun e w' => e = .returned (.int .i64 (cmpV ltI x y)) ∧ w' = W := by
  have hx := eqReflltI x
  have hy := eqReflltI y
  unfold cmpV
  cases h1 : ltI x y with
  | true =>
    unfold ltI at h1
    go_enter Try.func238, Try.ntmps238
    go_wp2
    go_ret
    exact ⟨rfl, rfl⟩
  | false =>
    cases h2 : ltI y x with
    | true =>
      have hgt := gtrltI x y h1
      rw [h2] at hgt
      try simp only [Bool.not_true, Bool.not_false] at hgt
      unfold ltI at h1
      go_enter Try.func238, Try.ntmps238
      go_wp2
      go_ret
      exact ⟨rfl, rfl⟩
    | false =>
      have hgt := gtrltI x y h1
      rw [h2] at hgt
      try simp only [Bool.not_true, Bool.not_false] at hgt
      unfold ltI at h1
      go_enter Try.func238, Try.ntmps238
      go_wp2
      go_ret
      exact ⟨rfl, rfl⟩
end Go.Proofs.Ytbkdcafamdiliaa
