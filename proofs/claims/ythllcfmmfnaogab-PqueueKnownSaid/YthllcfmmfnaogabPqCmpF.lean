/- Two numbers with a point compared. -/
import Derived.Test.YthllcfmmfnaogabPqBaseF
import Derived.Test.YthllcfmmfnaogabPqCmpV
import Derived.Deep.LoopGhost
import Derived.Lib.Hide
namespace Go.Proofs.Ythllcfmmfnaogab
open Go Go.RowKit

set_option maxHeartbeats 800000 in
set_option maxRecDepth 100000 in
theorem nanF (x : Fl) (W : World) : Calls Try.prog 60 #[Value.float .f64 <| fB x] W fun e w' => e = .returned (.bool false) ∧ w' = W := by
  have hx := neqF x
  have hg := eqgF x x
  generalize (Value.float .f64 (fB x)) = v at *
  go_enter Try.func60, Try.ntmps60
  go_wp2_with fail
  go_ret
  exact ⟨rfl, rfl⟩

set_option maxHeartbeats 800000 in
set_option maxRecDepth 100000 in
theorem cmpF (x y : Fl) (W : World) : Calls Try.prog 53 #[Value.float .f64 <| fB x, Value.float .f64 <| fB y] W fun e w' => e = .returned (.int .i64 (cmpV ltF x y)) ∧ w' = W := by
  have h1 := lssF x y
  have h2 := gtrF x y
  have n1 := nanF x W
  have n2 := nanF y W
  unfold cmpV
  generalize (Value.float .f64 (fB x)) = u at *
  generalize (Value.float .f64 (fB y)) = v at *
  cases k1 : ltF x y with
  | true =>
    rw [k1] at h1
    clear h2
    go_enter Try.func53, Try.ntmps53
    go_wp2_with fail
    refine n1.mono ?_
    rintro e w1 ⟨rfl, rfl⟩
    go_wp2_with fail
    refine n2.mono ?_
    rintro e w1 ⟨rfl, rfl⟩
    go_wp2_with fail
    go_ret
    exact ⟨rfl, rfl⟩
  | false =>
    rw [k1] at h1
    cases k2 : ltF y x with
    | true =>
      rw [k2] at h2
      go_enter Try.func53, Try.ntmps53
      go_wp2_with fail
      refine n1.mono ?_
      rintro e w1 ⟨rfl, rfl⟩
      go_wp2_with fail
      refine n2.mono ?_
      rintro e w1 ⟨rfl, rfl⟩
      go_wp2_with fail
      go_ret
      exact ⟨rfl, rfl⟩
    | false =>
      rw [k2] at h2
      go_enter Try.func53, Try.ntmps53
      go_wp2_with fail
      refine n1.mono ?_
      rintro e w1 ⟨rfl, rfl⟩
      go_wp2_with fail
      refine n2.mono ?_
      rintro e w1 ⟨rfl, rfl⟩
      go_wp2_with fail
      go_ret
      exact ⟨rfl, rfl⟩
end Go.Proofs.Ythllcfmmfnaogab
