/- cmp.Or of two integers. -/
import Derived.Test.YtbkdcafamdiliaaPqCmpV
import Derived.Test.YtbkdcafamdiliaaProg
import Derived.Lib.Hide
import Derived.Outline
namespace Go.Proofs.Ytbkdcafamdiliaa
open Go Go.RowKit

set_option maxHeartbeats 800000 in
set_option maxRecDepth 100000 in
theorem or2_any (B : Nat) (a b : Int) (W : World) (h0 : W.cell? ⟨B, 0, none⟩ = some (.int .i64 a)) (h1 : W.cell? ⟨B, 1, none⟩ = some (.int .i64 b)) :
    Calls Try.prog 236 #[.slice (some ⟨B, 0, none⟩) 2 2] W fun e w' => e = .returned (.int .i64 (orV a b)) ∧ w' = W := by
  unfold orV
  by_cases ha : a = 0
  · subst ha
    rw [if_pos rfl]
    by_cases hb : b = 0
    · subst hb
      go_enter Try.func236, Try.ntmps236
      go_wp2
      go_loop [8] (fun i => ∃ k : Nat, k ≤ 2 ∧ i = .int .i64 k) (fun i => 2 - (intOf i).toNat)
      case atStart => exact ⟨0, by omega, rfl⟩
      case round =>
        obtain ⟨k, hk, rfl⟩ := hrel
        by_cases hlt : k < 2
        · have hc : W.cell? ⟨B, k, none⟩ = some (.int .i64 0) := by
            rcases (by omega : k = 0 ∨ k = 1) with rfl | rfl
            · exact h0
            · exact h1
          go_wp2
          go_round
          case rel => exact ⟨k + 1, by omega, by go_num⟩
          case measure => simp [intOf]; omega
        · obtain rfl : k = 2 := by omega
          go_wp2
          go_ret
          exact ⟨rfl, rfl⟩
    · have hb1 : (b != 0) = true := by simpa using hb
      have hb2 : (b == 0) = false := by simpa using hb
      have HB := Lib.hid hb
      clear hb
      go_enter Try.func236, Try.ntmps236
      go_wp2
      go_loop [8] (fun i => ∃ k : Nat, k ≤ 1 ∧ i = .int .i64 k) (fun i => 2 - (intOf i).toNat)
      case atStart => exact ⟨0, by omega, rfl⟩
      case round =>
        obtain ⟨k, hk, rfl⟩ := hrel
        by_cases hlt : k < 1
        · obtain rfl : k = 0 := by omega
          go_wp2
          go_round
          case rel => exact ⟨1, by omega, rfl⟩
          case measure => simp [intOf]
        · obtain rfl : k = 1 := by omega
          go_wp2
          go_ret
          exact ⟨rfl, rfl⟩
  · have hb1 : (a != 0) = true := by simpa using ha
    have hb2 : (a == 0) = false := by simpa using ha
    rw [if_neg ha]
    clear ha
    go_enter Try.func236, Try.ntmps236
    go_wp2
    go_loop [8] (fun i => i = .int .i64 0) (fun i => 2 - (intOf i).toNat)
    case atStart => rfl
    case round =>
      subst hrel
      go_wp2
      go_ret
      exact ⟨rfl, rfl⟩
end Go.Proofs.Ytbkdcafamdiliaa
