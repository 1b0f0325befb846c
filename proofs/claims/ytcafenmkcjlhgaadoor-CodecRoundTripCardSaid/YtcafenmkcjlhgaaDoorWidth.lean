/- codec.isWidth -/
import Derived.Test.YtcafenmkcjlhgaaDoorBytes
namespace Go.Proofs.YtcafenmkcjlhgaaDoor
open Go Go.RowKit

set_option maxHeartbeats 400000 in
theorem isWidth_any (n : Int) (w : World) (h : WTab w) :
    Calls Tryd.prog 27 #[.int .i64 n] w fun e w' => e = .returned (.bool (isW n)) ∧ w = w' := by
  obtain ⟨c0, c1, c2, c3⟩ := h
  have i0 : ∀ w, (Instr.index 58 (.agg #[.int .i64 1, .int .i64 2, .int .i64 4, .int .i64 8]) (.int .i64 0)).run Tryd.prog w = .ok (.int .i64 1) w := fun _ => by kernel_rfl
  have i1 : ∀ w, (Instr.index 58 (.agg #[.int .i64 1, .int .i64 2, .int .i64 4, .int .i64 8]) (.int .i64 1)).run Tryd.prog w = .ok (.int .i64 2) w := fun _ => by kernel_rfl
  have i2 : ∀ w, (Instr.index 58 (.agg #[.int .i64 1, .int .i64 2, .int .i64 4, .int .i64 8]) (.int .i64 2)).run Tryd.prog w = .ok (.int .i64 4) w := fun _ => by kernel_rfl
  have i3 : ∀ w, (Instr.index 58 (.agg #[.int .i64 1, .int .i64 2, .int .i64 4, .int .i64 8]) (.int .i64 3)).run Tryd.prog w = .ok (.int .i64 8) w := fun _ => by kernel_rfl
  go_enter Tryd.func27, Tryd.ntmps27
  go_wp2
  go_loop [4, 6] (fun _ i => ∃ k : Nat, k ≤ 4 ∧ i = .int .i64 k ∧ (1 ≤ k → n ≠ 1) ∧ (2 ≤ k → n ≠ 2) ∧ (3 ≤ k → n ≠ 4) ∧ (4 ≤ k → n ≠ 8)) (fun _ i => 4 - (intOf i).toNat)
  case atStart => exact ⟨0, by omega, rfl, by omega, by omega, by omega, by omega⟩
  case round =>
    obtain ⟨k, hk, rfl, h1, h2, h3, h4⟩ := hrel
    have hk' : k = 0 ∨ k = 1 ∨ k = 2 ∨ k = 3 ∨ k = 4 := by omega
    rcases hk' with rfl | rfl | rfl | rfl | rfl
    · clear h1 h2 h3 h4
      by_cases hn : n = 1
      · subst hn
        go_wp2
        go_ret
        exact ⟨rfl, rfl⟩
      · have hb : (n == 1) = false := by simp [hn]
        go_wp2
        go_round
        case rel => exact ⟨1, by omega, rfl, by omega, by omega, by omega, by omega⟩
        case measure => simp [intOf]
    · have g1 := h1 (by omega); clear h1 h2 h3 h4
      by_cases hn : n = 2
      · subst hn
        go_wp2
        go_ret
        exact ⟨rfl, rfl⟩
      · have hb : (n == 2) = false := by simp [hn]
        go_wp2
        go_round
        case rel => exact ⟨2, by omega, rfl, by omega, by omega, by omega, by omega⟩
        case measure => simp [intOf]
    · have g1 := h1 (by omega); have g2 := h2 (by omega); clear h1 h2 h3 h4
      by_cases hn : n = 4
      · subst hn
        go_wp2
        go_ret
        exact ⟨rfl, rfl⟩
      · have hb : (n == 4) = false := by simp [hn]
        go_wp2
        go_round
        case rel => exact ⟨3, by omega, rfl, by omega, by omega, by omega, by omega⟩
        case measure => simp [intOf]
    · have g1 := h1 (by omega); have g2 := h2 (by omega); have g3 := h3 (by omega); clear h1 h2 h3 h4
      by_cases hn : n = 8
      · subst hn
        go_wp2
        go_ret
        exact ⟨rfl, rfl⟩
      · have hb : (n == 8) = false := by simp [hn]
        go_wp2
        go_round
        case rel => exact ⟨4, by omega, rfl, by omega, by omega, by omega, by omega⟩
        case measure => simp [intOf]
    · have g1 := h1 (by omega); have g2 := h2 (by omega); have g3 := h3 (by omega); have g4 := h4 (by omega); clear h1 h2 h3 h4
      have hf : isW n = false := by simp [isW, g1, g2, g3, g4]
      have HF := Lib.hid hf
      clear hf g1 g2 g3 g4
      go_wp2
      go_ret
      exact ⟨by rw [HF.out]; rfl, rfl⟩
end Go.Proofs.YtcafenmkcjlhgaaDoor
