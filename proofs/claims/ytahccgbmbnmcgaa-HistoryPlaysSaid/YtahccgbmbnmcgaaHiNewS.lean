/- A new history. -/
import Derived.Test.YtahccgbmbnmcgaaHiAskS
namespace Go.Proofs.Ytahccgbmbnmcgaa
open Go Go.RowKit

set_option maxHeartbeats 800000 in
set_option maxRecDepth 100000 in
theorem newS (lim : Nat) (h2 : lim ≤ 100000) (W : World) : Calls Try.prog 11 #[.int .i64 (lim : Nat)] W fun e w' => e = .returned (.tuple #[.pointer (some ⟨W.heap.size, 0, none⟩), .int .i64 0]) ∧ HLS w' W.heap.size none 0 lim 0 [] ∧ Below W.heap.size W w' ∧ w'.heap.size = W.heap.size + 1 := by
  have h3 : ¬ (lim : Int) < 0 := by omega
  have h4 : ¬ (100000 : Int) < (lim : Int) := by omega
  go_enter Try.func11, Try.ntmps11
  go_wp2_with fail
  go_ret2
  exact ⟨rfl, ⟨heap_alloc_new W _, ⟨World.ownsRow_nil _ _ _ _, (fun e he => by simp at he)⟩, (fun a h => by cases h), Nat.le_refl _, Nat.zero_le _, h2⟩, (Below.refl _ _).alloc (Nat.le_refl _) _, by simp⟩

set_option maxHeartbeats 800000 in
set_option maxRecDepth 100000 in
theorem newBadS (S : Int) (h : S < 0 ∨ 100000 < S) (W : World) : Calls Try.prog 11 #[.int .i64 S] W fun e w' => e = .returned (.tuple #[.pointer none, .int .i64 2]) ∧ w' = W := by
  by_cases h1 : S < 0
  · have hd : decide (S < 0) = true := by simpa using h1
    clear h
    go_enter Try.func11, Try.ntmps11
    go_wp2_with fail
    go_ret2
    exact ⟨rfl, rfl⟩
  · have hd : decide (S < 0) = false := by simpa using h1
    have h2 : decide (100000 < S) = true := by simp; omega
    have h3 : 100000 < S := by omega
    clear h
    go_enter Try.func11, Try.ntmps11
    go_wp2_with fail
    go_ret2
    exact ⟨rfl, rfl⟩
end Go.Proofs.Ytahccgbmbnmcgaa
