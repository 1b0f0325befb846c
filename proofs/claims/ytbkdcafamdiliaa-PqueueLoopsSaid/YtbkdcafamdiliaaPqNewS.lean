/- A new queue. -/
import Derived.Test.YtbkdcafamdiliaaPqAskS
import Derived.OwnWalk
namespace Go.Proofs.Ytbkdcafamdiliaa
open Go Go.RowKit

/-- The cells of a zero queue. -/
def zQS : Array Value := (Value.pointer none :: Value.int .i64 0 :: Value.slice none 0 0 :: List.replicate 1024 (Value.int .i64 0)).toArray

theorem zcQS : Try.zeroCells222 = zQS := by kernel_rfl

theorem newCellsS (b S : Nat) : (Try.zeroCells222.setIfInBounds 1 (Value.int .i64 (S : Nat))).setIfInBounds 0 (Value.pointer (some ⟨b, 0, none⟩)) = hdQ b S (.slice none 0 0) (fun _ => 0) := by
  rw [zcQS, hdQ_zero]
  generalize hr : List.replicate 1024 (Value.int .i64 0) = r
  unfold zQS
  rw [hr]
  simp

theorem pq_newS {W' : World} {b S : Nat} (h1 : 1 ≤ S) (h2 : S ≤ 1024) (hb : W'.heap[b]? = some (.cells (hdQ b S (.slice none 0 0) (fun _ => 0)) 222 (0, 0))) : PQS W' 0 b none S (fun _ => none) :=
  ⟨0, [], fun _ => 0, ⟨hb, Nat.zero_le _, ⟨World.ownsRow_nil _ _ _ _, (fun e he => by simp at he)⟩, (fun a h => by cases h), h1, h2, by simp⟩, ⟨fun i x h => by simp at h, fun k h => absurd rfl h⟩, hp_nil _, qm_nil⟩

set_option maxHeartbeats 800000 in
set_option maxRecDepth 100000 in
theorem newS (S : Nat) (h1 : 1 ≤ S) (h2 : S ≤ 1024) (W : World) : Calls Try.prog 74 #[.int .i64 (S : Nat)] W fun e w' => e = .returned (.tuple #[.pointer (some ⟨W.heap.size, 0, none⟩), .int .i64 0]) ∧ PQS w' 0 W.heap.size none S (fun _ => none) ∧ Below W.heap.size W w' ∧ w'.heap.size = W.heap.size + 1 := by
  have h3 : ¬ (S : Int) < 1 := by omega
  have h4 : ¬ (1024 : Int) < (S : Int) := by omega
  have hn : Hid (∀ W', W'.heap[W.heap.size]? = some (.cells (hdQ W.heap.size S (.slice none 0 0) (fun _ => 0)) 222 (0, 0)) → PQS W' 0 W.heap.size none S (fun _ => none)) := Lib.hid fun W' hb => pq_newS h1 h2 hb
  go_enter Try.func74, Try.ntmps74
  go_wp2_with fail
  go_ret2
  rw [newCellsS]
  exact ⟨rfl, hn.out _ (heap_alloc_new W _), (Below.refl _ _).alloc (Nat.le_refl _) _, by simp⟩

set_option maxHeartbeats 800000 in
set_option maxRecDepth 100000 in
theorem newBadS (S : Int) (h : S < 1 ∨ 1024 < S) (W : World) : Calls Try.prog 74 #[.int .i64 S] W fun e w' => e = .returned (.tuple #[.pointer none, .int .i64 2]) ∧ w' = W := by
  by_cases h1 : S < 1
  · have hd : decide (S < 1) = true := by simpa using h1
    clear h
    go_enter Try.func74, Try.ntmps74
    go_wp2_with fail
    go_ret2
    exact ⟨rfl, rfl⟩
  · have hd : decide (S < 1) = false := by simpa using h1
    have h2 : decide (1024 < S) = true := by simp; omega
    have h3 : 1024 < S := by omega
    clear h
    go_enter Try.func74, Try.ntmps74
    go_wp2_with fail
    go_ret2
    exact ⟨rfl, rfl⟩
end Go.Proofs.Ytbkdcafamdiliaa
