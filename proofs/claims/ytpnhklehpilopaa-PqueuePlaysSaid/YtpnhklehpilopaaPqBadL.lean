/- Queues that are none: nil, or made by neither New nor Copy. -/
import Derived.Test.YtpnhklehpilopaaPqGL
import Derived.Test.YtpnhklehpilopaaPqNilEq
namespace Go.Proofs.Ytpnhklehpilopaa
open Go Go.RowKit

/-- From this world on v is no queue. -/
def BadL (w0 : World) (v : Option Addr) : Prop := ∀ W, Below w0.heap.size w0 W → Calls Try.prog 157 #[.pointer v] W fun e w' => e = .returned (.bool false) ∧ w' = W

set_option maxHeartbeats 800000 in
set_option maxRecDepth 100000 in
theorem badNilL (w0 : World) : BadL w0 none := fun W _ => by
  go_enter Try.func157, Try.ntmps157
  go_wp2_with fail
  go_ret
  exact ⟨rfl, rfl⟩

/-- A pointer is not nil. -/
theorem run_eql_ptr_noneL {P : Program} (w : World) {tp te : TypeId} (hp : P.underlying tp = some (.pointer te)) (hte : (P.info? te).isSome = true) (a : Addr) :
    (binOp .eql tp (.pointer none) (.pointer (some a))).run P w = .ok (.bool false) w := by
  obtain ⟨j, hj⟩ := Option.isSome_iff_exists.1 hte
  have h : ∀ d : Nat, (Op.equalIn (d + 1) tp (.pointer none) (.pointer (some a))).run P w = .ok false w := fun d => by
    by_cases hz : j.size = 0 <;> simp [Op.equalIn, run_underlying hp, sizeOf, typeInfo, hj, hz]
  simp only [binOp]
  simp [Op.equal, Op.maxDepth, h 9999]

set_option maxHeartbeats 800000 in
set_option maxRecDepth 100000 in
theorem badZeroL (w0 : World) (b : Nat) (h : w0.cell? ⟨b, 0, none⟩ = some (.pointer none)) : BadL w0 (some ⟨b, 0, none⟩) := fun W hb => by
  have hc := (hb.cell (p := ⟨b, 0, none⟩) (World.block_lt_of_cell? _ _ h)).trans h
  clear h hb
  have hq := fun w a => run_eql_ptr_noneL (P := Try.prog) w Try.underlying93 (by kernel_rfl : (Try.prog.info? 120).isSome = true) a
  go_enter Try.func157, Try.ntmps157
  go_wp2_with fail
  go_ret
  exact ⟨rfl, rfl⟩

section
variable {w0 : World} {v : Option Addr}

set_option maxHeartbeats 800000 in
set_option maxRecDepth 100000 in
theorem checkNL (h : BadL w0 v) (k : Int) (W : World) (hb : Below w0.heap.size w0 W) : Calls Try.prog 148 #[.pointer v, .int .i64 k] W fun e w' => e = .returned (.int .i64 1) ∧ w' = W := by
  have hv := h W hb
  clear h hb
  go_enter Try.func148, Try.ntmps148
  go_wp2_with fail
  refine hv.mono ?_
  rintro e w' ⟨rfl, rfl⟩
  go_wp2_with fail
  go_ret
  exact ⟨rfl, rfl⟩

set_option maxHeartbeats 800000 in
set_option maxRecDepth 100000 in
theorem findNL (h : BadL w0 v) (k : Int) (W : World) (hb : Below w0.heap.size w0 W) : Calls Try.prog 149 #[.pointer v, .int .i64 k] W fun e w' => e = .returned (.tuple #[.int .i64 0, .bool false]) ∧ w' = W := by
  have hv := checkNL h k W hb
  clear h hb
  go_enter Try.func149, Try.ntmps149
  go_wp2_with fail
  refine hv.mono ?_
  rintro e w' ⟨rfl, rfl⟩
  go_wp2_with fail
  go_ret2
  exact ⟨rfl, rfl⟩

set_option maxHeartbeats 800000 in
set_option maxRecDepth 100000 in
theorem priorityNL (h : BadL w0 v) (k : Int) (W : World) (hb : Below w0.heap.size w0 W) : Calls Try.prog 65 #[.pointer v, .int .i64 k] W fun e w' => e = .returned (.tuple #[.int .i64 0, .bool false]) ∧ w' = W := by
  have hv := findNL h k W hb
  clear h hb
  go_enter Try.func65, Try.ntmps65
  go_wp2_with fail
  refine hv.mono ?_
  rintro e w' ⟨rfl, rfl⟩
  go_wp2_with fail
  go_ret2
  exact ⟨rfl, rfl⟩

set_option maxHeartbeats 800000 in
set_option maxRecDepth 100000 in
theorem removeNL (h : BadL w0 v) (k : Int) (W : World) (hb : Below w0.heap.size w0 W) : Calls Try.prog 55 #[.pointer v, .int .i64 k] W fun e w' => e = .returned (.tuple #[.int .i64 0, .bool false]) ∧ w' = W := by
  have hp := priorityNL h k W hb
  have hf := findNL h k W hb
  clear h hb
  go_enter Try.func55, Try.ntmps55
  go_wp2_with fail
  refine hp.mono ?_
  rintro e w1 ⟨rfl, rfl⟩
  go_wp2_with fail
  refine hf.mono ?_
  rintro e w2 ⟨rfl, rfl⟩
  go_wp2_with fail
  go_ret2
  exact ⟨rfl, rfl⟩

set_option maxHeartbeats 800000 in
set_option maxRecDepth 100000 in
theorem lenNL (h : BadL w0 v) (W : World) (hb : Below w0.heap.size w0 W) : Calls Try.prog 67 #[.pointer v] W fun e w' => e = .returned (.int .i64 0) ∧ w' = W := by
  have hv := h W hb
  clear h hb
  go_enter Try.func67, Try.ntmps67
  go_wp2_with fail
  refine hv.mono ?_
  rintro e w' ⟨rfl, rfl⟩
  go_wp2_with fail
  go_ret
  exact ⟨rfl, rfl⟩

set_option maxHeartbeats 800000 in
set_option maxRecDepth 100000 in
theorem peekNL (h : BadL w0 v) (W : World) (hb : Below w0.heap.size w0 W) : Calls Try.prog 66 #[.pointer v] W fun e w' => e = .returned (.tuple #[.int .i64 0, .int .i64 0, .bool false]) ∧ Below W.heap.size W w' := by
  have hv := lenNL h W hb
  clear h hb
  go_enter Try.func66, Try.ntmps66
  go_wp2_with fail
  refine hv.mono ?_
  rintro e w' ⟨rfl, rfl⟩
  go_wp2_with fail
  go_quiet (fail)
  go_wp2_with fail
  go_ret3
  exact ⟨rfl, Below.drewN' _ ((Below.refl _ _).alloc (Nat.le_refl _) _)⟩

set_option maxHeartbeats 800000 in
set_option maxRecDepth 100000 in
theorem popNL (h : BadL w0 v) (W : World) (hb : Below w0.heap.size w0 W) : Calls Try.prog 57 #[.pointer v] W fun e w' => e = .returned (.tuple #[.int .i64 0, .int .i64 0, .bool false]) ∧ Below W.heap.size W w' := by
  have hv := peekNL h W hb
  clear h hb
  go_enter Try.func57, Try.ntmps57
  go_wp2_with fail
  refine hv.mono ?_
  rintro e w' ⟨rfl, hb⟩
  go_wp2_with fail
  go_ret3
  exact ⟨rfl, hb⟩

set_option maxHeartbeats 800000 in
set_option maxRecDepth 100000 in
theorem pushNL (h : BadL w0 v) (k : Int) (x : Int) (W : World) (hb : Below w0.heap.size w0 W) : Calls Try.prog 51 #[.pointer v, .int .i64 k, Value.int .i64 x] W fun e w' => e = .returned (.int .i64 1) ∧ w' = W := by
  have hv := checkNL h k W hb
  clear h hb
  go_enter Try.func51, Try.ntmps51
  go_wp2_with fail
  refine hv.mono ?_
  rintro e w' ⟨rfl, rfl⟩
  go_wp2_with fail
  go_ret
  exact ⟨rfl, rfl⟩

set_option maxHeartbeats 800000 in
set_option maxRecDepth 100000 in
theorem changeNL (h : BadL w0 v) (k : Int) (x : Int) (W : World) (hb : Below w0.heap.size w0 W) : Calls Try.prog 53 #[.pointer v, .int .i64 k, Value.int .i64 x] W fun e w' => e = .returned (.int .i64 1) ∧ w' = W := by
  have hv := checkNL h k W hb
  clear h hb
  go_enter Try.func53, Try.ntmps53
  go_wp2_with fail
  refine hv.mono ?_
  rintro e w' ⟨rfl, rfl⟩
  go_wp2_with fail
  go_ret
  exact ⟨rfl, rfl⟩
end
end Go.Proofs.Ytpnhklehpilopaa
