/- Lists that are none: nil, or made by neither New nor Copy. -/
import Derived.Test.YtahccgbmbnmcgaaHiCopyS
import Derived.Test.YtahccgbmbnmcgaaHiSinceGS
namespace Go.Proofs.Ytahccgbmbnmcgaa
open Go Go.RowKit

attribute [local go_sem] Oper.semAt_some

/-- From this world on v is no list. -/
def BadS (w0 : World) (v : Option Addr) : Prop := ∀ W, Below w0.heap.size w0 W → Calls Try.prog 45 #[.pointer v] W fun e w' => e = .returned (.bool false) ∧ w' = W

set_option maxHeartbeats 800000 in
set_option maxRecDepth 100000 in
theorem badNilS (w0 : World) : BadS w0 none := fun W _ => by
  go_enter Try.func45, Try.ntmps45
  go_wp2_with fail
  go_ret
  exact ⟨rfl, rfl⟩

/-- A pointer is not nil. -/
theorem run_eql_ptr_noneS {P : Program} (w : World) {tp te : TypeId} (hp : P.underlying tp = some (.pointer te)) (hte : (P.info? te).isSome = true) (a : Addr) :
    (binOp .eql tp (.pointer none) (.pointer (some a))).run P w = .ok (.bool false) w := by
  obtain ⟨j, hj⟩ := Option.isSome_iff_exists.1 hte
  have h : ∀ d : Nat, (Op.equalIn (d + 1) tp (.pointer none) (.pointer (some a))).run P w = .ok false w := fun d => by
    by_cases hz : j.size = 0 <;> simp [Op.equalIn, run_underlying hp, sizeOf, typeInfo, hj, hz]
  simp only [binOp]
  simp [Op.equal, Op.maxDepth, h 9999]

set_option maxHeartbeats 800000 in
set_option maxRecDepth 100000 in
theorem badZeroS (w0 : World) (b : Nat) (h : w0.cell? ⟨b, 0, none⟩ = some (.pointer none)) : BadS w0 (some ⟨b, 0, none⟩) := fun W hb => by
  have hc := (hb.cell (p := ⟨b, 0, none⟩) (World.block_lt_of_cell? _ _ h)).trans h
  clear h hb
  have hq := fun w a => run_eql_ptr_noneS (P := Try.prog) w Try.underlying24 (by kernel_rfl : (Try.prog.info? 41).isSome = true) a
  go_enter Try.func45, Try.ntmps45
  go_wp2_with fail
  go_ret
  exact ⟨rfl, rfl⟩

theorem BadS.below {w0 w1 : World} {v : Option Addr} (h : BadS w0 v) (hb : Below w0.heap.size w0 w1) : BadS w1 v := fun W hW => h W (hb.trans (hW.mono hb.size))

section
variable {w0 : World} {v : Option Addr}

set_option maxHeartbeats 800000 in
set_option maxRecDepth 100000 in
theorem listNS (h : BadS w0 v) (W : World) (hb : Below w0.heap.size w0 W) : Calls Try.prog 62 #[.pointer v] W fun e w' => e = .returned (.slice none 0 0) ∧ w' = W := by
  have hv := h W hb
  clear h hb
  go_enter Try.func62, Try.ntmps62
  go_wp2_with fail
  refine hv.mono ?_
  rintro e w' ⟨rfl, rfl⟩
  go_wp2_with fail
  go_ret
  exact ⟨rfl, rfl⟩

set_option maxHeartbeats 800000 in
set_option maxRecDepth 100000 in
theorem lenNS (h : BadS w0 v) (W : World) (hb : Below w0.heap.size w0 W) : Calls Try.prog 41 #[.pointer v] W fun e w' => e = .returned (.int .i64 0) ∧ w' = W := by
  have hv := listNS h W hb
  clear h hb
  go_enter Try.func41, Try.ntmps41
  go_wp2_with fail
  refine hv.mono ?_
  rintro e w' ⟨rfl, rfl⟩
  go_wp2_with fail
  go_ret
  exact ⟨rfl, rfl⟩

set_option maxHeartbeats 800000 in
set_option maxRecDepth 100000 in
theorem markedNS (h : BadS w0 v) (W : World) (hb : Below w0.heap.size w0 W) : Calls Try.prog 40 #[.pointer v] W fun e w' => e = .returned (.int .i64 0) ∧ w' = W := by
  have hv := h W hb
  clear h hb
  go_enter Try.func40, Try.ntmps40
  go_wp2_with fail
  refine hv.mono ?_
  rintro e w' ⟨rfl, rfl⟩
  go_wp2_with fail
  go_ret
  exact ⟨rfl, rfl⟩

set_option maxHeartbeats 800000 in
set_option maxRecDepth 100000 in
theorem addNS (h : BadS w0 v) (x : ByteArray) (W : World) (hb : Below w0.heap.size w0 W) : Calls Try.prog 13 #[.pointer v, Value.string x] W fun e w' => e = .returned (.int .i64 1) ∧ w' = W := by
  have hv := h W hb
  clear h hb
  go_enter Try.func13, Try.ntmps13
  go_wp2_with fail
  refine hv.mono ?_
  rintro e w' ⟨rfl, rfl⟩
  go_wp2_with fail
  go_ret
  exact ⟨rfl, rfl⟩

set_option maxHeartbeats 800000 in
set_option maxRecDepth 100000 in
theorem cutNS (h : BadS w0 v) (k : Int) (W : World) (hb : Below w0.heap.size w0 W) : Calls Try.prog 17 #[.pointer v, .int .i64 k] W fun e w' => e = .returned (.int .i64 1) ∧ w' = W := by
  have hv := h W hb
  clear h hb
  go_enter Try.func17, Try.ntmps17
  go_wp2_with fail
  refine hv.mono ?_
  rintro e w' ⟨rfl, rfl⟩
  go_wp2_with fail
  go_ret
  exact ⟨rfl, rfl⟩

set_option maxHeartbeats 800000 in
set_option maxRecDepth 100000 in
theorem atNS (h : BadS w0 v) (k : Int) (W : World) (hb : Below w0.heap.size w0 W) : Calls Try.prog 44 #[.pointer v, .int .i64 k] W fun e w' => e = .returned (.tuple #[.string ⟨#[]⟩, .int .i64 1]) ∧ w' = W := by
  have hv := h W hb
  clear h hb
  go_enter Try.func44, Try.ntmps44
  go_wp2_with fail
  refine hv.mono ?_
  rintro e w' ⟨rfl, rfl⟩
  go_wp2_with fail
  go_ret2
  exact ⟨rfl, rfl⟩

set_option maxHeartbeats 800000 in
set_option maxRecDepth 100000 in
theorem copyNS (h : BadS w0 v) (W : World) (hb : Below w0.heap.size w0 W) : Calls Try.prog 21 #[.pointer v] W fun e w' => e = .returned (.pointer none) ∧ w' = W := by
  have hv := h W hb
  clear h hb
  go_enter Try.func21, Try.ntmps21
  go_wp2_with fail
  refine hv.mono ?_
  rintro e w' ⟨rfl, rfl⟩
  go_wp2_with fail
  go_ret
  exact ⟨rfl, rfl⟩

set_option maxHeartbeats 800000 in
set_option maxRecDepth 100000 in
theorem markNS (h : BadS w0 v) (W : World) (hb : Below w0.heap.size w0 W) : Calls Try.prog 15 #[.pointer v] W fun e w' => (∃ v, e = .returned v) ∧ w' = W := by
  have hv := h W hb
  clear h hb
  go_enter Try.func15, Try.ntmps15
  go_wp2_with fail
  refine hv.mono ?_
  rintro e w' ⟨rfl, rfl⟩
  go_wp2_with fail
  go_end0
  exact ⟨⟨_, rfl⟩, rfl⟩

set_option maxHeartbeats 800000 in
set_option maxRecDepth 100000 in
theorem clearNS (h : BadS w0 v) (W : World) (hb : Below w0.heap.size w0 W) : Calls Try.prog 19 #[.pointer v] W fun e w' => (∃ v, e = .returned v) ∧ w' = W := by
  have hv := h W hb
  clear h hb
  go_enter Try.func19, Try.ntmps19
  go_wp2_with fail
  refine hv.mono ?_
  rintro e w' ⟨rfl, rfl⟩
  go_wp2_with fail
  go_end0
  exact ⟨⟨_, rfl⟩, rfl⟩

set_option maxRecDepth 100000 in
set_option maxHeartbeats 2000000 in
/-- All's iterator, of no list: it yields nothing. -/
theorem allSeqNS (h : BadS w0 v) (n : Nat) (hn : 1 ≤ n) (bl : Nat) (w : World) (hb : Below w0.heap.size w0 w) (hbl : w.cell? ⟨bl, 0, none⟩ = some (.pointer v)) (encs : Nat → Array Value) :
    SeqIdx Fence.wide n Try.prog 71 #[.pointer (some ⟨bl, 0, none⟩)] encs (fun _ => True) 0 w := fun lr J Jx W hW hJ hJx hQ hY h0 => by
  have hbl' := (hW.cell (World.block_lt_of_cell? _ _ hbl)).trans hbl
  have hlist := listNS h W (hb.trans (hW.mono hb.size))
  have H00 := Lib.hid (h0 W (Below.refl _ _))
  clear hW hJ hJx hQ hY h0 hbl hb h
  refine callsIn_of_wp Try.func71 rfl trivial ?_ rfl
  simp only [Try.ntmps71, List.size_toArray, List.length_cons, List.length_nil, Nat.reduceAdd, Nat.reduceSub, Array.replicate_succ, Array.replicate_zero, List.push_toArray, List.append_toArray, List.nil_append, List.cons_append]
  gi_wp2_with fail
  refine ⟨trivial, (callsIn_wide.2 hlist).mono ?_⟩
  rintro e W1 ⟨rfl, rfl⟩
  clear hlist
  gi_wp2_with fail
  gi_loopw [8] (fun i wr => i = .int .i64 0 ∧ Hid (J W1.heap.size 0 wr)) (fun _ _ => 0)
  case atStart => exact ⟨rfl, H00⟩
  case round =>
    obtain ⟨rfl, hJ⟩ := hrel
    gi_wp2_with fail
    go_end0
    exact ⟨⟨_, rfl⟩, _, Nat.le_refl _, .inl hJ.out⟩

/-- Since's iterator, of no list. -/
theorem sinceSeqNS (h : BadS w0 v) (n : Nat) (hn : 3 ≤ n) (bl : Nat) (w : World) (hb : Below w0.heap.size w0 w) (hbl : w.cell? ⟨bl, 0, none⟩ = some (.pointer v)) :
    SeqIdx Fence.wide n Try.prog 69 #[.pointer (some ⟨bl, 0, none⟩)] (encES []) (fun _ => True) 0 w :=
  sinceGenS n hn bl (m := 0) (N := 0) (val := fun i => ([] : List ByteArray).getD i (⟨#[]⟩ : ByteArray)) w hbl (Nat.le_refl _) (fun W' hb' => markedNS h W' (hb.trans (hb'.mono hb.size))) (fun n' bl' X h1 hX hc => allSeqNS h n' h1 bl' X (hb.trans (hX.mono hb.size)) hc _)
end
end Go.Proofs.Ytahccgbmbnmcgaa
