/- Several texts in one: PqRef, PqRef2, PqRef3, PqRef4, PqRef5, PqRef6, PqRef7, PqRef8, PqRef14. -/
import Derived.Test.YtpnhklehpilopaaPqDrn
import Derived.Test.YtpnhklehpilopaaPqMem
import Derived.Test.YtpnhklehpilopaaOmOrd
import Derived.Test.YtpnhklehpilopaaProg
import Derived.Deep.QuietTactic
import Derived.BigQuiet
import Derived.Outline
import Derived.WalkLawsBesides
import Derived.Lib.Hide
import Derived.Test.YtpnhklehpilopaaOmMem
import Derived.Laws.MakeOwn
import Derived.OwnWalk
import Derived.BigRegion
import Derived.Test.YtpnhklehpilopaaPqNilEq
import Derived.Deep.RegionHeld3
import Derived.Test.YtpnhklehpilopaaPqRow0
namespace Go.Proofs.Ytpnhklehpilopaa
open Go Go.RowKit

/-- At block rb lies the document's queue for S ids: which are in, and their priorities, in rows of their own. -/
structure RQ (W : World) (rb gi gp ci cp S : Nat) (f : Nat → Bool) (g : Nat → Int) : Prop where
  h0 : W.cell? ⟨rb, 0, none⟩ = some (.slice (some ⟨gi, 0, none⟩) S ci)
  h1 : W.cell? ⟨rb, 1, none⟩ = some (.slice (some ⟨gp, 0, none⟩) S cp)
  s1 : 1 ≤ S
  s2 : S ≤ 1024
  c0 : S ≤ ci
  c1 : S ≤ cp
  ins : ∀ k, k < S → W.cell? ⟨gi, k, none⟩ = some (.bool (f k))
  inf : ∀ k, k < S → W.frozen? ⟨gi, k, none⟩ = false
  ps : ∀ k, k < S → W.cell? ⟨gp, k, none⟩ = some (.int .i64 (g k))
  pf : ∀ k, k < S → W.frozen? ⟨gp, k, none⟩ = false
  n0 : rb ≠ gi
  n1 : rb ≠ gp
  n2 : gi ≠ gp

section
variable {W W' : World} {rb gi gp ci cp S : Nat} {f : Nat → Bool} {g : Nat → Int}

theorem cell_same {W W' : World} {b o : Nat} (h : W'.heap[b]? = W.heap[b]?) : W'.cell? ⟨b, o, none⟩ = W.cell? ⟨b, o, none⟩ := by simp only [World.cell?, h]
theorem frozen_same {W W' : World} {b o : Nat} (h : W'.heap[b]? = W.heap[b]?) : W'.frozen? ⟨b, o, none⟩ = W.frozen? ⟨b, o, none⟩ := by simp only [World.frozen?, h]

theorem RQ.same (h : RQ W rb gi gp ci cp S f g) (e0 : W'.heap[rb]? = W.heap[rb]?) (e1 : W'.heap[gi]? = W.heap[gi]?) (e2 : W'.heap[gp]? = W.heap[gp]?) : RQ W' rb gi gp ci cp S f g :=
  ⟨(cell_same e0).trans h.h0, (cell_same e0).trans h.h1, h.s1, h.s2, h.c0, h.c1, fun k hk => (cell_same e1).trans (h.ins k hk), fun k hk => (frozen_same e1).trans (h.inf k hk), fun k hk => (cell_same e2).trans (h.ps k hk), fun k hk => (frozen_same e2).trans (h.pf k hk), h.n0, h.n1, h.n2⟩

theorem RQ.lt (h : RQ W rb gi gp ci cp S f g) : rb < W.heap.size ∧ gi < W.heap.size ∧ gp < W.heap.size :=
  ⟨World.block_lt_of_cell? _ _ h.h0, World.block_lt_of_cell? _ _ (h.ins 0 h.s1), World.block_lt_of_cell? _ _ (h.ps 0 h.s1)⟩

theorem RQ.below (h : RQ W rb gi gp ci cp S f g) (hb : Below W.heap.size W W') : RQ W' rb gi gp ci cp S f g :=
  h.same (hb.block _ h.lt.1) (hb.block _ h.lt.2.1) (hb.block _ h.lt.2.2)

theorem cell_set_same {W : World} {b k : Nat} {u v : Value} (h : W.cell? ⟨b, k, none⟩ = some u) : (W.setCell ⟨b, k, none⟩ v).cell? ⟨b, k, none⟩ = some v := World.cell?_setCell_same' W ⟨b, k, none⟩ v (by rw [h]; rfl)
theorem cell_set_other {W : World} {b k j : Nat} {v : Value} (hne : j ≠ k) : (W.setCell ⟨b, k, none⟩ v).cell? ⟨b, j, none⟩ = W.cell? ⟨b, j, none⟩ := World.cell?_setCell_other W ⟨b, k, none⟩ ⟨b, j, none⟩ v (by intro e; cases e; exact hne rfl)
theorem frozen_set {W : World} {b k j : Nat} {v : Value} : (W.setCell ⟨b, k, none⟩ v).frozen? ⟨b, j, none⟩ = W.frozen? ⟨b, j, none⟩ := by simp

theorem RQ.setIn (h : RQ W rb gi gp ci cp S f g) {k : Nat} (hk : k < S) (b : Bool) : RQ (W.setCell ⟨gi, k, none⟩ (.bool b)) rb gi gp ci cp S (fun i => if i = k then b else f i) g := by
  have o0 : (W.setCell ⟨gi, k, none⟩ (.bool b)).heap[rb]? = W.heap[rb]? := Below.heap_setCell _ _ _ _ h.n0
  have o2 : (W.setCell ⟨gi, k, none⟩ (.bool b)).heap[gp]? = W.heap[gp]? := Below.heap_setCell _ _ _ _ (fun e => h.n2 e.symm)
  refine ⟨(cell_same o0).trans h.h0, (cell_same o0).trans h.h1, h.s1, h.s2, h.c0, h.c1, fun i hi => ?_, fun i hi => by rw [frozen_set]; exact h.inf i hi, fun i hi => (cell_same o2).trans (h.ps i hi), fun i hi => (frozen_same o2).trans (h.pf i hi), h.n0, h.n1, h.n2⟩
  by_cases e : i = k
  · subst e; rw [if_pos rfl]; exact cell_set_same (h.ins i hi)
  · rw [if_neg e, cell_set_other e]; exact h.ins i hi

theorem RQ.setP (h : RQ W rb gi gp ci cp S f g) {k : Nat} (hk : k < S) (v : Int) : RQ (W.setCell ⟨gp, k, none⟩ (.int .i64 v)) rb gi gp ci cp S f (fun i => if i = k then v else g i) := by
  have o0 : (W.setCell ⟨gp, k, none⟩ (.int .i64 v)).heap[rb]? = W.heap[rb]? := Below.heap_setCell _ _ _ _ h.n1
  have o2 : (W.setCell ⟨gp, k, none⟩ (.int .i64 v)).heap[gi]? = W.heap[gi]? := Below.heap_setCell _ _ _ _ h.n2
  refine ⟨(cell_same o0).trans h.h0, (cell_same o0).trans h.h1, h.s1, h.s2, h.c0, h.c1, fun i hi => (cell_same o2).trans (h.ins i hi), fun i hi => (frozen_same o2).trans (h.inf i hi), fun i hi => ?_, fun i hi => by rw [frozen_set]; exact h.pf i hi, h.n0, h.n1, h.n2⟩
  by_cases e : i = k
  · subst e; rw [if_pos rfl]; exact cell_set_same (h.ps i hi)
  · rw [if_neg e, cell_set_other e]; exact h.ps i hi

set_option maxHeartbeats 800000 in
set_option maxRecDepth 100000 in
theorem rvalid (h : RQ W rb gi gp ci cp S f g) :
    Calls Try.prog 159 #[.pointer (some ⟨rb, 0, none⟩)] W fun e w' => e = .returned (.bool true) ∧ w' = W := by
  have c0 := h.h0
  have hS : (0 : Int) < (S : Int) := by have := h.s1; omega
  have hS2 : 0 < S := h.s1
  have hd : decide ((0 : Int) < (S : Int)) = true := decide_eq_true hS
  clear h
  go_enter Try.func159, Try.ntmps159
  go_wp2_with fail
  go_ret
  exact ⟨rfl, rfl⟩

set_option maxHeartbeats 800000 in
set_option maxRecDepth 100000 in
theorem rid (h : RQ W rb gi gp ci cp S f g) (k : Nat) (hk : k < S) :
    Calls Try.prog 151 #[.pointer (some ⟨rb, 0, none⟩), .int .i64 (k : Nat)] W fun e w' => e = .returned (.int .i64 0) ∧ w' = W := by
  have c0 := h.h0
  have hv := rvalid h
  have k0 : ¬ (k : Int) < 0 := by omega
  have k1 : (k : Int) < (S : Int) := by omega
  clear h
  go_enter Try.func151, Try.ntmps151
  go_wp2_with (go_at_call 159; refine hv.mono ?_; rintro e w' ⟨rfl, rfl⟩)
  go_ret
  exact ⟨rfl, rfl⟩

set_option maxHeartbeats 800000 in
set_option maxRecDepth 100000 in
theorem ridBad (h : RQ W rb gi gp ci cp S f g) (k : Int) (hk : k < 0 ∨ (S : Int) ≤ k) :
    Calls Try.prog 151 #[.pointer (some ⟨rb, 0, none⟩), .int .i64 k] W fun e w' => e = .returned (.int .i64 3) ∧ w' = W := by
  have c0 := h.h0
  have hv := rvalid h
  clear h
  by_cases k0 : k < 0
  · go_enter Try.func151, Try.ntmps151
    go_wp2_with (go_at_call 159; refine hv.mono ?_; rintro e w' ⟨rfl, rfl⟩)
    go_ret
    exact ⟨rfl, rfl⟩
  · have k1 : (S : Int) ≤ k := by omega
    have k2 : (0 : Int) ≤ k := by omega
    clear hk
    go_enter Try.func151, Try.ntmps151
    go_wp2_with (go_at_call 159; refine hv.mono ?_; rintro e w' ⟨rfl, rfl⟩)
    go_ret
    exact ⟨rfl, rfl⟩

set_option maxHeartbeats 800000 in
set_option maxRecDepth 100000 in
theorem rpush (h : RQ W rb gi gp ci cp S f g) {k : Nat} (hk : k < S) (hf : f k = false) (v : Int) :
    Calls Try.prog 52 #[.pointer (some ⟨rb, 0, none⟩), .int .i64 (k : Nat), .int .i64 v] W fun e w' => e = .returned (.int .i64 0) ∧ w' = (W.setCell ⟨gi, k, none⟩ (.bool true)).setCell ⟨gp, k, none⟩ (.int .i64 v) := by
  have hi := rid h k hk
  have c0 := h.h0
  have c2 := h.ins k hk
  have f2 := h.inf k hk
  have h2 := h.setIn hk true
  have d1 := h2.h1
  have d2 := h2.ps k hk
  have d3 := h2.pf k hk
  have k1 : (k : Int) < (S : Int) := by omega
  have k0 : (0 : Int) ≤ (k : Int) := by omega
  rw [hf] at c2
  clear h h2 hf
  go_enter Try.func52, Try.ntmps52
  go_wp2_with (go_at_call 151; refine hi.mono ?_; rintro e w' ⟨rfl, rfl⟩)
  go_ret
  exact ⟨rfl, rfl⟩

set_option maxHeartbeats 800000 in
set_option maxRecDepth 100000 in
theorem rpushHave (h : RQ W rb gi gp ci cp S f g) {k : Nat} (hk : k < S) (hf : f k = true) (v : Int) :
    Calls Try.prog 52 #[.pointer (some ⟨rb, 0, none⟩), .int .i64 (k : Nat), .int .i64 v] W fun e w' => e = .returned (.int .i64 6) ∧ w' = W := by
  have hi := rid h k hk
  have c0 := h.h0
  have c2 := h.ins k hk
  have k1 : (k : Int) < (S : Int) := by omega
  have k0 : (0 : Int) ≤ (k : Int) := by omega
  rw [hf] at c2
  clear h hf
  go_enter Try.func52, Try.ntmps52
  go_wp2_with (go_at_call 151; refine hi.mono ?_; rintro e w' ⟨rfl, rfl⟩)
  go_ret
  exact ⟨rfl, rfl⟩

set_option maxHeartbeats 800000 in
set_option maxRecDepth 100000 in
theorem rpushBad (h : RQ W rb gi gp ci cp S f g) {k : Int} (hk : k < 0 ∨ (S : Int) ≤ k) (v : Int) :
    Calls Try.prog 52 #[.pointer (some ⟨rb, 0, none⟩), .int .i64 k, .int .i64 v] W fun e w' => e = .returned (.int .i64 3) ∧ w' = W := by
  have hi := ridBad h k hk
  clear h
  go_enter Try.func52, Try.ntmps52
  go_wp2_with (go_at_call 151; refine hi.mono ?_; rintro e w' ⟨rfl, rfl⟩)
  go_ret
  exact ⟨rfl, rfl⟩

set_option maxHeartbeats 800000 in
set_option maxRecDepth 100000 in
theorem rchange (h : RQ W rb gi gp ci cp S f g) {k : Nat} (hk : k < S) (hf : f k = true) (v : Int) :
    Calls Try.prog 54 #[.pointer (some ⟨rb, 0, none⟩), .int .i64 (k : Nat), .int .i64 v] W fun e w' => e = .returned (.int .i64 0) ∧ w' = W.setCell ⟨gp, k, none⟩ (.int .i64 v) := by
  have hi := rid h k hk
  have c0 := h.h0
  have c2 := h.ins k hk
  have d1 := h.h1
  have d2 := h.ps k hk
  have d3 := h.pf k hk
  have k1 : (k : Int) < (S : Int) := by omega
  have k0 : (0 : Int) ≤ (k : Int) := by omega
  rw [hf] at c2
  clear h hf
  go_enter Try.func54, Try.ntmps54
  go_wp2_with (go_at_call 151; refine hi.mono ?_; rintro e w' ⟨rfl, rfl⟩)
  go_ret
  exact ⟨rfl, rfl⟩

set_option maxHeartbeats 800000 in
set_option maxRecDepth 100000 in
theorem rchangeNo (h : RQ W rb gi gp ci cp S f g) {k : Nat} (hk : k < S) (hf : f k = false) (v : Int) :
    Calls Try.prog 54 #[.pointer (some ⟨rb, 0, none⟩), .int .i64 (k : Nat), .int .i64 v] W fun e w' => e = .returned (.int .i64 5) ∧ w' = W := by
  have hi := rid h k hk
  have c0 := h.h0
  have c2 := h.ins k hk
  have k1 : (k : Int) < (S : Int) := by omega
  have k0 : (0 : Int) ≤ (k : Int) := by omega
  rw [hf] at c2
  clear h hf
  go_enter Try.func54, Try.ntmps54
  go_wp2_with (go_at_call 151; refine hi.mono ?_; rintro e w' ⟨rfl, rfl⟩)
  go_ret
  exact ⟨rfl, rfl⟩

set_option maxHeartbeats 800000 in
set_option maxRecDepth 100000 in
theorem rchangeBad (h : RQ W rb gi gp ci cp S f g) {k : Int} (hk : k < 0 ∨ (S : Int) ≤ k) (v : Int) :
    Calls Try.prog 54 #[.pointer (some ⟨rb, 0, none⟩), .int .i64 k, .int .i64 v] W fun e w' => e = .returned (.int .i64 3) ∧ w' = W := by
  have hi := ridBad h k hk
  clear h
  go_enter Try.func54, Try.ntmps54
  go_wp2_with (go_at_call 151; refine hi.mono ?_; rintro e w' ⟨rfl, rfl⟩)
  go_ret
  exact ⟨rfl, rfl⟩

/-- What Priority returns of an id. -/
def rPri (S : Nat) (f : Nat → Bool) (g : Nat → Int) (k : Int) : Int × Bool := if 0 ≤ k ∧ k < (S : Int) ∧ f k.toNat = true then (g k.toNat, true) else (0, false)

set_option maxHeartbeats 1600000 in
set_option maxRecDepth 100000 in
theorem rpriority (h : RQ W rb gi gp ci cp S f g) (k : Int) :
    Calls Try.prog 155 #[.pointer (some ⟨rb, 0, none⟩), .int .i64 k] W fun e w' => e = .returned (.tuple #[.int .i64 (rPri S f g k).1, .bool (rPri S f g k).2]) ∧ ∃ q, w' = W.drewN q := by
  by_cases hr : k < 0 ∨ (S : Int) ≤ k
  · have e : rPri S f g k = (0, false) := by unfold rPri; rw [if_neg (by omega)]
    rw [e]
    have hi := ridBad h k hr
    clear h e hr
    go_enter Try.func155, Try.ntmps155
    go_wp2_with (go_at_call 151; refine hi.mono ?_; rintro e w' ⟨rfl, rfl⟩)
    go_ret2
    exact ⟨rfl, 0, rfl⟩
  · obtain ⟨j, rfl⟩ : ∃ j : Nat, k = j := ⟨k.toNat, by omega⟩
    have hj : j < S := by omega
    have hi := rid h j hj
    have c0 := h.h0
    have c2 := h.ins j hj
    have d1 := h.h1
    have d2 := h.ps j hj
    have k1 : (j : Int) < (S : Int) := by omega
    have k0 : (0 : Int) ≤ (j : Int) := by omega
    cases hf : f j with
    | false =>
      have e : rPri S f g (j : Int) = (0, false) := by unfold rPri; rw [if_neg (by rw [Int.toNat_natCast, hf]; simp)]
      rw [e]
      rw [hf] at c2
      clear h e hr hf
      go_enter Try.func155, Try.ntmps155
      go_wp2_with (go_at_call 151; refine hi.mono ?_; rintro e w' ⟨rfl, rfl⟩)
      go_ret2
      exact ⟨rfl, 0, rfl⟩
    | true =>
      have e : rPri S f g (j : Int) = (g j, true) := by unfold rPri; rw [if_pos ⟨k0, k1, by rw [Int.toNat_natCast]; exact hf⟩, Int.toNat_natCast]
      rw [e]
      rw [hf] at c2
      generalize g j = v at *
      clear h e hr hf
      go_enter Try.func155, Try.ntmps155
      go_wp2_with (go_at_call 151; refine hi.mono ?_; rintro e w' ⟨rfl, rfl⟩)
      go_ret2
      exact ⟨rfl, 0, rfl⟩
end
end Go.Proofs.Ytpnhklehpilopaa

namespace Go.Proofs.Ytpnhklehpilopaa
open Go Go.RowKit

/-- Which ids are in, and their priorities, are m's. -/
structure RM (S : Nat) (f : Nat → Bool) (g : Nat → Int) (m : Nat → Option Int) : Prop where
  isin : ∀ k, k < S → f k = (m k).isSome
  pri : ∀ k v, m k = some v → g k = v
  low : ∀ k, S ≤ k → m k = none

/-- Only the two rows of the document's queue are turned. -/
structure RTch (gi gp : Nat) (A B : World) : Prop where
  os : B.os = A.os
  tape : B.tape = A.tape
  output : B.output = A.output
  size : A.heap.size ≤ B.heap.size
  block : ∀ k, k < A.heap.size → k ≠ gi → k ≠ gp → B.heap[k]? = A.heap[k]?

theorem RTch.of_below {gi gp : Nat} {A B : World} (h : Below A.heap.size A B) : RTch gi gp A B := ⟨h.os, h.tape, h.output, h.size, fun k hk _ _ => h.block k hk⟩
theorem RTch.trans {gi gp : Nat} {A B C : World} (h : RTch gi gp A B) (k : RTch gi gp B C) : RTch gi gp A C :=
  ⟨k.os.trans h.os, k.tape.trans h.tape, k.output.trans h.output, Nat.le_trans h.size k.size, fun i hi h1 h2 => (k.block i (Nat.lt_of_lt_of_le hi h.size) h1 h2).trans (h.block i hi h1 h2)⟩
theorem RTch.set {gi gp b k : Nat} {A B : World} (h : RTch gi gp A B) (v : Value) (hb : b = gi ∨ b = gp) : RTch gi gp A (B.setCell ⟨b, k, none⟩ v) :=
  ⟨h.os, h.tape, h.output, by simpa [World.setCell] using h.size, fun i hi h1 h2 => (Below.heap_setCell _ _ _ _ (by show i ≠ b; rcases hb with rfl | rfl <;> assumption)).trans (h.block i hi h1 h2)⟩

theorem RM.push {S k : Nat} {f : Nat → Bool} {g : Nat → Int} {m : Nat → Option Int} (h : RM S f g m) (hk : k < S) (v : Int) : RM S (fun i => if i = k then true else f i) (fun i => if i = k then v else g i) (mSet m k (some v)) := by
  refine ⟨fun i hi => ?_, fun i u hu => ?_, fun i hi => ?_⟩
  · unfold mSet
    by_cases e : i = k
    · simp [e]
    · simp [e, h.isin i hi]
  · unfold mSet at hu
    by_cases e : i = k
    · rw [if_pos e] at hu ⊢; exact Option.some.inj hu
    · rw [if_neg e] at hu ⊢; exact h.pri i u hu
  · unfold mSet
    rw [if_neg (by omega)]
    exact h.low i hi

theorem RM.change {S k : Nat} {f : Nat → Bool} {g : Nat → Int} {m : Nat → Option Int} (h : RM S f g m) (hk : k < S) {u : Int} (hm : m k = some u) (v : Int) : RM S f (fun i => if i = k then v else g i) (mSet m k (some v)) := by
  refine ⟨fun i hi => ?_, fun i u hu => ?_, fun i hi => ?_⟩
  · unfold mSet
    by_cases e : i = k
    · subst e; simp [h.isin i hi, hm]
    · simp [e, h.isin i hi]
  · unfold mSet at hu
    by_cases e : i = k
    · rw [if_pos e] at hu ⊢; exact Option.some.inj hu
    · rw [if_neg e] at hu ⊢; exact h.pri i u hu
  · unfold mSet
    rw [if_neg (by omega)]
    exact h.low i hi

theorem RM.remove {S k : Nat} {f : Nat → Bool} {g : Nat → Int} {m : Nat → Option Int} (h : RM S f g m) (hk : k < S) : RM S (fun i => if i = k then false else f i) g (mSet m k none) := by
  refine ⟨fun i hi => ?_, fun i u hu => ?_, fun i hi => ?_⟩
  · unfold mSet
    by_cases e : i = k
    · simp [e]
    · simp [e, h.isin i hi]
  · unfold mSet at hu
    by_cases e : i = k
    · rw [if_pos e] at hu; cases hu
    · rw [if_neg e] at hu; exact h.pri i u hu
  · unfold mSet
    rw [if_neg (by omega)]
    exact h.low i hi

section
variable {W W' : World} {rb gi gp ci cp S : Nat} {f : Nat → Bool} {g : Nat → Int}

set_option maxHeartbeats 800000 in
set_option maxRecDepth 100000 in
theorem rremove (h : RQ W rb gi gp ci cp S f g) {k : Nat} (hk : k < S) (hf : f k = true) :
    Calls Try.prog 56 #[.pointer (some ⟨rb, 0, none⟩), .int .i64 (k : Nat)] W fun e w' => e = .returned (.tuple #[.int .i64 (g k), .bool true]) ∧ RQ w' rb gi gp ci cp S (fun i => if i = k then false else f i) g ∧ RTch gi gp W w' := by
  have hp := rpriority h (k : Int)
  have e : rPri S f g (k : Int) = (g k, true) := by unfold rPri; rw [if_pos ⟨by omega, by omega, by rw [Int.toNat_natCast]; exact hf⟩, Int.toNat_natCast]
  rw [e] at hp
  have HA : Hid (∀ q, (W.drewN q).cell? ⟨rb, 0, none⟩ = some (.slice (some ⟨gi, 0, none⟩) S ci) ∧ (W.drewN q).cell? ⟨gi, k, none⟩ = some (.bool (f k)) ∧ (W.drewN q).frozen? ⟨gi, k, none⟩ = false ∧ RQ ((W.drewN q).setCell ⟨gi, k, none⟩ (.bool false)) rb gi gp ci cp S (fun i => if i = k then false else f i) g ∧ RTch gi gp W ((W.drewN q).setCell ⟨gi, k, none⟩ (.bool false))) := Lib.hid fun q => by
    have h2 := h.below (Below.drewN' q (Below.refl _ _))
    exact ⟨h2.h0, h2.ins k hk, h2.inf k hk, h2.setIn hk false, (RTch.of_below (Below.drewN' q (Below.refl _ _))).set _ (.inl rfl)⟩
  have k1 : (k : Int) < (S : Int) := by omega
  have k0 : (0 : Int) ≤ (k : Int) := by omega
  generalize g k = v at *
  clear h e hf
  go_enter Try.func56, Try.ntmps56
  go_wp2_with fail
  refine hp.mono ?_
  rintro e w' ⟨rfl, q, rfl⟩
  obtain ⟨a1, a2, a3, a4, a5⟩ := HA.out q
  have HX := Lib.hid (And.intro a4 a5)
  clear a4 a5 hp HA
  generalize W.drewN q = V at *
  go_wp2_with fail
  go_ret2
  exact ⟨rfl, HX.out⟩

set_option maxHeartbeats 800000 in
set_option maxRecDepth 100000 in
theorem rremoveNo (h : RQ W rb gi gp ci cp S f g) (k : Int) (hf : ¬ (0 ≤ k ∧ k < (S : Int) ∧ f k.toNat = true)) :
    Calls Try.prog 56 #[.pointer (some ⟨rb, 0, none⟩), .int .i64 k] W fun e w' => e = .returned (.tuple #[.int .i64 0, .bool false]) ∧ ∃ q, w' = W.drewN q := by
  have hp := rpriority h k
  have e : rPri S f g k = (0, false) := by unfold rPri; rw [if_neg hf]
  rw [e] at hp
  clear h e hf
  go_enter Try.func56, Try.ntmps56
  go_wp2_with fail
  refine hp.mono ?_
  rintro e w' ⟨rfl, q, rfl⟩
  go_wp2_with fail
  go_ret2
  exact ⟨rfl, q, rfl⟩

theorem cntQ_next (m : Nat → Option Int) (k : Nat) : cntQ (k + 1) m = cntQ k m + (if (m k).isSome then 1 else 0) := by
  unfold cntQ
  rw [List.range_succ, List.countP_append]
  cases h : (m k).isSome <;> simp [h]

set_option maxHeartbeats 1600000 in
set_option maxRecDepth 100000 in
theorem rlen (h : RQ W rb gi gp ci cp S f g) {m : Nat → Option Int} (hm : RM S f g m) :
    Calls Try.prog 160 #[.pointer (some ⟨rb, 0, none⟩)] W fun e w' => e = .returned (.int .i64 (cntQ S m : Nat)) ∧ w' = W := by
  have hv := rvalid h
  have c0 := h.h0
  have hS := h.s2
  have HI := Lib.hid h.ins
  have HM := Lib.hid hm
  have hcle : ∀ k, cntQ k m ≤ k := fun k => by unfold cntQ; have := List.countP_le_length (p := fun k => (m k).isSome) (l := List.range k); simpa using this
  have HCL := Lib.hid hcle
  clear h hm hcle
  go_enter Try.func160, Try.ntmps160
  go_wp2_with fail
  go_loop [3, 4] (fun a b => ∃ k : Nat, k ≤ S ∧ a = .int .i64 (cntQ k m : Nat) ∧ b = .int .i64 k) (fun _ b => S - (intOf b).toNat)
  case atStart => exact ⟨0, Nat.zero_le _, rfl, rfl⟩
  case round =>
    obtain ⟨k, hk, rfl, rfl⟩ := hrel
    have hck := HCL.out k
    by_cases hlt : k < S
    · have hki : (k : Int) < (S : Int) := by omega
      have ck := HI.out k hlt
      rw [HM.out.isin k hlt] at ck
      have hnx := cntQ_next m k
      generalize cntQ k m = cc at *
      cases hs : (m k).isSome with
      | true =>
        rw [hs] at ck hnx
        simp only [if_true] at hnx
        go_wp2_with (go_at_call 159; refine hv.mono ?_; rintro e w' ⟨rfl, hw⟩; rw [hw])
        go_round
        case rel => exact ⟨k + 1, by omega, by rw [hnx]; go_num, by go_num⟩
        case measure => simp [intOf]; omega
      | false =>
        rw [hs] at ck hnx
        simp only [Bool.false_eq_true, if_false, Nat.add_zero] at hnx
        go_wp2_with (go_at_call 159; refine hv.mono ?_; rintro e w' ⟨rfl, hw⟩; rw [hw])
        go_round
        case rel => exact ⟨k + 1, by omega, by rw [hnx], by go_num⟩
        case measure => simp [intOf]; omega
    · have hks : k = S := by omega
      subst hks
      clear hck
      go_wp2_with (go_at_call 159; refine hv.mono ?_; rintro e w' ⟨rfl, hw⟩; rw [hw])
      go_ret
      exact ⟨rfl, rfl⟩
end
end Go.Proofs.Ytpnhklehpilopaa

namespace Go.Proofs.Ytpnhklehpilopaa
open Go Go.RowKit

/-- b is the first id below k, or -1. -/
def BestTo (m : Nat → Option Int) (k : Nat) (b : Int) : Prop :=
  (b = -1 ∧ ∀ j, j < k → m j = none) ∨ ∃ (i : Nat) (v : Int), b = (i : Int) ∧ i < k ∧ m i = some v ∧ ∀ j u, j < k → m j = some u → befQ ltI (j, u) (i, v) = false

theorem best_skip {m : Nat → Option Int} {k : Nat} {b : Int} (h : BestTo m k b) (hm : m k = none) : BestTo m (k + 1) b := by
  rcases h with ⟨h1, h2⟩ | ⟨i, v, h1, h2, h3, h4⟩
  · refine .inl ⟨h1, fun j hj => ?_⟩
    by_cases e : j = k
    · subst e; exact hm
    · exact h2 j (by omega)
  · refine .inr ⟨i, v, h1, by omega, h3, fun j u hj hu => ?_⟩
    by_cases e : j = k
    · subst e; rw [hm] at hu; cases hu
    · exact h4 j u (by omega) hu

theorem best_new {m : Nat → Option Int} {k : Nat} {u : Int} (h : BestTo m k (-1)) (hm : m k = some u) : BestTo m (k + 1) (k : Int) := by
  rcases h with ⟨h1, h2⟩ | ⟨i, v, h1, h2, h3, h4⟩
  · refine .inr ⟨k, u, rfl, by omega, hm, fun j w hj hw => ?_⟩
    by_cases e : j = k
    · subst e; rw [hm] at hw; cases hw; exact (befQ_ord ordI).irr _
    · rw [h2 j (by omega)] at hw; cases hw
  · omega

theorem best_less {m : Nat → Option Int} {k i : Nat} {u v : Int} (h : BestTo m k (i : Int)) (hm : m k = some u) (hi : m i = some v) (hlt : u < v) : BestTo m (k + 1) (k : Int) := by
  rcases h with ⟨h1, h2⟩ | ⟨i', v', h1, h2, h3, h4⟩
  · omega
  · obtain rfl : i = i' := by omega
    rw [hi] at h3
    cases h3
    refine .inr ⟨k, u, rfl, by omega, hm, fun j w hj hw => ?_⟩
    by_cases e : j = k
    · subst e; rw [hm] at hw; cases hw; exact (befQ_ord ordI).irr _
    · cases hc : befQ ltI (j, w) (k, u) with
      | false => rfl
      | true =>
        have hb : befQ ltI (k, u) (i, v) = true := by simp [befQ, ltI, hlt]
        have := (befQ_ord ordI).tra _ _ _ hc hb
        rw [h4 j w (by omega) hw] at this
        cases this

theorem best_keep {m : Nat → Option Int} {k i : Nat} {u v : Int} (h : BestTo m k (i : Int)) (hm : m k = some u) (hi : m i = some v) (hlt : ¬ u < v) : BestTo m (k + 1) (i : Int) := by
  rcases h with ⟨h1, h2⟩ | ⟨i', v', h1, h2, h3, h4⟩
  · omega
  · obtain rfl : i = i' := by omega
    rw [hi] at h3
    cases h3
    refine .inr ⟨i, v, rfl, by omega, hi, fun j w hj hw => ?_⟩
    by_cases e : j = k
    · subst e
      rw [hm] at hw; cases hw
      simp [befQ, ltI, hlt]
      omega
    · exact h4 j w (by omega) hw

theorem best_at {m : Nat → Option Int} {k : Nat} {b : Int} (h : BestTo m k b) : (b = -1 ∧ ∀ j, j < k → m j = none) ∨ ∃ (i : Nat) (v : Int), b = (i : Int) ∧ i < k ∧ m i = some v := by
  rcases h with h | ⟨i, v, h1, h2, h3, h4⟩
  · exact .inl h
  · exact .inr ⟨i, v, h1, h2, h3⟩

/-- What Peek returns. -/
def rPeek (m : Nat → Option Int) (o : Option (Nat × Int)) : Prop := match o with
  | none => ∀ k, m k = none
  | some x => m x.1 = some x.2 ∧ ∀ k v, m k = some v → befQ ltI (k, v) x = false

section
variable {W W' : World} {rb gi gp ci cp S : Nat} {f : Nat → Bool} {g : Nat → Int}

set_option maxHeartbeats 3200000 in
set_option maxRecDepth 100000 in
theorem rpeek (h : RQ W rb gi gp ci cp S f g) {m : Nat → Option Int} (hm : RM S f g m) :
    Calls Try.prog 156 #[.pointer (some ⟨rb, 0, none⟩)] W fun e w' => ∃ o : Option (Nat × Int), rPeek m o ∧ e = .returned (.tuple #[.int .i64 (match o with | some x => (x.1 : Int) | none => 0), .int .i64 (match o with | some x => x.2 | none => 0), .bool o.isSome]) ∧ ∃ q, w' = W.drewN q := by
  have hS := h.s2
  have HQ : Hid (∀ q, RQ (W.drewN q) rb gi gp ci cp S f g) := Lib.hid fun q => h.below (Below.drewN' q (Below.refl _ _))
  have HM := Lib.hid hm
  clear h hm
  go_enter Try.func156, Try.ntmps156
  go_wp2_with fail
  go_loopw [5, 6] (fun a b wr => ∃ (k : Nat) (bb : Int), k ≤ S ∧ b = .int .i64 k ∧ a = .int .i64 bb ∧ Hid (BestTo m k bb) ∧ Hid (∃ q, wr = W.drewN q)) (fun _ b _ => S - (intOf b).toNat)
  case atStart => exact ⟨0, -1, Nat.zero_le _, rfl, rfl, .inl ⟨rfl, fun j hj => by omega⟩, ⟨0, rfl⟩⟩
  case round =>
    obtain ⟨k, bb, hk, rfl, rfl, HB, HD⟩ := hrel
    obtain ⟨q, hq⟩ := HD.out
    have hR : RQ wr rb gi gp ci cp S f g := by rw [hq]; exact HQ.out q
    have hv := rvalid hR
    have c0 := hR.h0
    have c1 := hR.h1
    have HN : Hid (∀ n, ∃ q, wr.drewN n = W.drewN q) := Lib.hid fun n => ⟨q + n, by rw [hq, World.drewN_drewN]⟩
    have hk0 : (0 : Int) ≤ (k : Int) := by omega
    by_cases hlt : k < S
    · have hki : (k : Int) < (S : Int) := by omega
      have ck := hR.ins k hlt
      have pk := hR.ps k hlt
      rw [HM.out.isin k hlt] at ck
      cases hmk : m k with
      | none =>
        rw [hmk] at ck
        have HB2 := Lib.hid (best_skip HB.out hmk)
        clear hR hq HB HD pk
        go_wp2_with (go_at_call 159; refine hv.mono ?_; rintro e w' ⟨rfl, hw⟩; rw [hw])
        go_quiet (fail)
        rename_i nq
        have HN2 := Lib.hid (HN.out nq)
        generalize wr.drewN nq = wz at *
        go_wp2_with fail
        go_roundw
        case rel => exact ⟨k + 1, bb, by omega, by go_num, rfl, HB2, HN2⟩
        case measure => simp [intOf]; omega
      | some u =>
        rw [hmk] at ck
        rw [HM.out.pri k u hmk] at pk
        rcases best_at HB.out with ⟨rfl, -⟩ | ⟨i, v, rfl, hi, hmi⟩
        · have HB2 := Lib.hid (best_new HB.out hmk)
          clear hR hq HB HD
          go_wp2_with (go_at_call 159; refine hv.mono ?_; rintro e w' ⟨rfl, hw⟩; rw [hw])
          go_quiet (fail)
          rename_i nq
          have HN2 := Lib.hid (HN.out nq)
          generalize wr.drewN nq = wz at *
          go_wp2_with fail
          go_roundw
          case rel => exact ⟨k + 1, (k : Int), by omega, by go_num, rfl, HB2, HN2⟩
          case measure => simp [intOf]; omega
        · have pi := hR.ps i (by omega)
          rw [HM.out.pri i v hmi] at pi
          have hi0 : ¬ (i : Int) < 0 := by omega
          have hi0' : (0 : Int) ≤ (i : Int) := by omega
          have hi1 : (i : Int) < (S : Int) := by omega
          have hd0 : decide ((i : Int) < 0) = false := decide_eq_false hi0
          by_cases huv : u < v
          · have HB2 := Lib.hid (best_less HB.out hmk hmi huv)
            have hd : decide (u < v) = true := decide_eq_true huv
            clear hR hq HB HD
            go_wp2_with (go_at_call 159; refine hv.mono ?_; rintro e w' ⟨rfl, hw⟩; rw [hw])
            go_quiet (fail)
            rename_i nq
            have HN2 := Lib.hid (HN.out nq)
            generalize wr.drewN nq = wz at *
            go_wp2_with fail
            go_roundw
            case rel => exact ⟨k + 1, (k : Int), by omega, by go_num, rfl, HB2, HN2⟩
            case measure => simp [intOf]; omega
          · have HB2 := Lib.hid (best_keep HB.out hmk hmi huv)
            have hd : decide (u < v) = false := decide_eq_false huv
            have huv2 : v ≤ u := by omega
            clear hR hq HB HD
            go_wp2_with (go_at_call 159; refine hv.mono ?_; rintro e w' ⟨rfl, hw⟩; rw [hw])
            go_quiet (fail)
            rename_i nq
            have HN2 := Lib.hid (HN.out nq)
            generalize wr.drewN nq = wz at *
            go_wp2_with fail
            go_roundw
            case rel => exact ⟨k + 1, (i : Int), by omega, by go_num, rfl, HB2, HN2⟩
            case measure => simp [intOf]; omega
    · have hks : k = S := by omega
      subst hks
      rcases HB.out with ⟨rfl, hno⟩ | ⟨i, v, rfl, hi, hmi, hall⟩
      · have HR : Hid (rPeek m none) := Lib.hid fun j => by
          rcases Nat.lt_or_ge j k with hj | hj
          · exact hno j hj
          · exact HM.out.low j hj
        have HN2 := Lib.hid (HN.out 0)
        clear hR hq HB HD hno
        go_wp2_with (go_at_call 159; refine hv.mono ?_; rintro e w' ⟨rfl, hw⟩; rw [hw])
        go_ret3
        exact ⟨none, HR.out, rfl, HN2.out⟩
      · have pi := hR.ps i hi
        rw [HM.out.pri i v hmi] at pi
        have HR : Hid (rPeek m (some (i, v))) := Lib.hid ⟨hmi, fun j u hu => by
          rcases Nat.lt_or_ge j k with hj | hj
          · exact hall j u hj hu
          · rw [HM.out.low j hj] at hu; cases hu⟩
        have hi0 : ¬ (i : Int) < 0 := by omega
        have hi0' : (0 : Int) ≤ (i : Int) := by omega
        have hi1 : (i : Int) < (k : Int) := by omega
        clear hR hq HB HD hall
        go_wp2_with (go_at_call 159; refine hv.mono ?_; rintro e w' ⟨rfl, hw⟩; rw [hw])
        go_quiet (fail)
        rename_i nq
        have HN2 := Lib.hid (HN.out nq)
        generalize wr.drewN nq = wz at *
        go_wp2_with fail
        go_ret3
        exact ⟨some (i, v), HR.out, rfl, HN2.out⟩
end
end Go.Proofs.Ytpnhklehpilopaa

namespace Go.Proofs.Ytpnhklehpilopaa
open Go Go.RowKit

section
variable {W W' : World} {rb gi gp ci cp S : Nat} {f : Nat → Bool} {g : Nat → Int}

set_option maxHeartbeats 1600000 in
set_option maxRecDepth 100000 in
theorem rpop (h : RQ W rb gi gp ci cp S f g) {m : Nat → Option Int} (hm : RM S f g m) :
    Calls Try.prog 58 #[.pointer (some ⟨rb, 0, none⟩)] W fun e w' => ∃ (o : Option (Nat × Int)) (f' : Nat → Bool), rPeek m o ∧ e = .returned (.tuple #[.int .i64 (match o with | some x => (x.1 : Int) | none => 0), .int .i64 (match o with | some x => x.2 | none => 0), .bool o.isSome]) ∧
      RQ w' rb gi gp ci cp S f' g ∧ RM S f' g (match o with | some x => mSet m x.1 none | none => m) ∧ RTch gi gp W w' := by
  have hpk := rpeek h hm
  have HD : Hid (∀ q, RQ (W.drewN q) rb gi gp ci cp S f g) := Lib.hid fun q => h.below (Below.drewN' q (Below.refl _ _))
  have HM := Lib.hid hm
  clear h hm
  go_enter Try.func58, Try.ntmps58
  go_wp2_with fail
  refine hpk.mono ?_
  rintro e w1 ⟨o, ho, rfl, q, rfl⟩
  have HO := Lib.hid ho
  clear ho hpk
  have hb0 : Below W.heap.size W (W.drewN q) := Below.drewN' q (Below.refl _ _)
  cases o with
  | none =>
    have hno : ∀ k, m k = none := HO.out
    have hrm := rremoveNo (HD.out q) 0 (by
      rintro ⟨-, h1, h2⟩
      rw [show Int.toNat 0 = 0 from rfl, HM.out.isin 0 (by omega), hno 0] at h2
      cases h2)
    have HB0 := Lib.hid hb0
    clear hb0
    go_wp2_with fail
    refine hrm.mono ?_
    rintro e w2 ⟨rfl, q2, rfl⟩
    have HF : Hid (RQ ((W.drewN q).drewN q2) rb gi gp ci cp S f g ∧ RTch gi gp W ((W.drewN q).drewN q2)) := Lib.hid ⟨(HD.out q).below (Below.drewN' q2 (Below.refl _ _)), RTch.of_below (HB0.out.trans ((Below.drewN' q2 (Below.refl _ _)).mono HB0.out.size))⟩
    generalize (W.drewN q).drewN q2 = V at *
    go_wp2_with fail
    go_ret3
    exact ⟨none, f, HO.out, rfl, HF.out.1, HM.out, HF.out.2⟩
  | some x =>
    obtain ⟨xi, xv⟩ := x
    have hx : m xi = some xv := HO.out.1
    have hxs : xi < S := by
      rcases Nat.lt_or_ge xi S with h1 | h1
      · exact h1
      · rw [HM.out.low xi h1] at hx; cases hx
    have hrm := rremove (HD.out q) hxs (by rw [HM.out.isin xi hxs, hx]; rfl)
    have HB0 := Lib.hid hb0
    have HX := Lib.hid hxs
    clear hb0 hx hxs
    go_wp2_with fail
    refine hrm.mono ?_
    rintro e w2 ⟨rfl, h1, h2⟩
    have HF := Lib.hid (And.intro h1 ((RTch.of_below HB0.out).trans h2))
    clear h1 h2
    go_wp2_with fail
    go_ret3
    exact ⟨some (xi, xv), _, HO.out, rfl, HF.out.1, HM.out.remove HX.out, HF.out.2⟩
end

theorem infoBR : (Try.prog.info? 4).map (fun i => (i.zero, i.size, i.bytes)) = some (some (.bool false), 1, 1) := by kernel_rfl
theorem infoLR : (Try.prog.info? 2).map (fun i => (i.zero, i.size, i.bytes)) = some (some (.int .i64 0), 1, 8) := by kernel_rfl

theorem made_at (v : Value) (hv : v.cells = #[v]) (n k : Nat) (hk : k < n) : (madeCells v.cells n)[k]? = some v := by
  rw [hv]
  unfold madeCells
  simp [hk, Nat.mod_one]

/-- A queue that was just made. -/
theorem rq_made {V : World} {rb gi gp S : Nat} (s1 : 1 ≤ S) (s2 : S ≤ 1024) (hb : V.heap[rb]? = some (.cells #[.slice (some ⟨gi, 0, none⟩) S S, .slice (some ⟨gp, 0, none⟩) S S] 210 (0, 0)))
    (hi : V.heap[gi]? = some (.cells (madeCells (Value.bool false).cells S) 4 (0, 0))) (hp : V.heap[gp]? = some (.cells (madeCells (Value.int .i64 0).cells S) 2 (0, 0))) (n0 : rb ≠ gi) (n1 : rb ≠ gp) (n2 : gi ≠ gp) :
    RQ V rb gi gp S S S (fun _ => false) (fun _ => 0) := by
  refine ⟨by simp [World.cell?, hb], by simp [World.cell?, hb], s1, s2, Nat.le_refl _, Nat.le_refl _, fun k hk => ?_, fun k _ => by simp [World.frozen?, hi], fun k hk => ?_, fun k _ => by simp [World.frozen?, hp], n0, n1, n2⟩
  · simp only [World.cell?, hi]; exact made_at _ rfl S k hk
  · simp only [World.cell?, hp]; exact made_at _ rfl S k hk

theorem rm_none (S : Nat) : RM S (fun _ => false) (fun _ => 0) (fun _ => none) := ⟨fun _ _ => rfl, (fun _ _ h => by cases h), fun _ _ => rfl⟩

set_option maxHeartbeats 1600000 in
set_option maxRecDepth 100000 in
theorem rnew (S : Nat) (s1 : 1 ≤ S) (s2 : S ≤ 1024) (W : World) :
    Calls Try.prog 50 #[.int .i64 (S : Nat)] W fun e w' => ∃ rb gi gp, e = .returned (.tuple #[.pointer (some ⟨rb, 0, none⟩), .int .i64 0]) ∧ RQ w' rb gi gp S S S (fun _ => false) (fun _ => 0) ∧ Below W.heap.size W w' ∧ W.heap.size ≤ rb ∧ W.heap.size ≤ gi ∧ W.heap.size ≤ gp := by
  obtain ⟨i0, hi, hz0, hz1, hz2⟩ := info_parts infoBR
  obtain ⟨j0, hj, hy0, hy1, hy2⟩ := info_parts infoLR
  have m1 : ∀ V, (Instr.makeSlice 208 (.int .i64 (S : Nat)) (.int .i64 (S : Nat))).run Try.prog V = .ok (.slice (some ⟨V.heap.size, 0, none⟩) S S) (V.alloc (.cells (madeCells (Value.bool false).cells S) 4)) := fun V => by
    have := run_make (P := Try.prog) V 208 4 i0 _ Try.underlying208 hi hz0 .i64 .i64 (S : Nat) (S : Nat) (by omega) (by omega) (by rw [hz2]; omega) (by omega)
    rw [hz1] at this
    simpa using this
  have m2 : ∀ V, (Instr.makeSlice 109 (.int .i64 (S : Nat)) (.int .i64 (S : Nat))).run Try.prog V = .ok (.slice (some ⟨V.heap.size, 0, none⟩) S S) (V.alloc (.cells (madeCells (Value.int .i64 0).cells S) 2)) := fun V => by
    have := run_make (P := Try.prog) V 109 2 j0 _ Try.underlying109 hj hy0 .i64 .i64 (S : Nat) (S : Nat) (by omega) (by omega) (by rw [hy2]; omega) (by omega)
    rw [hy1] at this
    simpa using this
  clear hi hz0 hz1 hz2 hj hy0 hy1 hy2
  have hnew : ∀ (z1 z2 : Array Value) (t1 t2 t3 : TypeId) (cs : Array Value) (V : World), V = ((W.alloc (.cells z1 t1)).alloc (.cells z2 t2)).alloc (.cells cs t3) → V.heap[W.heap.size]? = some (.cells z1 t1 (0, 0)) ∧ V.heap[W.heap.size + 1]? = some (.cells z2 t2 (0, 0)) ∧ V.heap[W.heap.size + 1 + 1]? = some (.cells cs t3 (0, 0)) ∧ Below W.heap.size W V := fun z1 z2 t1 t2 t3 cs V hV => by
    subst hV
    refine ⟨?_, ?_, ?_, (((Below.refl _ W).alloc (Nat.le_refl _) _).alloc (by simp) _).alloc (by simp; omega) _⟩
    · rw [Below.heap_alloc _ _ _ (by simp; omega), Below.heap_alloc _ _ _ (by simp)]
      exact heap_alloc_new _ _
    · rw [Below.heap_alloc _ _ _ (by simp)]
      have := heap_alloc_new (W.alloc (.cells z1 t1)) (.cells z2 t2)
      simpa using this
    · have := heap_alloc_new ((W.alloc (.cells z1 t1)).alloc (.cells z2 t2)) (.cells cs t3)
      simpa using this
  have HMA : Hid (∀ V, V = ((W.alloc (.cells (madeCells (Value.bool false).cells S) 4)).alloc (.cells (madeCells (Value.int .i64 0).cells S) 2)).alloc (.cells #[.slice (some ⟨W.heap.size, 0, none⟩) S S, .slice (some ⟨W.heap.size + 1, 0, none⟩) S S] 210) → RQ V (W.heap.size + 1 + 1) W.heap.size (W.heap.size + 1) S S S (fun _ => false) (fun _ => 0) ∧ Below W.heap.size W V) := Lib.hid fun V hV => by
    obtain ⟨e1, e2, e3, e4⟩ := hnew _ _ _ _ _ _ V hV
    exact ⟨rq_made s1 s2 e3 e1 e2 (by omega) (by omega) (by omega), e4⟩
  have HMB : Hid (∀ V, V = ((W.alloc (.cells (madeCells (Value.int .i64 0).cells S) 2)).alloc (.cells (madeCells (Value.bool false).cells S) 4)).alloc (.cells #[.slice (some ⟨W.heap.size + 1, 0, none⟩) S S, .slice (some ⟨W.heap.size, 0, none⟩) S S] 210) → RQ V (W.heap.size + 1 + 1) (W.heap.size + 1) W.heap.size S S S (fun _ => false) (fun _ => 0) ∧ Below W.heap.size W V) := Lib.hid fun V hV => by
    obtain ⟨e1, e2, e3, e4⟩ := hnew _ _ _ _ _ _ V hV
    exact ⟨rq_made s1 s2 e3 e2 e1 (by omega) (by omega) (by omega), e4⟩
  clear hnew
  have k0 : ¬ (S : Int) < 1 := by omega
  have k1 : ¬ (1024 : Int) < (S : Int) := by omega
  generalize madeCells (Value.bool false).cells S = zb at *
  generalize madeCells (Value.int .i64 0).cells S = zp at *
  go_enter Try.func50, Try.ntmps50
  go_wp2_with fail
  go_region
  · obtain ⟨V, hV⟩ : ∃ V, V = ((W.alloc (.cells zb 4)).alloc (.cells zp 2)).alloc (.cells #[.slice (some ⟨W.heap.size, 0, none⟩) S S, .slice (some ⟨W.heap.size + 1, 0, none⟩) S S] 210) := ⟨_, rfl⟩
    have hR := HMA.out V hV
    rw [← hV]
    have HR := Lib.hid (And.intro (hR.1.below (Below.refl _ _).drew) (hR.2.drew))
    clear hR hV HMA HMB m1 m2
    generalize V.drew = V2 at *
    go_wp2_with fail
    go_ret2
    exact ⟨_, _, _, rfl, HR.out.1, HR.out.2, by omega, by omega, by omega⟩
  · obtain ⟨V, hV⟩ : ∃ V, V = ((W.alloc (.cells zp 2)).alloc (.cells zb 4)).alloc (.cells #[.slice (some ⟨W.heap.size + 1, 0, none⟩) S S, .slice (some ⟨W.heap.size, 0, none⟩) S S] 210) := ⟨_, rfl⟩
    have hR := HMB.out V hV
    rw [← hV]
    have HR := Lib.hid (And.intro (hR.1.below (Below.refl _ _).drew) (hR.2.drew))
    clear hR hV HMA HMB m1 m2
    generalize V.drew = V2 at *
    go_wp2_with fail
    go_ret2
    exact ⟨_, _, _, rfl, HR.out.1, HR.out.2, by omega, by omega, by omega⟩
end Go.Proofs.Ytpnhklehpilopaa

namespace Go.Proofs.Ytpnhklehpilopaa
open Go Go.RowKit

set_option maxHeartbeats 800000 in
set_option maxRecDepth 100000 in
theorem rvalidN (W : World) :
    Calls Try.prog 159 #[.pointer none] W fun e w' => e = .returned (.bool false) ∧ w' = W := by
  go_enter Try.func159, Try.ntmps159
  go_wp2_with fail
  go_ret
  exact ⟨rfl, rfl⟩

set_option maxHeartbeats 800000 in
set_option maxRecDepth 100000 in
theorem ridN (k : Int) (W : World) :
    Calls Try.prog 151 #[.pointer none, .int .i64 k] W fun e w' => e = .returned (.int .i64 1) ∧ w' = W := by
  have hv := rvalidN W
  go_enter Try.func151, Try.ntmps151
  go_wp2_with (go_at_call 159; refine hv.mono ?_; rintro e w' ⟨rfl, rfl⟩)
  go_ret
  exact ⟨rfl, rfl⟩

set_option maxHeartbeats 800000 in
set_option maxRecDepth 100000 in
theorem rpushN (k v : Int) (W : World) :
    Calls Try.prog 52 #[.pointer none, .int .i64 k, .int .i64 v] W fun e w' => e = .returned (.int .i64 1) ∧ w' = W := by
  have hv := ridN k W
  go_enter Try.func52, Try.ntmps52
  go_wp2_with (go_at_call 151; refine hv.mono ?_; rintro e w' ⟨rfl, rfl⟩)
  go_ret
  exact ⟨rfl, rfl⟩

set_option maxHeartbeats 800000 in
set_option maxRecDepth 100000 in
theorem rchangeN (k v : Int) (W : World) :
    Calls Try.prog 54 #[.pointer none, .int .i64 k, .int .i64 v] W fun e w' => e = .returned (.int .i64 1) ∧ w' = W := by
  have hv := ridN k W
  go_enter Try.func54, Try.ntmps54
  go_wp2_with (go_at_call 151; refine hv.mono ?_; rintro e w' ⟨rfl, rfl⟩)
  go_ret
  exact ⟨rfl, rfl⟩

set_option maxHeartbeats 800000 in
set_option maxRecDepth 100000 in
theorem rpriorityN (k : Int) (W : World) :
    Calls Try.prog 155 #[.pointer none, .int .i64 k] W fun e w' => e = .returned (.tuple #[.int .i64 0, .bool false]) ∧ w' = W := by
  have hv := ridN k W
  go_enter Try.func155, Try.ntmps155
  go_wp2_with (go_at_call 151; refine hv.mono ?_; rintro e w' ⟨rfl, rfl⟩)
  go_ret2
  exact ⟨rfl, rfl⟩

set_option maxHeartbeats 800000 in
set_option maxRecDepth 100000 in
theorem rremoveN (k : Int) (W : World) :
    Calls Try.prog 56 #[.pointer none, .int .i64 k] W fun e w' => e = .returned (.tuple #[.int .i64 0, .bool false]) ∧ w' = W := by
  have hv := rpriorityN k W
  go_enter Try.func56, Try.ntmps56
  go_wp2_with (go_at_call 155; refine hv.mono ?_; rintro e w' ⟨rfl, rfl⟩)
  go_ret2
  exact ⟨rfl, rfl⟩

set_option maxHeartbeats 800000 in
set_option maxRecDepth 100000 in
theorem rcopyN (W : World) :
    Calls Try.prog 60 #[.pointer none] W fun e w' => e = .returned (.pointer none) ∧ w' = W := by
  have hv := rvalidN W
  go_enter Try.func60, Try.ntmps60
  go_wp2_with (go_at_call 159; refine hv.mono ?_; rintro e w' ⟨rfl, rfl⟩)
  go_ret
  exact ⟨rfl, rfl⟩

set_option maxHeartbeats 800000 in
set_option maxRecDepth 100000 in
theorem rlenN (W : World) :
    Calls Try.prog 160 #[.pointer none] W fun e w' => e = .returned (.int .i64 0) ∧ w' = W := by
  have hv := rvalidN W
  go_enter Try.func160, Try.ntmps160
  go_wp2_with fail
  go_loop [3, 4] (fun a b => a = .int .i64 0 ∧ b = .int .i64 0) (fun _ _ => 0)
  case atStart => exact ⟨rfl, rfl⟩
  case round =>
    obtain ⟨rfl, rfl⟩ := hrel
    go_wp2_with (go_at_call 159; refine hv.mono ?_; rintro e w' ⟨rfl, hw⟩; rw [hw])
    go_ret
    exact ⟨rfl, rfl⟩

set_option maxHeartbeats 800000 in
set_option maxRecDepth 100000 in
theorem rpeekN (W : World) :
    Calls Try.prog 156 #[.pointer none] W fun e w' => e = .returned (.tuple #[.int .i64 0, .int .i64 0, .bool false]) ∧ w' = W := by
  have hv := rvalidN W
  go_enter Try.func156, Try.ntmps156
  go_wp2_with fail
  go_loop [5, 6] (fun a b => a = .int .i64 (-1) ∧ b = .int .i64 0) (fun _ _ => 0)
  case atStart => exact ⟨rfl, rfl⟩
  case round =>
    obtain ⟨rfl, rfl⟩ := hrel
    go_wp2_with (go_at_call 159; refine hv.mono ?_; rintro e w' ⟨rfl, hw⟩; rw [hw])
    go_ret3
    exact ⟨rfl, rfl⟩

set_option maxHeartbeats 800000 in
set_option maxRecDepth 100000 in
theorem rpopN (W : World) :
    Calls Try.prog 58 #[.pointer none] W fun e w' => e = .returned (.tuple #[.int .i64 0, .int .i64 0, .bool false]) ∧ w' = W := by
  have hv := rpeekN W
  have hr := rremoveN 0 W
  go_enter Try.func58, Try.ntmps58
  go_wp2_with (go_at_call 156; refine hv.mono ?_; rintro e w' ⟨rfl, rfl⟩)
  refine hr.mono ?_
  rintro e w' ⟨rfl, rfl⟩
  go_wp2_with fail
  go_ret3
  exact ⟨rfl, rfl⟩

set_option maxHeartbeats 800000 in
set_option maxRecDepth 100000 in
theorem rnewBad (S : Int) (h : S < 1 ∨ 1024 < S) (W : World) :
    Calls Try.prog 50 #[.int .i64 S] W fun e w' => e = .returned (.tuple #[.pointer none, .int .i64 2]) ∧ w' = W := by
  by_cases k0 : S < 1
  · go_enter Try.func50, Try.ntmps50
    go_wp2_with fail
    go_ret2
    exact ⟨rfl, rfl⟩
  · have k1 : 1024 < S := by omega
    clear h
    go_enter Try.func50, Try.ntmps50
    go_wp2_with fail
    go_ret2
    exact ⟨rfl, rfl⟩

end Go.Proofs.Ytpnhklehpilopaa

namespace Go.Proofs.Ytpnhklehpilopaa
open Go Go.RowKit

/-- The elements of a slice appended to one without elements, in any world from W1 on: a new block. -/
def AppOK (P : Program) (T E : TypeId) (W1 : World) (p : Addr) (S cap : Nat) (val : Nat → Value) : Prop :=
  ∀ (X : World) (B : Addr), Below W1.heap.size W1 X → ∃ cc cur, S ≤ cc ∧ (Builtin.append_ #[T, T] T #[.slice (some B) 0 0, .slice (some p) S cap]).run P X = .ok (.slice (some ⟨X.heap.size, 0, none⟩) S cc) (X.drew.alloc (.cells cur E)) ∧ ∀ k, k < S → cur[k]? = some (val k)

theorem app_ok {P : Program} {T E : TypeId} (i : TypeInfo) (z : Value) (hT : P.underlying T = some (.slice E)) (hi : P.info? E = some i) (hz : i.zero = some z) (hs : i.size = 1) (hby : i.bytes ≤ 1000)
    {W1 : World} {g S cap : Nat} {val : Nat → Value} (s1 : 1 ≤ S) (s2 : S ≤ 1024) (hc : ∀ k, k < S → W1.cell? ⟨g, k, none⟩ = some (val k)) : AppOK P T E W1 ⟨g, 0, none⟩ S cap val := fun X B hb => by
  have hg : g < W1.heap.size := World.block_lt_of_cell? _ _ (hc 0 s1)
  have hsmall : S * i.bytes ≤ 140737488355328 := by
    have := Nat.mul_le_mul s2 hby
    omega
  have hcell : ∀ (j : Nat) (v : Value), ((List.range S).map val)[j]? = some v → X.cell? ((⟨g, 0, none⟩ : Addr).add j) = some v := fun j v hj => by
    rw [Addr.add_lit, Nat.zero_add]
    rw [List.getElem?_map] at hj
    rcases Nat.lt_or_ge j S with h1 | h1
    · rw [List.getElem?_range h1] at hj
      cases hj
      exact (cell_same (hb.block g hg)).trans (hc j h1)
    · rw [List.getElem?_eq_none (by simpa using h1)] at hj
      cases hj
  have hr := run_append_grow (P := P) X T T E i z hT hi hz B 0 0 [] (by simp) (fun j v h => by simp at h) ⟨g, 0, none⟩ S cap ((List.range S).map val) (by rw [hs]; simp) hcell (by omega) (by omega) (growslice_fits (by omega) (by simpa using hsmall))
  rw [Nat.zero_add] at hr
  refine ⟨_, _, grownCap_ge X S 0 E, hr, fun k hk => ?_⟩
  rw [Array.getElem?_append_left (by simpa using hk)]
  simp [hk]

/-- .. and as a step of a region. -/
theorem step_app {P : Program} {ops : Array Oper} {o : Oper} {a : Act} {w : World} {K : Act → World → Prop} {Q : Exit → Act → World → Prop} {E0 : Prop} {W1 : World} {T E : TypeId} {p B : Addr} {S cap : Nat} {val : Nat → Value}
    (happ : Hid (AppOK P T E W1 p S cap val)) (hg : o.guard = none) (d x : Operand) (hop : o.op = Op.call { callee := Callee.builtin Builtin.append, args := #[d, x], argTypes := #[T, T] }) (ht : o.type = T)
    (hd : a.eval d = .slice (some B) 0 0) (hx : a.eval x = .slice (some p) S cap) (hb : Hid (Below W1.heap.size W1 w))
    (hK : ∀ gg cc w', Hid (S ≤ cc ∧ w.heap.size ≤ gg ∧ gg < w'.heap.size ∧ ∃ cur, w'.heap[gg]? = some (.cells cur E (0, 0)) ∧ ∀ k, k < S → cur[k]? = some (val k)) → Hid (Below w.heap.size w w') → Hid (Below W1.heap.size W1 w') → K (a.put o.dst (.slice (some ⟨gg, 0, none⟩) S cc)) w') :
    if Region.wanted o (yielded ops a.tmps) = true then Oper.wp P o a w K Q else E0 := by
  obtain ⟨cc, cur, h1, h2, h3⟩ := happ.out w B hb.out
  have hbw : Below w.heap.size w (w.drew.alloc (.cells cur E)) := (Below.refl _ _).drew.alloc (Nat.le_refl _) _
  refine step_append_run hg d x T T hop _ _ hd hx (by rw [ht]; exact h2) (hK _ cc _ (Lib.hid ⟨h1, Nat.le_refl _, by simp, cur, ?_, h3⟩) (Lib.hid hbw) (Lib.hid (hb.out.trans (hbw.mono hb.out.size))))
  have := heap_alloc_new w.drew (.cells cur E)
  simpa using this

theorem hballoc {W X : World} (h : Hid (Below W.heap.size W X)) (o : Obj) : Hid (Below W.heap.size W (X.alloc o)) := Lib.hid (h.out.alloc h.out.size o)
theorem hbdrew {W X : World} (h : Hid (Below W.heap.size W X)) : Hid (Below W.heap.size W X.drew) := Lib.hid h.out.drew

section
variable {W W' : World} {rb gi gp ci cp S : Nat} {f : Nat → Bool} {g : Nat → Int}

theorem rq_copied {W1 X1 wA X2 wB V : World} {g1 c1 g2 c2 : Nat} (hs : Hid (1 ≤ S ∧ S ≤ 1024))
    (hR1 : Hid (S ≤ c1 ∧ X1.heap.size ≤ g1 ∧ g1 < wA.heap.size ∧ ∃ cur, wA.heap[g1]? = some (.cells cur 4 (0, 0)) ∧ ∀ k, k < S → cur[k]? = some (.bool (f k))))
    (hR2 : Hid (S ≤ c2 ∧ X2.heap.size ≤ g2 ∧ g2 < wB.heap.size ∧ ∃ cur, wB.heap[g2]? = some (.cells cur 2 (0, 0)) ∧ ∀ k, k < S → cur[k]? = some (.int .i64 (g k))))
    (hL2 : Hid (Below X2.heap.size X2 wB)) (hA : wA.heap.size ≤ X2.heap.size) (hk : ∀ b, b < wA.heap.size → X2.heap[b]? = wA.heap[b]?) (h1 : W1.heap.size ≤ X1.heap.size) (h2 : W1.heap.size ≤ X2.heap.size) (hBB : Hid (Below W1.heap.size W1 wB))
    (hV : V = wB.alloc (.cells #[.slice (some ⟨g1, 0, none⟩) S c1, .slice (some ⟨g2, 0, none⟩) S c2] 210)) :
    Hid (RQ V wB.heap.size g1 g2 c1 c2 S f g ∧ Below W1.heap.size W1 V ∧ W1.heap.size ≤ wB.heap.size ∧ W1.heap.size ≤ g1 ∧ W1.heap.size ≤ g2) := by
  obtain ⟨a1, a2, a3, cur1, a4, a5⟩ := hR1.out
  obtain ⟨b1, b2, b3, cur2, b4, b5⟩ := hR2.out
  have hsz := hL2.out.size
  have e1 : wB.heap[g1]? = some (.cells cur1 4 (0, 0)) := by rw [hL2.out.block g1 (by omega), hk g1 a3, a4]
  have d1 : V.heap[g1]? = some (.cells cur1 4 (0, 0)) := by rw [hV, Below.heap_alloc _ _ _ (by omega), e1]
  have d2 : V.heap[g2]? = some (.cells cur2 2 (0, 0)) := by rw [hV, Below.heap_alloc _ _ _ (by omega), b4]
  have d0 : V.heap[wB.heap.size]? = some (.cells #[.slice (some ⟨g1, 0, none⟩) S c1, .slice (some ⟨g2, 0, none⟩) S c2] 210 (0, 0)) := by rw [hV]; exact heap_alloc_new _ _
  refine Lib.hid ⟨⟨by simp [World.cell?, d0], by simp [World.cell?, d0], hs.out.1, hs.out.2, a1, b1, fun k hk => ?_, fun k _ => by simp [World.frozen?, d1], fun k hk => ?_, fun k _ => by simp [World.frozen?, d2], by omega, by omega, by omega⟩, ?_, hBB.out.size, by omega, by omega⟩
  · simp only [World.cell?, d1]; exact a5 k hk
  · simp only [World.cell?, d2]; exact b5 k hk
  · rw [hV]; exact hBB.out.alloc hBB.out.size _

set_option maxHeartbeats 1600000 in
set_option maxRecDepth 100000 in
theorem rcopy (h : RQ W rb gi gp ci cp S f g) :
    Calls Try.prog 60 #[.pointer (some ⟨rb, 0, none⟩)] W fun e w' => ∃ rb' gi' gp' ci' cp', e = .returned (.pointer (some ⟨rb', 0, none⟩)) ∧ RQ w' rb' gi' gp' ci' cp' S f g ∧ Below W.heap.size W w' ∧ W.heap.size ≤ rb' ∧ W.heap.size ≤ gi' ∧ W.heap.size ≤ gp' := by
  have hv := rvalid h
  obtain ⟨i0, hi, hz0, hz1, hz2⟩ := info_parts infoBR
  obtain ⟨j0, hj, hy0, hy1, hy2⟩ := info_parts infoLR
  have HA1 : Hid (AppOK Try.prog 208 4 W ⟨gi, 0, none⟩ S ci (fun k => .bool (f k))) := Lib.hid (app_ok i0 _ Try.underlying208 hi hz0 hz1 (by rw [hz2]; decide) h.s1 h.s2 h.ins)
  have HA2 : Hid (AppOK Try.prog 109 2 W ⟨gp, 0, none⟩ S cp (fun k => .int .i64 (g k))) := Lib.hid (app_ok j0 _ Try.underlying109 hj hy0 hy1 (by rw [hy2]; decide) h.s1 h.s2 h.ps)
  clear hi hz0 hz1 hz2 hj hy0 hy1 hy2
  have k0 := h.h0
  have k1 := h.h1
  have HK : Hid (∀ w', Hid (Below W.heap.size W w') → w'.cell? ⟨rb, 0, none⟩ = some (.slice (some ⟨gi, 0, none⟩) S ci) ∧ w'.cell? ⟨rb, 1, none⟩ = some (.slice (some ⟨gp, 0, none⟩) S cp) ∧ Hid (Below W.heap.size W w')) := Lib.hid fun w' hb =>
    ⟨(h.below hb.out).h0, (h.below hb.out).h1, hb⟩
  have HB := Lib.hid (Below.refl W.heap.size W)
  have HS : Hid (1 ≤ S ∧ S ≤ 1024) := Lib.hid ⟨h.s1, h.s2⟩
  clear h
  go_enter Try.func60, Try.ntmps60
  go_wp2_with fail
  refine hv.mono ?_
  rintro e W1 ⟨rfl, rfl⟩
  go_wp2_with fail
  go_region_held3 (fun w' => w'.cell? ⟨rb, 0, none⟩ = some (.slice (some ⟨gi, 0, none⟩) S ci) ∧ w'.cell? ⟨rb, 1, none⟩ = some (.slice (some ⟨gp, 0, none⟩) S cp) ∧ Hid (Below W1.heap.size W1 w'))
    ((refine HK.out _ ?_; repeat (first | assumption | refine hballoc ?_ _ | refine hbdrew ?_)))
    (first
      | (refine step_app HA1 rfl _ _ rfl rfl rfl rfl ?_ ?_; · (repeat (first | assumption | refine hballoc ?_ _ | refine hbdrew ?_))
         intro g1 c1 wA HR1 HL1 HBA)
      | (refine step_app HA2 rfl _ _ rfl rfl rfl rfl ?_ ?_; · (repeat (first | assumption | refine hballoc ?_ _ | refine hbdrew ?_))
         intro g2 c2 wB HR2 HL2 HBB))
  all_goals
    obtain ⟨V, hV⟩ : ∃ V, V = wB.alloc (.cells #[.slice (some ⟨g1, 0, none⟩) S c1, .slice (some ⟨g2, 0, none⟩) S c2] 210) := ⟨_, rfl⟩
    have HF := rq_copied (W1 := W1) HS HR1 HR2 HL2 (by simp) (fun b hb => by first | rfl | exact Below.heap_alloc _ _ _ hb) (by have := HBA.out.size; simp; try omega) (by have := HBA.out.size; simp; omega) HBB hV
    rw [← hV]
    clear hV HR1 HL1 HBA HR2 HL2 HBB HK HA1 HA2 hv
    go_wp2_with fail
    go_ret
    exact ⟨_, _, _, _, _, rfl, HF.out⟩
end
end Go.Proofs.Ytpnhklehpilopaa

namespace Go.Proofs.Ytpnhklehpilopaa
open Go Go.RowKit

/-- How far a list of ids, and one of priorities, and the copy have come. -/
structure ASt (W w : World) (n0 rb gi gp ci cp S : Nat) (g : Nat → Int) (m : Nat → Option Int) (l : List (Nat × Int)) (i j k : Nat) (v1 v2 : Value) : Prop where
  hn : W.heap.size ≤ n0
  hw : n0 ≤ w.heap.size
  new : W.heap.size ≤ gi ∧ W.heap.size ≤ gp
  lt : rb < n0 ∧ gi < n0 ∧ gp < n0
  bel : Below W.heap.size W w
  q : ∃ f, RQ w rb gi gp ci cp S f g ∧ RM S f g (mAt m l i)
  r1 : w.ownsRow n0 3 1 v1 j ((l.take j).map fun x => .int .i64 (x.1 : Nat))
  r2 : w.ownsRow n0 2 1 v2 k ((l.take k).map fun x => .int .i64 x.2)

section
variable {W w w' : World} {n0 rb gi gp ci cp S : Nat} {g : Nat → Int} {m : Nat → Option Int} {l : List (Nat × Int)} {i j k : Nat} {v1 v2 : Value}

theorem row_same {base : Nat} {e : TypeId} {v : Value} {n : Nat} {xs : List Value} (h : w.ownsRow base e 1 v n xs) (hb : ∀ b, base ≤ b → b < w.heap.size → (∀ cur, w.heap[b]? = some (.cells cur e (0, 0)) → w'.heap[b]? = w.heap[b]?)) : w'.ownsRow base e 1 v n xs := by
  refine ⟨h.1, ?_⟩
  rcases h.2 with h1 | ⟨g, cap, cur, h1, h2, h3, h4⟩
  · exact .inl h1
  · exact .inr ⟨g, cap, cur, h1, h2, (hb g h2 (Array.getElem?_eq_some_iff.1 h3).1 cur h3).trans h3, h4⟩

theorem ASt.draw (h : ASt W w n0 rb gi gp ci cp S g m l i j k v1 v2) (n : Nat) : ASt W (w.drewN n) n0 rb gi gp ci cp S g m l i j k v1 v2 := by
  have hb : Below w.heap.size w (w.drewN n) := Below.drewN' n (Below.refl _ _)
  obtain ⟨f, h1, h2⟩ := h.q
  exact ⟨h.hn, Nat.le_trans h.hw hb.size, h.new, h.lt, h.bel.trans (hb.mono h.bel.size), ⟨f, h1.below hb, h2⟩, row_same h.r1 (fun b _ hlt _ _ => hb.block b hlt), row_same h.r2 (fun b _ hlt _ _ => hb.block b hlt)⟩

theorem ASt.pop {f : Nat → Bool} (h : ASt W w n0 rb gi gp ci cp S g m l i j k v1 v2) (h1 : RQ w' rb gi gp ci cp S f g) (h2 : RM S f g (mAt m l (i + 1))) (ht : RTch gi gp w w') : ASt W w' n0 rb gi gp ci cp S g m l (i + 1) j k v1 v2 :=
  ⟨h.hn, Nat.le_trans h.hw ht.size, h.new, h.lt, ⟨ht.os.trans h.bel.os, ht.tape.trans h.bel.tape, ht.output.trans h.bel.output, Nat.le_trans h.bel.size ht.size, fun b hb => by
    have := h.new
    have := h.bel.size
    rw [ht.block b (by omega) (by omega) (by omega), h.bel.block b hb]⟩, ⟨f, h1, h2⟩, row_same h.r1 (fun b hb hlt _ _ => by have := h.lt; exact ht.block b hlt (by omega) (by omega)), row_same h.r2 (fun b hb hlt _ _ => by have := h.lt; exact ht.block b hlt (by omega) (by omega))⟩

/-- What an append to a row from n0 on leaves. -/
theorem ASt.grow {tmp : Obj} {v v' : Value} {e : TypeId} {n n' : Nat} {xs ys : List Value} (h : ASt W w n0 rb gi gp ci cp S g m l i j k v1 v2) (hv : w.ownsRow n0 e 1 v n xs) (hg : (w.alloc tmp).grownBy w' v.ownBlock) :
    (∀ b, b < w.heap.size → (b < n0 ∨ ∀ cur, w.heap[b]? ≠ some (.cells cur e (0, 0))) → w'.heap[b]? = w.heap[b]?) := fun b hb hor => by
  have hsz : w.heap.size ≤ (w.alloc tmp).heap.size := by simp
  rw [hg.block b (by omega) (fun e1 => ?_), Below.heap_alloc _ _ _ hb]
  rcases hv.2 with ⟨rfl, _⟩ | ⟨g2, cap2, cur2, rfl, hb2, hg2, _⟩
  · simp [Value.ownBlock] at e1
  · simp only [Value.ownBlock] at e1
    cases e1
    rcases hor with h1 | h1
    · omega
    · exact h1 _ hg2

theorem ASt.grown {tmp : Obj} {v v' : Value} {e : TypeId} {n : Nat} {xs : List Value} (h : ASt W w n0 rb gi gp ci cp S g m l i j k v1 v2) (hv : w.ownsRow n0 e 1 v n xs) (hg : (w.alloc tmp).grownBy w' v.ownBlock) :
    n0 ≤ w'.heap.size ∧ Below W.heap.size W w' ∧ (∃ f, RQ w' rb gi gp ci cp S f g ∧ RM S f g (mAt m l i)) := by
  have hk := h.grow (v' := v') (n' := 0) (ys := []) hv hg
  have hsz : w.heap.size ≤ (w.alloc tmp).heap.size := by simp
  have h1 := h.hw
  have h2 := h.hn
  have h3 := h.lt
  obtain ⟨f, q1, q2⟩ := h.q
  refine ⟨by have := hg.size; omega, ⟨hg.os.trans h.bel.os, hg.tape.trans h.bel.tape, hg.output.trans h.bel.output, by have := hg.size; omega, fun b hb => ?_⟩, f, q1.same (hk _ (by omega) (.inl (by omega))) (hk _ (by omega) (.inl (by omega))) (hk _ (by omega) (.inl (by omega))), q2⟩
  rw [hk b (by omega) (.inl (by omega)), h.bel.block b hb]

theorem ASt.one {tmp : Obj} {v' : Value} {x : Nat × Int} (h : ASt W w n0 rb gi gp ci cp S g m l i j k v1 v2) (hx : l[j]? = some x) (hg : (w.alloc tmp).grownBy w' v1.ownBlock)
    (hr : w'.ownsRow n0 3 1 v' (j + 1) (((l.take j).map fun x => .int .i64 (x.1 : Nat)) ++ [.int .i64 (x.1 : Nat)])) : ASt W w' n0 rb gi gp ci cp S g m l i (j + 1) k v' v2 := by
  obtain ⟨a1, a2, a3⟩ := h.grown (v' := v') h.r1 hg
  have hk := h.grow (v' := v') (n' := 0) (ys := []) h.r1 hg
  obtain ⟨h1, h2⟩ := List.getElem?_eq_some_iff.1 hx
  refine ⟨h.hn, a1, h.new, h.lt, a2, a3, ?_, row_same h.r2 (fun b hb hlt cur hc => hk b hlt (.inr (fun cur2 hc2 => by rw [hc] at hc2; simp at hc2)))⟩
  rw [List.take_succ_eq_append_getElem h1, List.map_append, h2]
  exact hr

theorem ASt.two {tmp : Obj} {v' : Value} {x : Nat × Int} (h : ASt W w n0 rb gi gp ci cp S g m l i j k v1 v2) (hx : l[k]? = some x) (hg : (w.alloc tmp).grownBy w' v2.ownBlock)
    (hr : w'.ownsRow n0 2 1 v' (k + 1) (((l.take k).map fun x => .int .i64 x.2) ++ [.int .i64 x.2])) : ASt W w' n0 rb gi gp ci cp S g m l i j (k + 1) v1 v' := by
  obtain ⟨a1, a2, a3⟩ := h.grown (v' := v') h.r2 hg
  have hk := h.grow (v' := v') (n' := 0) (ys := []) h.r2 hg
  obtain ⟨h1, h2⟩ := List.getElem?_eq_some_iff.1 hx
  refine ⟨h.hn, a1, h.new, h.lt, a2, a3, row_same h.r1 (fun b hb hlt cur hc => hk b hlt (.inr (fun cur2 hc2 => by rw [hc] at hc2; simp at hc2))), ?_⟩
  rw [List.take_succ_eq_append_getElem h1, List.map_append, h2]
  exact hr

theorem rpopAt {f : Nat → Bool} (h : RQ W rb gi gp ci cp S f g) (hm : RM S f g (mAt m l i)) (hD : Drn ltI m l) {x : Nat × Int} (hx : l[i]? = some x) :
    Calls Try.prog 58 #[.pointer (some ⟨rb, 0, none⟩)] W fun e w' => ∃ f', e = .returned (.tuple #[.int .i64 (x.1 : Nat), .int .i64 x.2, .bool true]) ∧ RQ w' rb gi gp ci cp S f' g ∧ RM S f' g (mAt m l (i + 1)) ∧ RTch gi gp W w' := by
  refine (rpop h hm).mono ?_
  rintro e w' ⟨o, f', ho, rfl, h1, h2, h3⟩
  obtain ⟨d1, d2⟩ := hD.fst hx
  cases o with
  | none =>
    have : ∀ k, mAt m l i k = none := ho
    rw [this] at d1
    cases d1
  | some y =>
    obtain ⟨y1, y2⟩ := ho
    obtain rfl : y = x := (befQ_ord ordI).tot _ _ (d2 y.1 y.2 y1) (y2 x.1 x.2 d1)
    refine ⟨f', rfl, h1, ?_, h3⟩
    rw [mAt_succ m hx]
    exact h2
end
end Go.Proofs.Ytpnhklehpilopaa

namespace Go.Proofs.Ytpnhklehpilopaa
open Go Go.RowKit

def lenSl : Value → Nat
  | .slice _ n _ => n
  | _ => 0

theorem infoIR8 : (Try.prog.info? 3).map (fun i => (i.zero, i.size, i.bytes)) = some (some (.int .i64 0), 1, 8) := by kernel_rfl

section
variable {W w w' : World} {rb gi gp ci cp S : Nat} {f : Nat → Bool} {g : Nat → Int} {m : Nat → Option Int} {l : List (Nat × Int)}

set_option maxHeartbeats 1600000 in
set_option maxRecDepth 100000 in
theorem rall (h : RQ W rb gi gp ci cp S f g) (hm : RM S f g m) (hD : Drn ltI m l) :
    Calls Try.prog 62 #[.pointer (some ⟨rb, 0, none⟩)] W fun e w' => ∃ v1 v2, e = .returned (.tuple #[v1, v2]) ∧ Below W.heap.size W w' ∧ w'.ownsRow W.heap.size 3 1 v1 l.length (l.map fun x => .int .i64 (x.1 : Nat)) ∧ w'.ownsRow W.heap.size 2 1 v2 l.length (l.map fun x => .int .i64 x.2) := by
  have hc := rcopy h
  obtain ⟨i0, hi0, hz0, hz1, hz2⟩ := info_parts infoIR8
  obtain ⟨j0, hj0, hy0, hy1, hy2⟩ := info_parts infoLR
  have HM := Lib.hid hm
  have HDR := Lib.hid hD
  have hlen := hD.len hm.low
  have hcle : cntQ S m ≤ S := by unfold cntQ; have := List.countP_le_length (p := fun k => (m k).isSome) (l := List.range S); simpa using this
  have hl : l.length ≤ 1024 := by have := h.s2; omega
  clear h hm hD hlen hcle
  go_enter Try.func62, Try.ntmps62
  go_wp2_with fail
  refine hc.mono ?_
  rintro e w2 ⟨rb', gi', gp', ci', cp', rfl, h1, h2, h3, h4, h5⟩
  have HA : Hid (ASt W w2 w2.heap.size rb' gi' gp' ci' cp' S g m l 0 0 0 (.slice none 0 0) (.slice none 0 0)) := Lib.hid ⟨h2.size, Nat.le_refl _, ⟨h4, h5⟩, h1.lt, h2, ⟨f, h1, HM.out⟩, World.ownsRow_nil _ _ _ _, World.ownsRow_nil _ _ _ _⟩
  obtain ⟨n0, hn0⟩ : ∃ n0, n0 = w2.heap.size := ⟨_, rfl⟩
  rw [← hn0] at HA
  clear h1 h2 h3 h4 h5 hc hn0
  go_wp2_with fail
  go_loopw [4, 5] (fun a b wr => ∃ i : Nat, i ≤ l.length ∧ Hid (ASt W wr n0 rb' gi' gp' ci' cp' S g m l i i i a b)) (fun a _ _ => l.length - lenSl a)
  case atStart => exact ⟨0, Nat.zero_le _, HA⟩
  case round =>
    obtain ⟨i, hi, HS⟩ := hrel
    have hml : lenSl u4 = i := by
      rcases HS.out.r1.2 with ⟨k1, k2⟩ | ⟨_, _, _, k1, _⟩
      · rw [k1, k2]; rfl
      · rw [k1]; rfl
    obtain ⟨f', q1, q2⟩ := HS.out.q
    have hln := rlen q1 q2
    have hcn := (HDR.out.drop i hi).len q2.low
    rw [List.length_drop] at hcn
    rw [← hcn] at hln
    by_cases hlt : i < l.length
    · obtain ⟨x, hx⟩ : ∃ x, l[i]? = some x := ⟨_, List.getElem?_eq_getElem hlt⟩
      have hpp := rpopAt q1 q2 HDR.out hx
      have hpos : (0 : Int) < ((l.length - i : Nat) : Int) := by omega
      have HX := Lib.hid hx
      clear q1 q2 hcn
      go_wp2_with (go_at_call 160; refine hln.mono ?_; rintro e w' ⟨rfl, hw⟩; rw [hw])
      refine hpp.mono ?_
      rintro e w3 ⟨f3, rfl, z1, z2, z3⟩
      have HS2 := Lib.hid (HS.out.pop z1 z2 z3)
      clear z1 z2 z3
      obtain ⟨xi, xv⟩ := x
      have hr1 := HS2.out.r1
      have HML := Lib.hid hml
      clear hml
      go_wp2_with (first
        | (at_builtin; refine wpList_append_own _ rfl _ _ 109 rfl n0 2 j0 (.int .i64 0) 1 8 Try.underlying109 hj0 hy0 hy1 hy2 rfl (by decide) _ _ _ rfl (hr2.alloc _) ⟨w4.heap.size, 0, none⟩ 1 1 [.int .i64 xv] rfl rfl (cell_one_new _ _ _) (by simp [Value.oneCell']) (by unfold maxLen; omega) (by omega) (by have := HS3.out.hw; simp; omega) ?_
           intro v2' w5 hown2 hgrow2 _)
        | (at_builtin; refine wpList_append_own _ rfl _ _ 53 rfl n0 3 i0 (.int .i64 0) 1 8 Try.underlying53 hi0 hz0 hz1 hz2 rfl (by decide) _ _ _ rfl (hr1.alloc _) ⟨w3.heap.size, 0, none⟩ 1 1 [.int .i64 (xi : Nat)] rfl rfl (cell_one_new _ _ _) (by simp [Value.oneCell']) (by unfold maxLen; omega) (by omega) (by have := HS2.out.hw; simp; omega) ?_
           intro v1' w4 hown1 hgrow1 _
           have HS3 := Lib.hid (HS2.out.one HX.out hgrow1 hown1)
           clear hown1 hgrow1 hr1
           have hr2 := HS3.out.r2))
      have HS4 := Lib.hid (HS3.out.two HX.out hgrow2 hown2)
      have hm4 : lenSl v1' = i + 1 := by
        rcases HS4.out.r1.2 with ⟨k1, k2⟩ | ⟨_, _, _, k1, _⟩
        · rw [k1, k2]; rfl
        · rw [k1]; rfl
      clear hown2 hgrow2 hr2
      go_wp2_with fail
      go_roundw
      case rel => exact ⟨i + 1, by omega, HS4⟩
      case measure => rw [hm4, HML.out]; omega
    · have hii : i = l.length := by omega
      have hzero : l.length - i = 0 := by omega
      rw [hzero] at hln
      clear q1 q2 hcn hml
      go_wp2_with (go_at_call 160; refine hln.mono ?_; rintro e w' ⟨rfl, hw⟩; rw [hw])
      have HR : Hid (Below W.heap.size W wr ∧ wr.ownsRow W.heap.size 3 1 u4 l.length (l.map fun x => .int .i64 (x.1 : Nat)) ∧ wr.ownsRow W.heap.size 2 1 u5 l.length (l.map fun x => .int .i64 x.2)) := by
        have h1 := HS.out.r1
        have h2 := HS.out.r2
        rw [hii, List.take_length] at h1 h2
        have low : ∀ {e : TypeId} {v : Value} {n : Nat} {xs : List Value}, wr.ownsRow n0 e 1 v n xs → wr.ownsRow W.heap.size e 1 v n xs := fun h => ⟨h.1, by
          rcases h.2 with k | ⟨g, cap, cur, k1, k2, k3⟩
          · exact .inl k
          · exact .inr ⟨g, cap, cur, k1, Nat.le_trans HS.out.hn k2, k3⟩⟩
        exact Lib.hid ⟨HS.out.bel, low h1, low h2⟩
      go_ret2
      exact ⟨_, _, rfl, HR.out⟩
end
end Go.Proofs.Ytpnhklehpilopaa

namespace Go.Proofs.Ytpnhklehpilopaa
open Go Go.RowKit

set_option maxHeartbeats 800000 in
set_option maxRecDepth 100000 in
theorem rallN (W : World) :
    Calls Try.prog 62 #[.pointer none] W fun e w' => e = .returned (.tuple #[.slice none 0 0, .slice none 0 0]) ∧ w' = W := by
  have hc := rcopyN W
  have hln := rlenN W
  go_enter Try.func62, Try.ntmps62
  go_wp2_with fail
  refine hc.mono ?_
  rintro e w2 ⟨rfl, rfl⟩
  go_wp2_with fail
  go_loop [4, 5] (fun a b => a = .slice none 0 0 ∧ b = .slice none 0 0) (fun _ _ => 0)
  case atStart => exact ⟨rfl, rfl⟩
  case round =>
    obtain ⟨rfl, rfl⟩ := hrel
    go_wp2_with (go_at_call 160; refine hln.mono ?_; rintro e w' ⟨rfl, hw⟩; rw [hw])
    go_ret2
    exact ⟨rfl, rfl⟩
end Go.Proofs.Ytpnhklehpilopaa
