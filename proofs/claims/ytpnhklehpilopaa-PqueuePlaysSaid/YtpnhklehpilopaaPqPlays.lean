/- PqueuePlays, for every input. -/
import Derived.Test.YtpnhklehpilopaaPqRef13
namespace Go.Proofs.Ytpnhklehpilopaa
open Go Go.RowKit

set_option maxHeartbeats 3200000 in
set_option maxRecDepth 100000 in
/-- PqueuePlays, for every input. -/
theorem plays_any (size id : Int) (a : Option Addr) (len cap : Nat) (xs : List (Int × Int × Int)) (hlen : xs.length = len) (hc63 : len ≤ 9223372036854775807) (w : World) (hX : StepsAt w a xs) :
    Calls Try.prog 8 #[.int .i64 size, .slice a len cap, .int .i64 id] w fun e w' => e = .returned (.bool true) ∧ Below w.heap.size w w' := by
  obtain ⟨W0, hW0⟩ : ∃ W0, W0 = w.alloc (.cells #[.bool false] 4) := ⟨_, rfl⟩
  have hs0 : W0.heap.size = w.heap.size + 1 := by rw [hW0]; simp
  have hb0 : Below w.heap.size w W0 := by rw [hW0]; exact (Below.refl _ _).alloc (Nat.le_refl _) _
  have bR : Boxed W0 w.heap.size 4 (.bool false) := by rw [hW0]; exact boxed_at4 rfl _ _
  by_cases h150 : 150 < len
  · suffices h : CallsIn Fence.wide 10 Try.prog 8 #[.int .i64 size, .slice a len cap, .int .i64 id] w fun e w' => e = .returned (.bool true) ∧ Below w.heap.size w w' from callsIn_wide.1 h
    have h1 : 1 ≤ 10 := by omega
    have hd : decide ((150 : Int) < (len : Int)) = true := decide_eq_true (by omega)
    have hd2 : (150 : Int) < (len : Int) := by omega
    refine callsIn_of_wp_marks Try.func8 rfl trivial ?_ rfl
    simp only [Try.ntmps8, List.size_toArray, List.length_nil, List.length_cons, Nat.reduceAdd, Nat.reduceSub, Array.replicate_succ, Array.replicate_zero, List.push_toArray, List.append_toArray, List.nil_append, List.cons_append]
    gi_wp2_with fail
    all_goals
      rw [← hW0]
      refine ⟨trivial, (callsIn_wide.2 (works4_any W0)).mono ?_⟩
      rintro e V3 ⟨rfl, hb3⟩
      have hr3 : Boxed V3 w.heap.size 4 (.bool false) := (hb3.block _ (by omega)).trans bR
      have hbw : Below w.heap.size w V3 := hb0.trans (hb3.mono (by omega))
      have cr := hr3.cell
      have fr := hr3.frozen
      have HE := Lib.hid (And.intro hr3 hbw)
      clear hr3 hbw hb3 bR hb0 hs0 hW0
      gi_wp2_with fail
      have hc5 := (HE.out.1.set (.bool true)).cell
      refine ⟨.bool true, ?_, rfl, HE.out.2.setCell (p := ⟨w.heap.size, 0, none⟩) (Nat.le_refl _) (.bool true)⟩
      simp [results, Try.f8, go_sem, hc5]
  by_cases hsz : 40 < size ∧ size ≤ 1024
  · suffices h : CallsIn Fence.wide 10 Try.prog 8 #[.int .i64 size, .slice a len cap, .int .i64 id] w fun e w' => e = .returned (.bool true) ∧ Below w.heap.size w w' from callsIn_wide.1 h
    have h1 : 1 ≤ 10 := by omega
    have hd : decide ((150 : Int) < (len : Int)) = false := decide_eq_false (by omega)
    have hd2 : ¬ (150 : Int) < (len : Int) := by omega
    obtain ⟨hz1, hz2⟩ := hsz
    have hz3 : decide (40 < size) = true := decide_eq_true hz1
    have hz4 : decide (size ≤ 1024) = true := decide_eq_true hz2
    refine callsIn_of_wp_marks Try.func8 rfl trivial ?_ rfl
    simp only [Try.ntmps8, List.size_toArray, List.length_nil, List.length_cons, Nat.reduceAdd, Nat.reduceSub, Array.replicate_succ, Array.replicate_zero, List.push_toArray, List.append_toArray, List.nil_append, List.cons_append]
    gi_wp2_with fail
    all_goals
      rw [← hW0]
      refine ⟨trivial, (callsIn_wide.2 (works4_any W0)).mono ?_⟩
      rintro e V3 ⟨rfl, hb3⟩
      have hr3 : Boxed V3 w.heap.size 4 (.bool false) := (hb3.block _ (by omega)).trans bR
      have hbw : Below w.heap.size w V3 := hb0.trans (hb3.mono (by omega))
      have cr := hr3.cell
      have fr := hr3.frozen
      have HE := Lib.hid (And.intro hr3 hbw)
      clear hr3 hbw hb3 bR hb0 hs0 hW0
      gi_wp2_with fail
      have hc5 := (HE.out.1.set (.bool true)).cell
      refine ⟨.bool true, ?_, rfl, HE.out.2.setCell (p := ⟨w.heap.size, 0, none⟩) (Nat.le_refl _) (.bool true)⟩
      simp [results, Try.f8, go_sem, hc5]
  · clear hs0 hb0 bR hW0
    exact callsIn_wide.1 (plays_in 10 (by decide) size id a len cap xs hlen hc63 w hX h150 hsz)
end Go.Proofs.Ytpnhklehpilopaa
