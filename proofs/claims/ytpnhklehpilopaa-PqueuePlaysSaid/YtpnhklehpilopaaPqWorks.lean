/- The chapter's example of queues. -/
import Derived.Test.YtpnhklehpilopaaPqHI
namespace Go.Proofs.Ytpnhklehpilopaa
open Go Go.RowKit

def ex4s (i : Nat) : Nat × Option Int :=
  match i with
  | 0 => (3, some 10)
  | 1 => (1, some 10)
  | 2 => (5, some 4)
  | 3 => (3, some 2)
  | 4 => (5, none)
  | 5 => (3, none)
  | _ => (1, none)
def ex4 : Nat → Nat → Option Int
  | 0 => fun _ => none
  | i + 1 => mSet (ex4 i) (ex4s i).1 (ex4s i).2

theorem ex4_first3 : FstI (ex4 3) (5, 4) := ⟨rfl, fun k v h => by
  simp only [ex4, ex4s, mSet] at h
  repeat' split at h
  all_goals first | (cases h; subst_vars; decide) | cases h⟩
theorem ex4_first5 : FstI (ex4 5) (3, 2) := ⟨rfl, fun k v h => by
  simp only [ex4, ex4s, mSet] at h
  repeat' split at h
  all_goals first | (cases h; subst_vars; decide) | cases h⟩
theorem ex4_first6 : FstI (ex4 6) (1, 10) := ⟨rfl, fun k v h => by
  simp only [ex4, ex4s, mSet] at h
  repeat' split at h
  all_goals first | (cases h; subst_vars; decide) | cases h⟩
theorem ex4_none7 : ∀ k, ex4 7 k = none := fun k => by
  simp only [ex4, ex4s, mSet]
  repeat' split
  all_goals rfl
theorem ex4_cnt7 : cntQ 8 (ex4 7) = 0 := by decide

/-- What stands while the example goes on. -/
def Ex4 (w W : World) (b i : Nat) : Prop := QHI W (b + 1) b 8 (ex4 i) ∧ Below b w W

theorem Ex4.step {w W W' : World} {b i : Nat} (h : Ex4 w W b i) {m : Nat → Option Int} (hq : QHI W' (b + 1) b 8 m) (hc : Chg (b + 1) b W W') {j : Nat} (hm : m = ex4 j) : Ex4 w W' b j := by
  subst hm
  refine ⟨hq, h.2.trans ?_⟩
  have := hc.below
  rwa [Nat.min_eq_left (by omega)] at this

set_option maxHeartbeats 3200000 in
set_option maxRecDepth 100000 in
theorem works4_any (w : World) : Calls Try.prog 48 #[] w fun e w' => e = .returned (.bool true) ∧ Below w.heap.size w w' := by
  have h1 := newI 8 (by omega) (by omega) w
  have hP : ∀ W, Hid (Ex4 w W w.heap.size 0) → Calls Try.prog 142 #[.pointer (some ⟨w.heap.size, 0, none⟩), .int .i64 3, .int .i64 10] W fun e w' => e = .returned (.int .i64 0) ∧ Hid (Ex4 w w' w.heap.size 1) := fun W h =>
    (pushHI h.out.1 (k := 3) (by omega) rfl 10).mono fun e w' ⟨h1, h2, h3⟩ => ⟨h1, Lib.hid (h.out.step h2 h3 rfl)⟩
  have hP2 : ∀ W, Hid (Ex4 w W w.heap.size 1) → Calls Try.prog 142 #[.pointer (some ⟨w.heap.size, 0, none⟩), .int .i64 1, .int .i64 10] W fun e w' => e = .returned (.int .i64 0) ∧ Hid (Ex4 w w' w.heap.size 2) := fun W h =>
    (pushHI h.out.1 (k := 1) (by omega) rfl 10).mono fun e w' ⟨h1, h2, h3⟩ => ⟨h1, Lib.hid (h.out.step h2 h3 rfl)⟩
  have hP3 : ∀ W, Hid (Ex4 w W w.heap.size 2) → Calls Try.prog 142 #[.pointer (some ⟨w.heap.size, 0, none⟩), .int .i64 5, .int .i64 4] W fun e w' => e = .returned (.int .i64 0) ∧ Hid (Ex4 w w' w.heap.size 3) := fun W h =>
    (pushHI h.out.1 (k := 5) (by omega) rfl 4).mono fun e w' ⟨h1, h2, h3⟩ => ⟨h1, Lib.hid (h.out.step h2 h3 rfl)⟩
  have hP4 : ∀ W, Hid (Ex4 w W w.heap.size 3) → Calls Try.prog 142 #[.pointer (some ⟨w.heap.size, 0, none⟩), .int .i64 5, .int .i64 1] W fun e w' => e = .returned (.int .i64 6) ∧ Hid (Ex4 w w' w.heap.size 3) := fun W h =>
    (pushHaveHI h.out.1 (k := 5) (u := 4) rfl 1).mono fun e w' ⟨h1, h2⟩ => ⟨h1, by rw [h2]; exact h⟩
  have hP5 : ∀ W, Hid (Ex4 w W w.heap.size 3) → Calls Try.prog 142 #[.pointer (some ⟨w.heap.size, 0, none⟩), .int .i64 8, .int .i64 1] W fun e w' => e = .returned (.int .i64 3) ∧ Hid (Ex4 w w' w.heap.size 3) := fun W h =>
    (pushBadHI h.out.1 (k := 8) (by omega) 1).mono fun e w' ⟨h1, h2⟩ => ⟨h1, by rw [h2]; exact h⟩
  have hK : ∀ W, Hid (Ex4 w W w.heap.size 3) → Calls Try.prog 143 #[.pointer (some ⟨w.heap.size, 0, none⟩)] W fun e w' => e = .returned (.tuple #[.int .i64 5, .int .i64 4, .bool true]) ∧ Hid (Ex4 w w' w.heap.size 3) := fun W h =>
    (peekHI h.out.1 ex4_first3).mono fun e w' ⟨h1, h2⟩ => ⟨h1, Lib.hid ⟨h.out.1.below h2, h.out.2.trans (h2.mono (by have := h.out.1.2.1; omega))⟩⟩
  have hC : ∀ W, Hid (Ex4 w W w.heap.size 3) → Calls Try.prog 144 #[.pointer (some ⟨w.heap.size, 0, none⟩), .int .i64 3, .int .i64 2] W fun e w' => e = .returned (.int .i64 0) ∧ Hid (Ex4 w w' w.heap.size 4) := fun W h =>
    (changeHI h.out.1 (k := 3) (u := 10) rfl 2).mono fun e w' ⟨h1, h2, h3⟩ => ⟨h1, Lib.hid (h.out.step h2 h3 rfl)⟩
  have hC2 : ∀ W, Hid (Ex4 w W w.heap.size 4) → Calls Try.prog 144 #[.pointer (some ⟨w.heap.size, 0, none⟩), .int .i64 0, .int .i64 2] W fun e w' => e = .returned (.int .i64 5) ∧ Hid (Ex4 w w' w.heap.size 4) := fun W h =>
    (changeNoHI h.out.1 (k := 0) (by omega) rfl 2).mono fun e w' ⟨h1, h2⟩ => ⟨h1, by rw [h2]; exact h⟩
  have hR : ∀ W, Hid (Ex4 w W w.heap.size 4) → Calls Try.prog 145 #[.pointer (some ⟨w.heap.size, 0, none⟩), .int .i64 5] W fun e w' => e = .returned (.tuple #[.int .i64 4, .bool true]) ∧ Hid (Ex4 w w' w.heap.size 5) := fun W h =>
    (removeHI h.out.1 (k := 5) (v := 4) rfl).mono fun e w' ⟨h1, h2, h3⟩ => ⟨h1, Lib.hid (h.out.step h2 h3 rfl)⟩
  have hO1 : ∀ W, Hid (Ex4 w W w.heap.size 5) → Calls Try.prog 146 #[.pointer (some ⟨w.heap.size, 0, none⟩)] W fun e w' => e = .returned (.tuple #[.int .i64 3, .int .i64 2, .bool true]) ∧ Hid (Ex4 w w' w.heap.size 6) := fun W h =>
    (popHI h.out.1 ex4_first5).mono fun e w' ⟨h1, h2, h3⟩ => ⟨h1, Lib.hid (h.out.step h2 h3 rfl)⟩
  have hO2 : ∀ W, Hid (Ex4 w W w.heap.size 6) → Calls Try.prog 146 #[.pointer (some ⟨w.heap.size, 0, none⟩)] W fun e w' => e = .returned (.tuple #[.int .i64 1, .int .i64 10, .bool true]) ∧ Hid (Ex4 w w' w.heap.size 7) := fun W h =>
    (popHI h.out.1 ex4_first6).mono fun e w' ⟨h1, h2, h3⟩ => ⟨h1, Lib.hid (h.out.step h2 h3 rfl)⟩
  have hO3 : ∀ W, Hid (Ex4 w W w.heap.size 7) → Calls Try.prog 146 #[.pointer (some ⟨w.heap.size, 0, none⟩)] W fun e w' => e = .returned (.tuple #[.int .i64 0, .int .i64 0, .bool false]) ∧ Hid (Ex4 w w' w.heap.size 7) := fun W h =>
    (popNoHI h.out.1 ex4_none7).mono fun e w' ⟨h1, h2⟩ => ⟨h1, Lib.hid ⟨h.out.1.below h2, h.out.2.trans (h2.mono (by have := h.out.1.2.1; omega))⟩⟩
  have hL : ∀ W, Hid (Ex4 w W w.heap.size 7) → Calls Try.prog 147 #[.pointer (some ⟨w.heap.size, 0, none⟩)] W fun e w' => e = .returned (.int .i64 0) ∧ Hid (Ex4 w w' w.heap.size 7) := fun W h => by
    have := lenHI h.out.1
    rw [ex4_cnt7] at this
    exact this.mono fun e w' ⟨h1, h2⟩ => ⟨h1, by rw [h2]; exact h⟩
  have H := Lib.hid (And.intro hP (And.intro hP2 (And.intro hP3 (And.intro hP4 (And.intro hP5 (And.intro hK (And.intro hC (And.intro hC2 (And.intro hR (And.intro hO1 (And.intro hO2 (And.intro hO3 hL))))))))))))
  clear hP hP2 hP3 hP4 hP5 hK hC hC2 hR hO1 hO2 hO3 hL
  go_enter Try.func48, Try.ntmps48
  go_wp2_with fail
  refine h1.mono ?_
  rintro e w1 ⟨rfl, hq, hb, hs⟩
  have HX : Hid (Ex4 w w1 w.heap.size 0) := Lib.hid ⟨⟨by omega, by omega, none, hq, fun a h => by cases h⟩, hb⟩
  clear hq hb hs h1
  go_wp2_with fail
  refine (H.out.1 w1 HX).mono ?_
  rintro e w2 ⟨rfl, HX⟩
  go_wp2_with fail
  refine (H.out.2.1 w2 HX).mono ?_
  rintro e w3 ⟨rfl, HX⟩
  go_wp2_with fail
  refine (H.out.2.2.1 w3 HX).mono ?_
  rintro e w4 ⟨rfl, HX⟩
  go_wp2_with fail
  refine (H.out.2.2.2.1 w4 HX).mono ?_
  rintro e w5 ⟨rfl, HX⟩
  go_wp2_with fail
  refine (H.out.2.2.2.2.1 w5 HX).mono ?_
  rintro e w6 ⟨rfl, HX⟩
  go_wp2_with fail
  refine (H.out.2.2.2.2.2.1 w6 HX).mono ?_
  rintro e w7 ⟨rfl, HX⟩
  go_wp2_with fail
  refine (H.out.2.2.2.2.2.2.1 w7 HX).mono ?_
  rintro e w8 ⟨rfl, HX⟩
  go_wp2_with fail
  refine (H.out.2.2.2.2.2.2.2.1 w8 HX).mono ?_
  rintro e w9 ⟨rfl, HX⟩
  go_wp2_with fail
  refine (H.out.2.2.2.2.2.2.2.2.1 w9 HX).mono ?_
  rintro e x1 ⟨rfl, HX⟩
  go_wp2_with fail
  refine (H.out.2.2.2.2.2.2.2.2.2.1 x1 HX).mono ?_
  rintro e x2 ⟨rfl, HX⟩
  go_wp2_with fail
  refine (H.out.2.2.2.2.2.2.2.2.2.2.1 x2 HX).mono ?_
  rintro e x3 ⟨rfl, HX⟩
  go_wp2_with fail
  refine (H.out.2.2.2.2.2.2.2.2.2.2.2.1 x3 HX).mono ?_
  rintro e x4 ⟨rfl, HX⟩
  go_wp2_with fail
  refine (H.out.2.2.2.2.2.2.2.2.2.2.2.2 x4 HX).mono ?_
  rintro e x5 ⟨rfl, HX⟩
  go_wp2_with fail
  go_ret
  exact ⟨rfl, HX.out.2⟩
end Go.Proofs.Ytpnhklehpilopaa
