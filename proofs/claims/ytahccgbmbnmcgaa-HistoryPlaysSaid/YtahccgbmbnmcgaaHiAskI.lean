/- Further calls on a history: what they answer, and what they leave. -/
import Derived.Test.YtahccgbmbnmcgaaHiBaseI
namespace Go.Proofs.Ytahccgbmbnmcgaa
open Go Go.RowKit

section
variable {W : World} {b : Nat} {p : Option Addr} {c lim m : Nat} {l : List Int}

theorem HLI.clr (h : HLI W b p c lim m l) :
    HLI ((W.setCell ⟨b, 2, none⟩ (.slice none 0 0)).setCell ⟨b, 3, none⟩ (.int .i64 0)) b none 0 lim 0 [] ∧ Touch b p W ((W.setCell ⟨b, 2, none⟩ (.slice none 0 0)).setCell ⟨b, 3, none⟩ (.int .i64 0)) := by
  refine ⟨⟨?_, ⟨World.ownsRow_nil _ _ _ _, (fun e he => by simp at he)⟩, (fun a ha => by cases ha), Nat.le_refl _, Nat.zero_le _, h.lm⟩, (Touch.set (Touch.set (Touch.of_below (Below.refl _ _)) _ _) _ _)⟩
  have h1 : (W.setCell ⟨b, 2, none⟩ (.slice none 0 0)).heap[b]? = some (.cells #[.pointer (some ⟨b, 0, none⟩), .int .i64 (lim : Nat), .slice none 0 0, .int .i64 (m : Nat)] 89 (0, 0)) := by
    rw [setCell_eq_setRow W b 2 _ _ (0, 0) _ h.head]
    exact setRow_heap W b _ _ _ _ h.head
  rw [setCell_eq_setRow _ b 3 _ _ (0, 0) _ h1]
  exact setRow_heap _ b _ _ _ _ h1

theorem HLI.mark (h : HLI W b p c lim m l) : HLI (W.setCell ⟨b, 3, none⟩ (.int .i64 l.length)) b p c lim l.length l ∧ Touch b p W (W.setCell ⟨b, 3, none⟩ (.int .i64 l.length)) :=
  ⟨h.setM l.length (Nat.le_refl _), Touch.set (Touch.of_below (Below.refl _ _)) _ _⟩

/-- The cell of an element. -/
theorem HLI.at (h : HLI W b p c lim m l) {j : Nat} {x : Int} (hx : l[j]? = some x) : ∃ g, p = some ⟨g, 0, none⟩ ∧ l.length ≤ c ∧ W.cell? ⟨g, j, none⟩ = some (Value.int .i64 x) := by
  obtain ⟨g, cur, e1, h2, h3, h4, h5, h6⟩ := h.items hx
  have hm : (l.map celI)[j]? = some (celI x) := by simp [hx]
  rw [← List.length_map (f := celI)] at h6
  have := row_cell (i := j) (j := 0) h.row.2 h4 h6 hm rfl
  simp only [Nat.mul_one, Nat.add_zero] at this
  exact ⟨g, e1, h2, this⟩

set_option maxHeartbeats 800000 in
set_option maxRecDepth 100000 in
theorem listI (h : HLI W b p c lim m l) :
    Calls Try.prog 57 #[.pointer (some ⟨b, 0, none⟩)] W fun e w' => e = .returned (.slice p l.length c) ∧ w' = W := by
  have hp := h.els
  have hv := validI h
  clear h
  go_enter Try.func57, Try.ntmps57
  go_wp2_with (go_at_call 58; refine hv.mono ?_; rintro e w' ⟨rfl, rfl⟩)
  go_ret
  exact ⟨rfl, rfl⟩

set_option maxHeartbeats 800000 in
set_option maxRecDepth 100000 in
theorem lenI (h : HLI W b p c lim m l) :
    Calls Try.prog 27 #[.pointer (some ⟨b, 0, none⟩)] W fun e w' => e = .returned (.int .i64 l.length) ∧ w' = W := by
  have hl := listI h
  clear h
  generalize l.length = n at *
  go_enter Try.func27, Try.ntmps27
  go_wp2_with (go_at_call 57; refine hl.mono ?_; rintro e w' ⟨rfl, rfl⟩)
  go_ret
  exact ⟨rfl, rfl⟩

set_option maxHeartbeats 800000 in
set_option maxRecDepth 100000 in
theorem markedI (h : HLI W b p c lim m l) :
    Calls Try.prog 28 #[.pointer (some ⟨b, 0, none⟩)] W fun e w' => e = .returned (.int .i64 (m : Nat)) ∧ w' = W := by
  have hp := h.mrk
  have hv := validI h
  clear h
  go_enter Try.func28, Try.ntmps28
  go_wp2_with (go_at_call 58; refine hv.mono ?_; rintro e w' ⟨rfl, rfl⟩)
  go_ret
  exact ⟨rfl, rfl⟩

set_option maxHeartbeats 800000 in
set_option maxRecDepth 100000 in
theorem markI (h : HLI W b p c lim m l) :
    Calls Try.prog 55 #[.pointer (some ⟨b, 0, none⟩)] W fun e w' => (∃ v, e = .returned v) ∧ HLI w' b p c lim l.length l ∧ Touch b p W w' := by
  have hp := h.els
  have hk := h.mrk
  have hf := h.frozen
  have hv := validI h
  have H := Lib.hid h.mark
  clear h
  generalize l.length = n at *
  go_enter Try.func55, Try.ntmps55
  go_wp2_with (go_at_call 58; refine hv.mono ?_; rintro e w' ⟨rfl, rfl⟩)
  go_end0
  exact ⟨⟨_, rfl⟩, H.out⟩

set_option maxHeartbeats 800000 in
set_option maxRecDepth 100000 in
theorem clearI (h : HLI W b p c lim m l) :
    Calls Try.prog 36 #[.pointer (some ⟨b, 0, none⟩)] W fun e w' => (∃ v, e = .returned v) ∧ HLI w' b none 0 lim 0 [] ∧ Touch b p W w' := by
  have hp := h.els
  have hk := h.mrk
  have hf := h.frozen
  have hv := validI h
  have H := Lib.hid h.clr
  clear h
  generalize l.length = n at *
  go_enter Try.func36, Try.ntmps36
  go_wp2_with (go_at_call 58; refine hv.mono ?_; rintro e w' ⟨rfl, rfl⟩)
  go_end0
  exact ⟨⟨_, rfl⟩, H.out⟩

set_option maxHeartbeats 800000 in
set_option maxRecDepth 100000 in
theorem atI (h : HLI W b p c lim m l) (j : Nat) (x : Int) (hx : l[j]? = some x) :
    Calls Try.prog 32 #[.pointer (some ⟨b, 0, none⟩), .int .i64 j] W fun e w' => e = .returned (.tuple #[Value.int .i64 x, .int .i64 0]) ∧ w' = W := by
  have hj : j < l.length := (List.getElem?_eq_some_iff.1 hx).1
  obtain ⟨g, rfl, hc, hg⟩ := h.at hx
  have hp := h.els
  have hv := validI h
  generalize l.length = n at *
  have h0 : ¬ (j : Int) < 0 := by omega
  have h0' : (0 : Int) ≤ (j : Int) := by omega
  have h1 : (j : Int) < (n : Int) := by omega
  clear h hx
  go_enter Try.func32, Try.ntmps32
  go_wp2_with (go_at_call 58; refine hv.mono ?_; rintro e w' ⟨rfl, rfl⟩)
  go_ret2
  exact ⟨rfl, rfl⟩

set_option maxHeartbeats 800000 in
set_option maxRecDepth 100000 in
theorem atBadI (h : HLI W b p c lim m l) (j : Int) (hj : j < 0 ∨ (l.length : Int) ≤ j) :
    Calls Try.prog 32 #[.pointer (some ⟨b, 0, none⟩), .int .i64 j] W fun e w' => e = .returned (.tuple #[.int .i64 0, .int .i64 3]) ∧ w' = W := by
  have hp := h.els
  have hv := validI h
  generalize l.length = n at *
  clear h
  by_cases h0 : j < 0
  · have hd : decide (j < 0) = true := by simpa using h0
    clear hj
    go_enter Try.func32, Try.ntmps32
    go_wp2_with (go_at_call 58; refine hv.mono ?_; rintro e w' ⟨rfl, rfl⟩)
    go_ret2
    exact ⟨rfl, rfl⟩
  · have hd : decide (j < 0) = false := by simpa using h0
    have h1 : (n : Int) ≤ j := by omega
    have hd2 : decide ((n : Int) ≤ j) = true := by simpa using h1
    clear hj
    go_enter Try.func32, Try.ntmps32
    go_wp2_with (go_at_call 58; refine hv.mono ?_; rintro e w' ⟨rfl, rfl⟩)
    go_ret2
    exact ⟨rfl, rfl⟩
end
end Go.Proofs.Ytahccgbmbnmcgaa
