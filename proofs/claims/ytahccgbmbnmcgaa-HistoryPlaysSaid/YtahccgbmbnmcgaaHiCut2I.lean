/- Cut: what it answers, and what it leaves. -/
import Derived.Test.YtahccgbmbnmcgaaHiCutI
import Derived.Deep.RegionWith
namespace Go.Proofs.Ytahccgbmbnmcgaa
open Go Go.RowKit

section
variable {W : World} {b : Nat} {p : Option Addr} {c lim m : Nat} {l : List Int}

set_option maxHeartbeats 3200000 in
set_option maxRecDepth 100000 in
theorem cutI (h : HLI W b p c lim m l) (k : Nat) (h1 : m ≤ k) (h2 : k ≤ l.length) :
    Calls Try.prog 33 #[.pointer (some ⟨b, 0, none⟩), .int .i64 k] W fun e w' => e = .returned (.int .i64 0) ∧ HLI w' b p c lim m (l.take k) ∧ Touch b p W w' := by
  have hv := validI h
  have hp := h.els
  have hk := h.mrk
  have hfz := h.frozen
  have HC : Hid (∀ q, Calls Try.prog 60 #[.slice p l.length c, .int .i64 k, .int .i64 l.length] (W.drewN q) fun e w2 => e = .returned (.slice p k c) ∧
      w2.cell? ⟨b, 2, none⟩ = some (.slice p l.length c) ∧ w2.frozen? ⟨b, 2, none⟩ = false ∧ Hid (∀ q', HLI ((w2.drewN q').setCell ⟨b, 2, none⟩ (.slice p k c)) b p c lim m (l.take k) ∧ Touch b p W ((w2.drewN q').setCell ⟨b, 2, none⟩ (.slice p k c)))) := Lib.hid fun q => by
    have hq : Below W.heap.size W (W.drewN q) := Below.drewN' q (Below.refl _ _)
    refine (delToI (h.below hq).row h2).mono ?_
    rintro e w2 ⟨rfl, hr, hg⟩
    have hX : ∀ q', HLI ((w2.drewN q').setCell ⟨b, 2, none⟩ (.slice p k c)) b p c lim m (l.take k) ∧ Touch b p W ((w2.drewN q').setCell ⟨b, 2, none⟩ (.slice p k c)) ∧ w2.cell? ⟨b, 2, none⟩ = some (.slice p l.length c) ∧ w2.frozen? ⟨b, 2, none⟩ = false := fun q' => by
      have hg' : W.grownBy (w2.drewN q') (Value.slice p l.length c).ownBlock := ⟨hg.os, hg.tape, hg.output, hg.size, hg.block⟩
      have hlk : (l.take k).length = k := by simp; omega
      have hr' : RowIs (w2.drewN q') 0 3 1 (.slice p k c) ((l.take k).map celI) := hr
      obtain ⟨p', c', e1, e2, e3, e4, e5, -⟩ := h.newRow hg' hr' (.inl (by cases p <;> rfl)) (by omega) (by have := h.ll; omega)
      rw [hlk] at e1
      injection e1 with e1 e6 e7
      subst e1; subst e7
      exact ⟨e4, e5, e2, e3⟩
    exact ⟨rfl, (hX 0).2.2.1, (hX 0).2.2.2, Lib.hid fun q' => ⟨(hX q').1, (hX q').2.1⟩⟩
  have hd1 : decide ((k : Int) < (m : Int)) = false := by simp; omega
  have hd2 : decide ((l.length : Int) < (k : Int)) = false := by simp; omega
  clear h
  generalize l.length = n at *
  go_enter Try.func33, Try.ntmps33
  go_wp2_with fail
  refine hv.mono ?_
  rintro e W1 ⟨rfl, rfl⟩
  go_wp2_with fail
  go_region_with (first | (go_at_call 60; refine (HC.out _).mono ?_; rintro e w2 ⟨rfl, hc2, hf2, HF⟩))
  all_goals go_wp2_with fail
  all_goals go_ret
  all_goals exact ⟨rfl, HF.out 0⟩

set_option maxHeartbeats 800000 in
set_option maxRecDepth 100000 in
theorem cutBadI (h : HLI W b p c lim m l) (k : Int) (hk0 : k < (m : Int) ∨ (l.length : Int) < k) :
    Calls Try.prog 33 #[.pointer (some ⟨b, 0, none⟩), .int .i64 k] W fun e w' => e = .returned (.int .i64 3) ∧ w' = W := by
  have hv := validI h
  have hp := h.els
  have hk := h.mrk
  clear h
  generalize l.length = n at *
  by_cases h0 : k < (m : Int)
  · have hd : decide (k < (m : Int)) = true := by simpa using h0
    clear hk0
    go_enter Try.func33, Try.ntmps33
    go_wp2_with (go_at_call 58; refine hv.mono ?_; rintro e w' ⟨rfl, rfl⟩)
    go_ret
    exact ⟨rfl, rfl⟩
  · have hd : decide (k < (m : Int)) = false := by simpa using h0
    have h1 : (n : Int) < k := by omega
    have hd2 : decide ((n : Int) < k) = true := by simpa using h1
    clear hk0
    go_enter Try.func33, Try.ntmps33
    go_wp2_with (go_at_call 58; refine hv.mono ?_; rintro e w' ⟨rfl, rfl⟩)
    go_ret
    exact ⟨rfl, rfl⟩
end
end Go.Proofs.Ytahccgbmbnmcgaa
