/- A history copied. -/
import Derived.Test.YtahccgbmbnmcgaaHiCut2S
namespace Go.Proofs.Ytahccgbmbnmcgaa
open Go Go.RowKit

section
variable {W : World} {b : Nat} {p : Option Addr} {c lim m : Nat} {l : List ByteArray}

theorem rowLowS {w : World} {base base' : Nat} {E : TypeId} {K : Nat} {v : Value} {es : List (List Value)} (h : RowIs w base E K v es) (hb : base' ≤ base) : RowIs w base' E K v es := by
  refine ⟨⟨h.1.1, ?_⟩, h.2⟩
  rcases h.1.2 with k | ⟨g, cap, cur, k1, k2, k3⟩
  · exact .inl k
  · exact .inr ⟨g, cap, cur, k1, Nat.le_trans hb k2, k3⟩

/-- slices.Clone: a row of its own, behind all that there was. -/
theorem cloneS {w : World} (h : RowIs w 0 9 1 (.slice p l.length c) (l.map celS)) (hn : l.length ≤ 100000) :
    Calls Try.prog 48 #[.slice p l.length c] w fun e w' => ∃ v', e = .returned v' ∧ RowIs w' w.heap.size 9 1 v' (l.map celS) ∧ Below w.heap.size w w' := by
  rcases h.parts with ⟨h1, h2⟩ | ⟨g, cap, cur, h1, h2, h3, h4, h5, h6, h7⟩
  · have : l = [] := by simpa using h2
    subst this
    injection h1 with e1 e2 e3
    subst e1; subst e3
    refine (Try.slices_Clone_string_nil 0 0 w).mono ?_
    rintro e w' ⟨rfl, rfl⟩
    exact ⟨_, rfl, ⟨World.ownsRow_nil _ _ _ _, (fun e he => by simp at he)⟩, Below.refl _ _⟩
  · injection h1 with e1 e2 e3
    subst e1; subst e3
    have hcell : ∀ j, j < l.length → w.cell? ⟨g, 0 + j, none⟩ = some (Value.string (l.getD j (⟨#[]⟩ : ByteArray))) := fun j hj => by
      have hm : (l.map celS)[j]? = some (celS l[j]) := by simp [hj]
      have := row_cell (i := j) (j := 0) h.2 h3 h7 hm rfl
      simpa [hj] using this
    refine (Try.slices_Clone_string g 0 l.length c l w (Nat.le_refl _) (by omega) hcell).mono ?_
    rintro e w' ⟨v', rfl, hr, -, hb⟩
    refine ⟨v', rfl, ⟨?_, celsS _⟩, hb⟩
    rw [List.length_map, flatS]
    rw [List.take_length] at hr
    exact hr

set_option maxHeartbeats 3200000 in
set_option maxRecDepth 100000 in
theorem copyS (h : HLS W b p c lim m l) :
    Calls Try.prog 21 #[.pointer (some ⟨b, 0, none⟩)] W fun e w' => ∃ d q c', e = .returned (.pointer (some ⟨d, 0, none⟩)) ∧ HLS w' d q c' lim m l ∧ Below W.heap.size W w' ∧ W.heap.size ≤ d ∧ ∀ a, q = some a → W.heap.size ≤ a.block := by
  have hv := validS h
  have hp := h.els
  have hk := h.mrk
  have hl := h.limit
  have HC : Hid (∀ q, Calls Try.prog 48 #[.slice p l.length c] (W.drewN q) fun e w2 => ∃ p' c', e = .returned (.slice p' l.length c') ∧
      w2.cell? ⟨b, 1, none⟩ = some (.int .i64 (lim : Nat)) ∧ w2.cell? ⟨b, 2, none⟩ = some (.slice p l.length c) ∧ w2.cell? ⟨b, 3, none⟩ = some (.int .i64 (m : Nat)) ∧
      Hid (∀ q' ty, ty = 41 → HLS ((w2.drewN q').alloc (.cells #[.pointer (some ⟨w2.heap.size, 0, none⟩), .int .i64 (lim : Nat), .slice p' l.length c', .int .i64 (m : Nat)] ty)) w2.heap.size p' c' lim m l ∧ Below W.heap.size W ((w2.drewN q').alloc (.cells #[.pointer (some ⟨w2.heap.size, 0, none⟩), .int .i64 (lim : Nat), .slice p' l.length c', .int .i64 (m : Nat)] ty)) ∧ W.heap.size ≤ w2.heap.size ∧ ∀ a, p' = some a → W.heap.size ≤ a.block)) := Lib.hid fun q => by
    have hq : Below W.heap.size W (W.drewN q) := Below.drewN' q (Below.refl _ _)
    refine (cloneS (h.below hq).row (by have := h.ll; have := h.lm; omega)).mono ?_
    rintro e w2 ⟨v', rfl, hr, hb⟩
    have hb2 : Below W.heap.size W w2 := ⟨hb.os, hb.tape, hb.output, hb.size, hb.block⟩
    have hr2 : RowIs w2 W.heap.size 9 1 v' (l.map celS) := hr
    obtain ⟨p', c', rfl⟩ : ∃ p' c', v' = .slice p' l.length c' := by
      rcases hr2.parts with ⟨q1, q2⟩ | ⟨g, cap, cur, q1, _⟩
      · have : l = [] := by simpa using q2
        rw [this]
        exact ⟨none, 0, q1⟩
      · exact ⟨some ⟨g, 0, none⟩, cap, by rw [q1, List.length_map]⟩
    have hh := h.below hb2
    refine ⟨p', c', rfl, hh.limit, hh.els, hh.mrk, Lib.hid fun q' ty hty => ?_⟩
    subst hty
    have hlt : ∀ a, p' = some a → W.heap.size ≤ a.block ∧ a.block < w2.heap.size := fun a ha => by subst ha; exact hr2.lt a.block rfl
    refine ⟨⟨heap_alloc_new (w2.drewN q') _, ?_, fun a ha => by have := hlt a ha; omega, h.ml, h.ll, h.lm⟩, (Below.drewN' q' hb2).alloc hb2.size _, hb2.size, fun a ha => (hlt a ha).1⟩
    refine rowLowS ?_ (Nat.zero_le W.heap.size)
    have hr3 : RowIs (w2.drewN q') W.heap.size 9 1 (.slice p' l.length c') (l.map celS) := hr2
    exact hr3.kept (row := none) (World.grownBy_alloc (w2.drewN q') _ none) (by cases p' <;> simp [Value.ownBlock])
  clear h
  generalize l.length = n at *
  go_enter Try.func21, Try.ntmps21
  go_wp2_with fail
  refine hv.mono ?_
  rintro e W1 ⟨rfl, rfl⟩
  go_wp2_with fail
  go_region_with (first | (go_at_call 48; refine (HC.out _).mono ?_; rintro e w2 ⟨p', c', rfl, hc1, hc2, hc3, HF⟩))
  all_goals go_wp2_with fail
  all_goals go_ret
  all_goals exact ⟨_, _, _, rfl, HF.out 0 _ rfl⟩
end
end Go.Proofs.Ytahccgbmbnmcgaa
