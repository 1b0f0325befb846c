/- The document's own history (drumlinref07): Since, Copy, and all at nil. -/
import Derived.Test.YtahccgbmbnmcgaaHiRef3
import Derived.Test.YtahccgbmbnmcgaaHiNil
import Derived.Deep.RegionHeld3
namespace Go.Proofs.Ytahccgbmbnmcgaa
open Go Go.RowKit

set_option maxHeartbeats 800000 in
set_option maxRecDepth 100000 in
theorem raddN (x : ByteArray) (W : World) : Calls Try.prog 14 #[.pointer none, .string x] W fun e w' => e = .returned (.int .i64 1) ∧ w' = W := by
  have hv := rvalidN W
  go_enter Try.func14, Try.ntmps14
  go_wp2_with (go_at_call 46; refine hv.mono ?_; rintro e w' ⟨rfl, rfl⟩)
  go_ret
  exact ⟨rfl, rfl⟩

set_option maxHeartbeats 800000 in
set_option maxRecDepth 100000 in
theorem rcutN (k : Int) (W : World) : Calls Try.prog 18 #[.pointer none, .int .i64 k] W fun e w' => e = .returned (.int .i64 1) ∧ w' = W := by
  have hv := rvalidN W
  go_enter Try.func18, Try.ntmps18
  go_wp2_with (go_at_call 46; refine hv.mono ?_; rintro e w' ⟨rfl, rfl⟩)
  go_ret
  exact ⟨rfl, rfl⟩

set_option maxHeartbeats 800000 in
set_option maxRecDepth 100000 in
theorem rmarkN (W : World) : Calls Try.prog 16 #[.pointer none] W fun e w' => (∃ v, e = .returned v) ∧ w' = W := by
  have hv := rvalidN W
  go_enter Try.func16, Try.ntmps16
  go_wp2_with (go_at_call 46; refine hv.mono ?_; rintro e w' ⟨rfl, rfl⟩)
  go_end0
  exact ⟨⟨_, rfl⟩, rfl⟩

set_option maxHeartbeats 800000 in
set_option maxRecDepth 100000 in
theorem rclearN (W : World) : Calls Try.prog 20 #[.pointer none] W fun e w' => (∃ v, e = .returned v) ∧ w' = W := by
  have hv := rvalidN W
  go_enter Try.func20, Try.ntmps20
  go_wp2_with (go_at_call 46; refine hv.mono ?_; rintro e w' ⟨rfl, rfl⟩)
  go_end0
  exact ⟨⟨_, rfl⟩, rfl⟩

set_option maxHeartbeats 800000 in
set_option maxRecDepth 100000 in
theorem rcopyN (W : World) : Calls Try.prog 22 #[.pointer none] W fun e w' => e = .returned (.pointer none) ∧ w' = W := by
  have hv := rvalidN W
  go_enter Try.func22, Try.ntmps22
  go_wp2_with (go_at_call 46; refine hv.mono ?_; rintro e w' ⟨rfl, rfl⟩)
  go_ret
  exact ⟨rfl, rfl⟩

section
variable {W W' : World} {b : Nat} {p : Option Addr} {c lim m : Nat} {l : List ByteArray}

set_option maxHeartbeats 1600000 in
set_option maxRecDepth 100000 in
/-- Since, the document's. -/
theorem rsince (h : RL W b p c lim m l) :
    Calls Try.prog 52 #[.pointer (some ⟨b, 0, none⟩)] W fun e w' => ∃ q d, e = .returned (.slice q (l.length - m) d) ∧ Hid (RdS w' q (l.drop m)) ∧ Below W.heap.size W w' := by
  have hv := rvalid h
  have hp := h.els
  have hk := h.mrk
  have hpA : ∀ o, (W.alloc o).cell? ⟨b, 1, none⟩ = some (.slice p l.length c) := fun o => (h.below ((Below.refl _ _).alloc (Nat.le_refl _) o)).els
  have hkA : ∀ o, (W.alloc o).cell? ⟨b, 2, none⟩ = some (.int .i64 (m : Nat)) := fun o => (h.below ((Below.refl _ _).alloc (Nat.le_refl _) o)).mrk
  have hml := h.ml
  have hb1 : Below W.heap.size W (W.alloc (.cells #[] 9)).drew := ((Below.refl _ _).alloc (Nat.le_refl _) _).drew
  have hlim : l.length ≤ 200000 := by have := h.ll; have := h.lm; omega
  have hrd := (h.below hb1).rd
  rcases row_parts h.row with ⟨rfl, rfl, rfl⟩ | ⟨g, rfl, hlc, -⟩
  · obtain rfl : m = 0 := by simpa using hml
    have HF : Hid (Below W.heap.size W (W.alloc (.cells #[] 9)).drew) := Lib.hid hb1
    clear h hml hb1 hrd hlim
    go_enter Try.func52, Try.ntmps52
    go_wp2_with fail
    refine hv.mono ?_
    rintro e W1 ⟨rfl, rfl⟩
    go_wp2_with fail
    go_region_law (fail)
    all_goals go_wp2_with fail
    all_goals go_ret
    all_goals exact ⟨_, _, rfl, Lib.hid (RdS.nil _ _), HF.out⟩
  · by_cases hcm : c = m
    · obtain ⟨n, hn⟩ : ∃ n, n = l.length := ⟨_, rfl⟩
      obtain rfl : c = n := by omega
      obtain rfl : c = m := by omega
      have HF : Hid (Below W.heap.size W (W.alloc (.cells #[] 9)).drew ∧ l.drop c = []) := Lib.hid ⟨hb1, List.drop_eq_nil_of_le (by omega)⟩
      rw [← hn] at hp hpA ⊢
      clear h hml hb1 hrd hlim hlc hn hcm
      simp only [Nat.sub_self]
      go_enter Try.func52, Try.ntmps52
      go_wp2_with fail
      refine hv.mono ?_
      rintro e W1 ⟨rfl, rfl⟩
      go_wp2_with fail
      go_region_law (fail)
      all_goals go_wp2_with fail
      all_goals go_ret
      all_goals exact ⟨_, _, rfl, Lib.hid (by rw [HF.out.2]; exact RdS.nil _ _), HF.out.1⟩
    · have hrd2 : RdS (W.alloc (.cells #[] 9)).drew (some ⟨g, m, none⟩) (l.drop m) := fun j x hx => by
        rw [List.getElem?_drop] at hx
        obtain ⟨g', o', e, hc⟩ := hrd _ x hx
        cases e
        exact ⟨g, m, rfl, by rw [Nat.zero_add] at hc; exact hc⟩
      obtain ⟨q, d, w', hr, hrow, hb, -⟩ := app_new (W.alloc (.cells #[] 9)).drew W.heap.size (some ⟨g, m, none⟩) (l.length - m) (c - m) (l.drop m) (by simp) (by omega) hrd2 (fun a ha => by cases ha; rfl) (heap_alloc_new W _)
      have HF : Hid (RdS w' q (l.drop m) ∧ Below W.heap.size W w') := Lib.hid ⟨RdS.app (by rw [List.length_drop]; exact hrow), hb1.trans (hb.mono hb1.size)⟩
      clear h hb1 hrd hlim hrd2 hrow hb
      generalize hn : l.length = n at *
      clear hn
      go_enter Try.func52, Try.ntmps52
      go_wp2_with fail
      refine hv.mono ?_
      rintro e W1 ⟨rfl, rfl⟩
      go_wp2_with fail
      go_region_law (refine step_append_run rfl _ _ 39 39 rfl _ _ (by simp [Act.eval, Act.put]) (by simp [Act.eval, Act.put]) hr ?_)
      all_goals go_wp2_with fail
      all_goals go_ret
      all_goals exact ⟨_, _, rfl, Lib.hid HF.out.1, HF.out.2⟩

set_option maxHeartbeats 3200000 in
set_option maxRecDepth 100000 in
/-- Copy, the document's. -/
theorem rcopy (h : RL W b p c lim m l) :
    Calls Try.prog 22 #[.pointer (some ⟨b, 0, none⟩)] W fun e w' => ∃ b' p' c', e = .returned (.pointer (some ⟨b', 0, none⟩)) ∧ RL w' b' p' c' lim m l ∧ Below W.heap.size W w' ∧ W.heap.size ≤ b' ∧ ∀ a, p' = some a → W.heap.size ≤ a.block := by
  have hv := rvalid h
  have hp := h.els
  have hk := h.mrk
  have hlim := h.limit
  have hpA : ∀ o, (W.alloc o).cell? ⟨b, 1, none⟩ = some (.slice p l.length c) := fun o => (h.below ((Below.refl _ _).alloc (Nat.le_refl _) o)).els
  have hkA : ∀ o, (W.alloc o).cell? ⟨b, 2, none⟩ = some (.int .i64 (m : Nat)) := fun o => (h.below ((Below.refl _ _).alloc (Nat.le_refl _) o)).mrk
  have hlA : ∀ o, (W.alloc o).cell? ⟨b, 3, none⟩ = some (.int .i64 (lim : Nat)) := fun o => (h.below ((Below.refl _ _).alloc (Nat.le_refl _) o)).limit
  have hb1 : Below W.heap.size W (W.alloc (.cells #[] 9)).drew := ((Below.refl _ _).alloc (Nat.le_refl _) _).drew
  obtain ⟨q, d, w', hr, hrow, hb, hq⟩ := app_new (W.alloc (.cells #[] 9)).drew W.heap.size p l.length c l rfl (by have := h.ll; have := h.lm; omega) (h.below hb1).rd (fun a ha => (row_spot h.row a ha).1) (heap_alloc_new W _)
  have hb2 : Below W.heap.size W w' := hb1.trans (hb.mono hb1.size)
  have hq1 : ∀ a, q = some a → W.heap.size ≤ a.block := fun a ha => by
    rcases hq a ha with e | e
    · omega
    · have := hb1.size; omega
  have h2 := h.below hb2
  have hp2 := h2.els
  have hk2 := h2.mrk
  have hl2 := h2.limit
  have HF : Hid (RL (w'.alloc (.cells #[.bool true, .slice q l.length d, .int .i64 (m : Nat), .int .i64 (lim : Nat)] 82)) w'.heap.size q d lim m l ∧ Below W.heap.size W (w'.alloc (.cells #[.bool true, .slice q l.length d, .int .i64 (m : Nat), .int .i64 (lim : Nat)] 82)) ∧ W.heap.size ≤ w'.heap.size ∧ ∀ a, q = some a → W.heap.size ≤ a.block) := Lib.hid ⟨⟨heap_alloc_new _ _, hrow.kept (row := none) (World.grownBy_alloc _ _ none) (by cases q <;> simp [Value.ownBlock]), fun a ha => by
      have := (hrow.lt a.block (by subst ha; rfl)).2
      omega, h.ml, h.ll, h.lm⟩, hb2.alloc hb2.size _, hb2.size, hq1⟩
  clear h h2 hrow hb hb1 hb2 hq hq1
  generalize hn : l.length = n at *
  clear hn
  go_enter Try.func22, Try.ntmps22
  go_wp2_with fail
  refine hv.mono ?_
  rintro e W1 ⟨rfl, rfl⟩
  go_wp2_with fail
  go_region_held3 (fun V => V.cell? ⟨b, 1, none⟩ = some (.slice p n c) ∧ V.cell? ⟨b, 2, none⟩ = some (.int .i64 (m : Nat)) ∧ V.cell? ⟨b, 3, none⟩ = some (.int .i64 (lim : Nat)))
    (first | exact ⟨hp, hk, hlim⟩ | exact ⟨hpA _, hkA _, hlA _⟩ | exact ⟨hp2, hk2, hl2⟩ | go_keep)
    (refine step_append_run rfl _ _ 39 39 rfl _ _ (by simp [Act.eval, Act.put]) (by simp [Act.eval, Act.put]) hr ?_)
  all_goals go_wp2_with fail
  all_goals go_ret
  all_goals exact ⟨_, q, d, rfl, HF.out⟩
end
end Go.Proofs.Ytahccgbmbnmcgaa
