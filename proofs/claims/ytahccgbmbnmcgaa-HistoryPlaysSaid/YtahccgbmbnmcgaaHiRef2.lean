/- The document's own history (drumlinref07): what makes new elements. -/
import Derived.Test.YtahccgbmbnmcgaaHiRef1
import Derived.Deep.RegionWith
namespace Go.Proofs.Ytahccgbmbnmcgaa
open Go Go.RowKit

/-- The elements of a slice appended to one without elements: a row of its own. -/
theorem app_new (w : World) (B : Nat) (s : Option Addr) (n cap : Nat) (zs : List ByteArray) (hn : zs.length = n) (hlim : n ≤ 200000) (hrd : RdS w s zs) (hs : ∀ a, s = some a → a.spot = none) (hB : w.heap[B]? = some (.cells #[] 9 (0, 0))) :
    ∃ q c w', (Builtin.append_ #[39, 39] 39 #[.slice (some ⟨B, 0, none⟩) 0 0, .slice s n cap]).run Try.prog w = .ok (.slice q n c) w' ∧ RowIs w' 0 9 1 (.slice q n c) (zs.map celS) ∧ Below w.heap.size w w' ∧ ∀ a, q = some a → a.block = B ∨ w.heap.size ≤ a.block := by
  obtain ⟨i, hi, hz, hsize, hby⟩ := info_parts infoS
  rcases Nat.eq_zero_or_pos n with h0 | h0
  · subst h0
    obtain rfl : zs = [] := List.eq_nil_of_length_eq_zero hn
    refine ⟨some ⟨B, 0, none⟩, 0, w, ?_, rowIs_mk (cur := []) rfl (Nat.zero_le _) hB (Nat.le_refl _) (by unfold maxLen; omega) (by simp) (fun e h => by simp at h) (by simp), Below.refl _ _, fun a ha => .inl (by cases ha; rfl)⟩
    cases s with
    | none =>
      have hf := run_firstCells_none (P := Try.prog) (w := w) i.size 0 0 cap
      simp [Builtin.append_, run_underlying Try.underlying39, Builtin.lenOf, sizeOf, typeInfo, hi, hf, storeCells]
    | some A =>
      have hf := run_firstCells_some (P := Try.prog) w i.size 0 A 0 cap [] (by simp) (fun j v h => by simp at h)
      simp [Builtin.append_, run_underlying Try.underlying39, Builtin.lenOf, sizeOf, typeInfo, hi, hf, storeCells]
  · obtain ⟨g, o, rfl⟩ : ∃ g o, s = some ⟨g, o, none⟩ := by
      obtain ⟨g, o, h1, _⟩ := hrd 0 _ (List.getElem?_eq_getElem (by omega))
      exact ⟨g, o, h1⟩
    have he : Elems i.size (zs.map celS) := by rw [hsize]; exact celsS zs
    have hfl : (zs.map celS).flatten = zs.map Value.string := flatS zs
    have hcell : ∀ j u, (zs.map celS).flatten[j]? = some u → w.cell? ((⟨g, o, none⟩ : Addr).add j) = some u := fun j u hj => by
      rw [hfl, List.getElem?_map] at hj
      cases hz2 : zs[j]? with
      | none => rw [hz2] at hj; cases hj
      | some x =>
        rw [hz2] at hj
        cases hj
        obtain ⟨g', o', e, hc⟩ := hrd j x hz2
        cases e
        rw [Addr.add_lit]
        exact hc
    have hl : (zs.map celS).flatten.length = n * i.size := by rw [he.len, List.length_map, hn]
    have hr := run_append_grow (P := Try.prog) w 39 39 9 i _ Try.underlying39 hi hz ⟨B, 0, none⟩ 0 0 [] (by simp) (fun j v h => by simp at h) ⟨g, o, none⟩ n cap (zs.map celS).flatten hl hcell (by omega) (by omega) (growslice_fits (by omega) (by rw [hby]; omega))
    rw [Nat.zero_add] at hr
    have hge := grownCap_ge w n 0 9
    have hcm : grownCap w n 0 9 ≤ maxLen := grownCap_le_maxLen w n 0 9 (by unfold maxLen; omega)
    refine ⟨_, _, _, hr, ?_, (Below.refl _ _).drew.alloc (Nat.le_refl _) _, fun a ha => .inr (by cases ha; exact Nat.le_refl _)⟩
    refine rowIs_mk (cur := (zs.map celS).flatten ++ (Builtin.zeroCells (Value.string ⟨#[]⟩).cells (grownCap w n 0 9 - n)).toList) (by simp; exact hn) (Nat.zero_le _) ?_ hge hcm ?_ (celsS zs) ?_
    · rw [show #[] ++ (zs.map celS).flatten.toArray ++ Builtin.zeroCells (Value.string ⟨#[]⟩).cells (grownCap w n 0 9 - n) = ((zs.map celS).flatten ++ (Builtin.zeroCells (Value.string ⟨#[]⟩).cells (grownCap w n 0 9 - n)).toList).toArray from Array.ext' (by simp)]
      exact heap_alloc_new w.drew _
    · simp only [List.length_append, Array.length_toList, size_zeroCells]
      rw [hl, hsize]
      show n * 1 + _ * 1 = _
      omega
    · rw [hsize] at hl
      rw [← hl]
      exact List.take_left

theorem RdS.app {W : World} {p : Option Addr} {c : Nat} {l : List ByteArray} (h : RowIs W 0 9 1 (.slice p l.length c) (l.map celS)) : RdS W p l := fun j x hx => by
  rcases row_parts h with ⟨-, -, h3⟩ | ⟨g, h1, -, h3⟩
  · subst h3; simp at hx
  · exact ⟨g, 0, h1, by rw [Nat.zero_add]; exact h3 j x hx⟩

theorem row_spot {W : World} {p : Option Addr} {n c : Nat} {es : List (List Value)} (h : RowIs W 0 9 1 (.slice p n c) es) : ∀ a, p = some a → a.spot = none ∧ a.off = 0 := fun a ha => by
  subst ha
  rcases h.parts with ⟨h1, -⟩ | ⟨g, cap, cur, h1, _⟩
  · cases h1
  · injection h1 with e1
    injection e1 with e1
    subst e1
    exact ⟨rfl, rfl⟩

section
variable {W W' : World} {b : Nat} {p : Option Addr} {c lim m : Nat} {l : List ByteArray}

set_option maxHeartbeats 1600000 in
set_option maxRecDepth 100000 in
/-- All, the document's. -/
theorem rall (h : RL W b p c lim m l) :
    Calls Try.prog 51 #[.pointer (some ⟨b, 0, none⟩)] W fun e w' => ∃ q d, e = .returned (.slice q l.length d) ∧ Hid (RdS w' q l) ∧ Below W.heap.size W w' := by
  have hv := rvalid h
  have hp := h.els
  have hb1 : Below W.heap.size W (W.alloc (.cells #[] 9)) := (Below.refl _ _).alloc (Nat.le_refl _) _
  obtain ⟨q, d, w', hr, hrow, hb, -⟩ := app_new (W.alloc (.cells #[] 9)) W.heap.size p l.length c l rfl (by have := h.ll; have := h.lm; omega) (h.below hb1).rd (fun a ha => (row_spot h.row a ha).1) (heap_alloc_new W _)
  have hpA : ∀ o, (W.alloc o).cell? ⟨b, 1, none⟩ = some (.slice p l.length c) := fun o => (h.below ((Below.refl _ _).alloc (Nat.le_refl _) o)).els
  have HF : Hid (RdS w' q l ∧ Below W.heap.size W w') := Lib.hid ⟨RdS.app hrow, hb1.trans (hb.mono hb1.size)⟩
  have HR := Lib.hid hr
  clear h hr hrow hb hb1
  generalize hn : l.length = n at *
  clear hn
  go_enter Try.func51, Try.ntmps51
  go_wp2_with fail
  refine hv.mono ?_
  rintro e W1 ⟨rfl, rfl⟩
  go_wp2_with (at_builtin; refine wpList_append_run _ rfl _ _ 39 39 rfl _ _ rfl rfl HR.out ?_)
  go_ret
  exact ⟨_, _, rfl, Lib.hid HF.out.1, HF.out.2⟩
end
end Go.Proofs.Ytahccgbmbnmcgaa
