/- A history cut. -/
import Derived.Test.YtahccgbmbnmcgaaHiNewI
namespace Go.Proofs.Ytahccgbmbnmcgaa
open Go Go.RowKit

section
variable {w : World} {l : List Int}

theorem cutRowI {g c k q : Nat} {vals : List Value} (h : RowIs w 0 3 1 (.slice (some ⟨g, 0, none⟩) l.length c) (l.map celI)) (hv : vals.length = l.length) (ht : vals.take k = ((l.take k).map celI).flatten) (hk : k ≤ l.length) :
    RowIs ((w.drewN q).setCells g 0 vals) 0 3 1 (.slice (some ⟨g, 0, none⟩) k c) ((l.take k).map celI) ∧ w.grownBy ((w.drewN q).setCells g 0 vals) (some g) := by
  rcases h.parts with ⟨h1, h2⟩ | ⟨g', cap, cur, h1, h2, h3, h4, h5, h6, h7⟩
  · cases h1
  · injection h1 with e1 e2 e3
    injection e1 with e1
    injection e1 with e1
    subst e1; subst e3
    rw [List.length_map] at h4
    have h3' : (w.drewN q).heap[g]? = some (.cells cur.toList.toArray 3 (0, 0)) := by rw [Array.toArray_toList]; exact h3
    have hcl : cur.toList.length = c := by simpa using h6
    obtain ⟨k1, k2⟩ := setCells_row vals 0 (w.drewN q) cur.toList h3' (by omega)
    refine ⟨rowIs_mk (cur := spl cur.toList 0 vals) (by simp; omega) (Nat.zero_le _) k1 (by omega) h5 ?_ (celsI _) ?_, ⟨k2.os, k2.tape, k2.output, k2.size, k2.block⟩⟩
    · rw [spl_length (by omega), hcl, Nat.mul_one]
    · rw [Nat.mul_one, ← ht]
      show (cur.toList.take 0 ++ vals ++ cur.toList.drop (0 + vals.length)).take k = vals.take k
      rw [List.take_zero, List.nil_append, List.take_append_of_le_length (by omega)]

theorem flatI (l : List Int) : (l.map celI).flatten = l.map (Value.int .i64) := by
  induction l with
  | nil => rfl
  | cons x t ih => rw [List.map_cons, List.flatten_cons, ih]; rfl
end

theorem delToI {w : World} {p : Option Addr} {c k : Nat} {l : List Int} (h : RowIs w 0 3 1 (.slice p l.length c) (l.map celI)) (hk : k ≤ l.length) :
    Calls Try.prog 60 #[.slice p l.length c, .int .i64 k, .int .i64 l.length] w fun e w' => e = .returned (.slice p k c) ∧ RowIs w' 0 3 1 (.slice p k c) ((l.take k).map celI) ∧ w.grownBy w' (Value.slice p l.length c).ownBlock := by
  rcases h.parts with ⟨h1, h2⟩ | ⟨g, cap, cur, h1, h2, h3, h4, h5, h6, h7⟩
  · have : l = [] := by simpa using h2
    subst this
    obtain rfl : k = 0 := by simpa using hk
    refine (Try.slices_Delete_int_empty p c w).mono ?_
    rintro e w' ⟨rfl, rfl⟩
    exact ⟨rfl, h, grownBy_refl _ _⟩
  · injection h1 with e1 e2 e3
    subst e1; subst e3
    rw [List.length_map] at h4
    unfold maxLen at h5
    have hcell : ∀ j, j < l.length → w.cell? ⟨g, 0 + j, none⟩ = some (.int .i64 (l.getD j 0)) := fun j hj => by
      have hm : (l.map celI)[j]? = some (celI l[j]) := by simp [hj]
      have := row_cell (i := j) (j := 0) h.2 h3 h7 hm rfl
      simpa [hj] using this
    refine (Try.slices_Delete_int_cells g 0 l.length c k l.length l w (Nat.le_refl _) h4 h5 hk (Nat.le_refl _) hcell (fun j _ => row_frozen h3 _)).mono ?_
    rintro e w' ⟨rfl, q, rfl⟩
    have hn : l.length - (l.length - k) = k := by omega
    refine ⟨by rw [hn], ?_⟩
    refine cutRowI h (by simp; omega) ?_ hk
    rw [flatI, List.take_length, List.drop_length, List.append_nil, List.map_append, List.take_append_of_le_length (by simp; omega), List.take_of_length_le (by simp; omega)]
end Go.Proofs.Ytahccgbmbnmcgaa
