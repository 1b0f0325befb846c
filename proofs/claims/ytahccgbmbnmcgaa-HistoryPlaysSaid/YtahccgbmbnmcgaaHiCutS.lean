/- A history cut. -/
import Derived.Test.YtahccgbmbnmcgaaHiNewS
namespace Go.Proofs.Ytahccgbmbnmcgaa
open Go Go.RowKit

section
variable {w : World} {l : List ByteArray}

theorem cutRowS {g c k q : Nat} {vals : List Value} (h : RowIs w 0 9 1 (.slice (some ⟨g, 0, none⟩) l.length c) (l.map celS)) (hv : vals.length = l.length) (ht : vals.take k = ((l.take k).map celS).flatten) (hk : k ≤ l.length) :
    RowIs ((w.drewN q).setCells g 0 vals) 0 9 1 (.slice (some ⟨g, 0, none⟩) k c) ((l.take k).map celS) ∧ w.grownBy ((w.drewN q).setCells g 0 vals) (some g) := by
  rcases h.parts with ⟨h1, h2⟩ | ⟨g', cap, cur, h1, h2, h3, h4, h5, h6, h7⟩
  · cases h1
  · injection h1 with e1 e2 e3
    injection e1 with e1
    injection e1 with e1
    subst e1; subst e3
    rw [List.length_map] at h4
    have h3' : (w.drewN q).heap[g]? = some (.cells cur.toList.toArray 9 (0, 0)) := by rw [Array.toArray_toList]; exact h3
    have hcl : cur.toList.length = c := by simpa using h6
    obtain ⟨k1, k2⟩ := setCells_row vals 0 (w.drewN q) cur.toList h3' (by omega)
    refine ⟨rowIs_mk (cur := spl cur.toList 0 vals) (by simp; omega) (Nat.zero_le _) k1 (by omega) h5 ?_ (celsS _) ?_, ⟨k2.os, k2.tape, k2.output, k2.size, k2.block⟩⟩
    · rw [spl_length (by omega), hcl, Nat.mul_one]
    · rw [Nat.mul_one, ← ht]
      show (cur.toList.take 0 ++ vals ++ cur.toList.drop (0 + vals.length)).take k = vals.take k
      rw [List.take_zero, List.nil_append, List.take_append_of_le_length (by omega)]

theorem flatS (l : List ByteArray) : (l.map celS).flatten = l.map (Value.string) := by
  induction l with
  | nil => rfl
  | cons x t ih => rw [List.map_cons, List.flatten_cons, ih]; rfl
end

theorem delToS {w : World} {p : Option Addr} {c k : Nat} {l : List ByteArray} (h : RowIs w 0 9 1 (.slice p l.length c) (l.map celS)) (hk : k ≤ l.length) :
    Calls Try.prog 47 #[.slice p l.length c, .int .i64 k, .int .i64 l.length] w fun e w' => e = .returned (.slice p k c) ∧ RowIs w' 0 9 1 (.slice p k c) ((l.take k).map celS) ∧ w.grownBy w' (Value.slice p l.length c).ownBlock := by
  rcases h.parts with ⟨h1, h2⟩ | ⟨g, cap, cur, h1, h2, h3, h4, h5, h6, h7⟩
  · have : l = [] := by simpa using h2
    subst this
    obtain rfl : k = 0 := by simpa using hk
    refine (Try.slices_Delete_string_empty p c w).mono ?_
    rintro e w' ⟨rfl, rfl⟩
    exact ⟨rfl, h, grownBy_refl _ _⟩
  · injection h1 with e1 e2 e3
    subst e1; subst e3
    rw [List.length_map] at h4
    unfold maxLen at h5
    have hcell : ∀ j, j < l.length → w.cell? ⟨g, 0 + j, none⟩ = some (.string (l.getD j ⟨#[]⟩)) := fun j hj => by
      have hm : (l.map celS)[j]? = some (celS l[j]) := by simp [hj]
      have := row_cell (i := j) (j := 0) h.2 h3 h7 hm rfl
      simpa [hj] using this
    have hs : (Lib.strsOf (fun j => l.getD j ⟨#[]⟩) l.length).map encStr = l.map Value.string := by
      apply List.ext_getElem
      · simp [Lib.strsOf]
      · intro i h1 h2
        have hi : i < l.length := by simpa using h2
        simp [Lib.strsOf, encStr, hi]
    have hd := Try.slices_Delete_string_cells g 0 l.length c k l.length (fun j => l.getD j ⟨#[]⟩) w h4 h5 hk (Nat.le_refl _) hcell (fun j _ => row_frozen h3 _)
    have hsl := Lib.strsOf_length (fun j => l.getD j ⟨#[]⟩) l.length
    generalize Lib.strsOf (fun j => l.getD j ⟨#[]⟩) l.length = Z at *
    refine hd.mono ?_
    rintro e w' ⟨rfl, q, rfl⟩
    have hn : l.length - (l.length - k) = k := by omega
    refine ⟨by rw [hn], ?_⟩
    refine cutRowS h (by simp [hsl]; omega) ?_ hk
    rw [flatS, List.drop_of_length_le (by omega), List.append_nil, List.map_append, List.take_append_of_le_length (by simp [hsl]; omega), List.map_take, hs, List.take_take, Nat.min_self, List.map_take]
end Go.Proofs.Ytahccgbmbnmcgaa
