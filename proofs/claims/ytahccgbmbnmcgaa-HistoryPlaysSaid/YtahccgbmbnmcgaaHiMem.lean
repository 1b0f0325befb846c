/- Cells laid one behind the other into a row. Of no program. -/
import Derived.Test.YtahccgbmbnmcgaaOmMem2
import Derived.Laws.IdiomCopy
import Derived.Lib.Hide
namespace Go.Proofs.Ytahccgbmbnmcgaa
open Go Go.RowKit

theorem Below.drewN' {B : Nat} {a : World} : ∀ (n : Nat) {w : World}, Below B a w → Below B a (w.drewN n) := fun _ _ h => ⟨h.os, h.tape, h.output, h.size, h.block⟩

theorem spl_cons {cur : List Value} {o : Nat} {v : Value} {vs : List Value} (h : o + (v :: vs).length ≤ cur.length) : spl (spl cur o [v]) (o + 1) vs = spl cur o (v :: vs) := by
  rw [List.length_cons] at h
  have h1 : (spl cur o [v]).take (o + 1) = cur.take o ++ [v] := by
    have := spl_take (cur := cur) (o := o) (cs := [v]) (by rw [List.length_singleton]; omega)
    rwa [List.length_singleton] at this
  have h2 : (spl cur o [v]).drop (o + 1 + vs.length) = cur.drop (o + 1 + vs.length) := by
    have hl : (cur.take o ++ [v]).length = o + 1 := by rw [List.length_append, List.length_take, Nat.min_eq_left (by omega), List.length_singleton]
    unfold spl
    rw [List.drop_append, hl, List.drop_eq_nil_of_le (by rw [hl]; omega), List.nil_append, List.drop_drop, List.length_singleton]
    congr 1
    omega
  show (spl cur o [v]).take (o + 1) ++ vs ++ (spl cur o [v]).drop (o + 1 + vs.length) = cur.take o ++ (v :: vs) ++ cur.drop (o + (v :: vs).length)
  rw [h1, h2, List.length_cons, List.append_assoc, List.append_assoc, List.append_assoc, List.singleton_append, List.cons_append, show o + (vs.length + 1) = o + 1 + vs.length by omega]

theorem setCells_row {g : Nat} {t : TypeId} : ∀ (vs : List Value) (o : Nat) (w : World) (cur : List Value), w.heap[g]? = some (.cells cur.toArray t (0, 0)) → o + vs.length ≤ cur.length →
    (w.setCells g o vs).heap[g]? = some (.cells (spl cur o vs).toArray t (0, 0)) ∧ w.grownBy (w.setCells g o vs) (some g) := by
  intro vs
  induction vs with
  | nil => intro o w cur h _; exact ⟨by simpa [World.setCells, spl] using h, grownBy_refl _ _⟩
  | cons v vs ih =>
    intro o w cur h hl
    have hs := setCell_eq_setRow w g o cur.toArray t (0, 0) v h
    have hsp : (cur.toArray.setIfInBounds o v) = (spl cur o [v]).toArray := by
      simp only [List.length_cons] at hl
      apply Array.ext'
      simp [spl, List.set_eq_take_append_cons_drop]
      omega
    rw [hsp] at hs
    have h1 : (w.setCell ⟨g, o, none⟩ v).heap[g]? = some (.cells (spl cur o [v]).toArray t (0, 0)) := by rw [hs]; exact setRow_heap w g _ _ t _ h
    obtain ⟨h2, h3⟩ := ih (o + 1) _ _ h1 (by rw [spl_length (by simp at hl ⊢; omega)]; simp at hl; omega)
    rw [spl_cons hl] at h2
    refine ⟨h2, grownBy_trans ?_ h3⟩
    rw [hs]
    exact setRow_grown w g _
end Go.Proofs.Ytahccgbmbnmcgaa
