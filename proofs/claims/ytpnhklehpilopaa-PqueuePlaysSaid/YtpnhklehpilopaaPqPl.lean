/- The places as an array. Of no program. -/
import Derived.Test.YtpnhklehpilopaaPqMem
import Derived.Deep.MidRow
import Derived.Laws.Tables
namespace Go.Proofs.Ytpnhklehpilopaa
open Go Go.RowKit

def plL (T : Nat → Nat) : List Value := (List.range 1024).map fun k => Value.int .i64 (T k : Nat)

theorem plL_length (T : Nat → Nat) : (plL T).length = 1024 := by simp [plL]

theorem range_plL {w : World} {b S : Nat} {v : Value} {t : TypeId} {T : Nat → Nat} (h : w.heap[b]? = some (.cells (hdQ b S v T) t (0, 0))) : w.rangeAt b 3 (plL T) := fun j x hx => by
  have hj := (List.getElem?_eq_some_iff.1 hx).1
  rw [plL_length] at hj
  have h2 := hdQ_at b S v T j hj
  have h3 : (plL T)[j]? = some (Value.int .i64 (T j : Nat)) := by
    unfold plL
    rw [List.getElem?_map, List.getElem?_range hj]
    rfl
  rw [h3] at hx
  simp only [World.cell?, h]
  rw [← hx]
  exact h2

/-- What the parts of a composite are laid with. -/
theorem fold_fill (off : Nat) : ∀ (cs : List Value) (k : Nat) (A : Array Value) (i : Nat), off + k + cs.length ≤ A.size →
    ((cs.zipIdx k).foldl (fun (a : Array Value) (x : Value × Nat) => a.setIfInBounds (off + x.2) x.1) A)[i]? = if off + k ≤ i ∧ i < off + k + cs.length then cs[i - (off + k)]? else A[i]? := by
  intro cs
  induction cs with
  | nil => intro k A i _; rw [if_neg (by rw [List.length_nil]; omega)]; rfl
  | cons c cs ih =>
    intro k A i h
    simp only [List.length_cons] at h
    rw [List.zipIdx_cons, List.foldl_cons, ih (k + 1) _ i (by simp; omega)]
    by_cases h1 : off + (k + 1) ≤ i ∧ i < off + (k + 1) + cs.length
    · rw [if_pos h1, if_pos (by simp; omega)]
      have : i - (off + k) = (i - (off + (k + 1))) + 1 := by omega
      rw [this, List.getElem?_cons_succ]
    · rw [if_neg h1, Array.getElem?_setIfInBounds]
      by_cases h2 : off + k = i
      · subst h2
        rw [if_pos rfl, if_pos (by omega), if_pos (by simp), Nat.sub_self]
        rfl
      · rw [if_neg h2, if_neg (by simp; omega)]

theorem fold_spl (off : Nat) (cs : List Value) (L : List Value) (h : off + cs.length ≤ L.length) :
    (cs.toArray.zipIdx.foldl (fun (a : Array Value) (x : Value × Nat) => a.setIfInBounds (off + x.2) x.1) L.toArray) = (spl L off cs).toArray := by
  rw [← Array.foldl_toList, Array.toList_zipIdx]
  apply Array.ext_getElem?
  intro i
  rw [fold_fill off cs 0 L.toArray i (by simpa using h)]
  simp only [Nat.add_zero, spl, List.getElem?_toArray]
  by_cases h1 : i < off
  · rw [if_neg (by omega), List.append_assoc, List.getElem?_append_left (by simp; omega), List.getElem?_take, if_pos h1]
  · by_cases h2 : i < off + cs.length
    · rw [if_pos (by omega), List.getElem?_append_left (by simp; omega), List.getElem?_append_right (by simp; omega)]
      simp only [List.length_take, Nat.min_eq_left (show off ≤ L.length by omega)]
    · rw [if_neg (by omega), List.getElem?_append_right (by simp; omega), List.getElem?_drop]
      congr 1
      simp
      omega

theorem fold_splL (off : Nat) (cs : List Value) (L : List Value) (h : off + cs.length ≤ L.length) :
    (cs.zipIdx.foldl (fun (a : Array Value) (x : Value × Nat) => a.setIfInBounds (off + x.2) x.1) L.toArray) = (spl L off cs).toArray := by
  rw [← fold_spl off cs L h, ← Array.foldl_toList, Array.toList_zipIdx]

theorem cells_queue (x0 x1 x2 a v : Value) (L Z : List Value) (hZ : Z.length = 1024) (hc : L.length = 1024) :
    (L.zipIdx.foldl (fun (a : Array Value) (x : Value × Nat) => a.setIfInBounds (3 + x.2) x.1) (((x0 :: x1 :: x2 :: Z).toArray.setIfInBounds 1 a).setIfInBounds 2 v)) = (x0 :: a :: v :: L).toArray := by
  have e : (((x0 :: x1 :: x2 :: Z).toArray.setIfInBounds 1 a).setIfInBounds 2 v) = (x0 :: a :: v :: Z).toArray := by simp
  rw [e, fold_splL 3 L (x0 :: a :: v :: Z) (by simp; omega)]
  congr 1
  simp only [spl, List.take_succ_cons, List.take_zero, List.cons_append, List.nil_append]
  rw [show 3 + L.length = (L.length + 1 + 1) + 1 by omega, List.drop_succ_cons, List.drop_succ_cons, List.drop_succ_cons, List.drop_eq_nil_of_le (by omega), List.append_nil]

theorem RowIs.lower {w : World} {base base' : Nat} {E : TypeId} {K : Nat} {v : Value} {es : List (List Value)} (h : RowIs w base E K v es) (hb : base' ≤ base) : RowIs w base' E K v es := by
  refine ⟨⟨h.1.1, ?_⟩, h.2⟩
  rcases h.1.2 with k | ⟨g, cap, cur, k1, k2, k3⟩
  · exact .inl k
  · exact .inr ⟨g, cap, cur, k1, Nat.le_trans hb k2, k3⟩

theorem hdQ_plL (b S : Nat) (v x : Value) (T : Nat → Nat) : ((x :: Value.int .i64 (S : Nat) :: v :: plL T).toArray).setIfInBounds 0 (Value.pointer (some ⟨b, 0, none⟩)) = hdQ b S v T := by
  unfold hdQ plL
  generalize ((List.range 1024).map fun k => Value.int .i64 (T k : Nat)) = R
  simp

theorem fill_queue (L : List Value) (x0 x1 x2 a v : Value) (cs : List Value) (hL : L.length = 1024) (hc : cs.length = 1024) (ha : a.cells = #[a]) (hv : v.cells = #[v]) :
    Instr.fill (fun i => #[(0, 1), (1, 1), (2, 1), (3, 1024)][i]?) (x0 :: x1 :: x2 :: L).toArray [(1, a), (2, v), (3, .agg cs.toArray)] = some (x0 :: a :: v :: cs).toArray := by
  have e3 : (Value.agg cs.toArray).cells = cs.toArray := rfl
  have f1 := fold_spl 1 [a] (x0 :: x1 :: x2 :: L) (by simp)
  have f2 := fold_spl 2 [v] (x0 :: a :: x2 :: L) (by simp)
  have f3 := fold_spl 3 cs (x0 :: a :: v :: L) (by simp; omega)
  have g1 : spl (x0 :: x1 :: x2 :: L) 1 [a] = x0 :: a :: x2 :: L := by simp [spl]
  have g2 : spl (x0 :: a :: x2 :: L) 2 [v] = x0 :: a :: v :: L := by simp [spl]
  have g3 : spl (x0 :: a :: v :: L) 3 cs = x0 :: a :: v :: cs := by
    simp only [spl, List.take_succ_cons, List.take_zero, List.cons_append, List.nil_append]
    rw [show 3 + cs.length = (cs.length + 1 + 1) + 1 by omega, List.drop_succ_cons, List.drop_succ_cons, List.drop_succ_cons, List.drop_eq_nil_of_le (by omega), List.append_nil]
  rw [g1] at f1
  rw [g2] at f2
  rw [g3] at f3
  simp only [Instr.fill, ha, hv, e3]
  simp only [List.getElem?_toArray, List.getElem?_cons_succ, List.getElem?_cons_zero]
  rw [f1, f2, f3]
  simp [hL, hc]
end Go.Proofs.Ytpnhklehpilopaa
