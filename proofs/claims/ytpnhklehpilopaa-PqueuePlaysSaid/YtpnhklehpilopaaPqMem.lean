/- The cells of a queue in memory. Of no program. -/
import Derived.Test.YtpnhklehpilopaaOmMem2
import Derived.Test.YtpnhklehpilopaaOmOrd
import Derived.Test.YtpnhklehpilopaaPqMath
namespace Go.Proofs.Ytpnhklehpilopaa
open Go Go.RowKit

/-- The cells of a queue: itself, its size, its heap, the places. -/
def hdQ (b S : Nat) (v : Value) (T : Nat → Nat) : Array Value := (Value.pointer (some ⟨b, 0, none⟩) :: Value.int .i64 (S : Nat) :: v :: (List.range 1024).map fun k => Value.int .i64 (T k : Nat)).toArray

theorem hdQ_size (b S : Nat) (v : Value) (T : Nat → Nat) : (hdQ b S v T).size = 1027 := by simp [hdQ]

theorem hdQ_at (b S : Nat) (v : Value) (T : Nat → Nat) (k : Nat) (hk : k < 1024) : (hdQ b S v T)[3 + k]? = some (Value.int .i64 (T k : Nat)) := by
  rw [Nat.add_comm]
  simp only [hdQ, List.getElem?_toArray, List.getElem?_cons_succ]
  simp [hk]

theorem range_setT (n : Nat) (T : Nat → Nat) (k x : Nat) : ((List.range n).map fun i => Value.int .i64 (T i : Nat)).set k (Value.int .i64 (x : Nat)) = (List.range n).map fun i => Value.int .i64 (tSet T k x i : Nat) := by
  apply List.ext_getElem?
  intro i
  rw [List.getElem?_set]
  by_cases hi : i < n
  · by_cases h : k = i
    · subst h; simp [hi, tSet]
    · simp [h, hi, tSet, show ¬ i = k from fun e => h e.symm]
  · by_cases h : k = i
    · subst h; simp [hi]
    · simp [h, hi]

theorem hdQ_setT (b S : Nat) (v : Value) (T : Nat → Nat) (k x : Nat) : (hdQ b S v T).setIfInBounds (3 + k) (Value.int .i64 (x : Nat)) = hdQ b S v (tSet T k x) := by
  unfold hdQ
  rw [Nat.add_comm, List.setIfInBounds_toArray, List.set_cons_succ, List.set_cons_succ, List.set_cons_succ, range_setT]

theorem hdQ_setV (b S : Nat) (v v' : Value) (T : Nat → Nat) : (hdQ b S v T).setIfInBounds 2 v' = hdQ b S v' T := by
  apply Array.ext'
  simp [hdQ]

theorem range_zeroT (n : Nat) : ((List.range n).map fun _ => Value.int .i64 ((0 : Nat) : Int)) = List.replicate n (Value.int .i64 0) := by
  apply List.ext_getElem?
  intro i
  by_cases hi : i < n <;> simp [hi]

theorem hdQ_zero (b S : Nat) (v : Value) : hdQ b S v (fun _ => 0) = (Value.pointer (some ⟨b, 0, none⟩) :: Value.int .i64 (S : Nat) :: v :: List.replicate 1024 (Value.int .i64 0)).toArray := by
  unfold hdQ
  rw [range_zeroT]

/-- An element of two cells written over. -/
theorem flat_set2 {es : List (List Value)} {r : Nat} {e e' : List Value} (h : Elems 2 es) (he : es[r]? = some e) (he' : e'.length = 2) : (es.set r e').flatten = spl es.flatten (r * 2) e' := by
  have hr : r < es.length := (List.getElem?_eq_some_iff.1 he).1
  have hl := (h e (List.mem_of_getElem? he)).1
  have e1 : es = es.take r ++ e :: es.drop (r + 1) := by
    conv => lhs; rw [← List.take_append_drop r es, List.drop_eq_getElem_cons hr, (List.getElem?_eq_some_iff.1 he).2]
  have hA : (es.take r).flatten.length = r * 2 := by rw [(h.take r).len, List.length_take, Nat.min_eq_left (by omega)]
  rw [List.set_eq_take_append_cons_drop, if_pos hr]
  unfold spl
  rw [h.flat_take r (by omega)]
  have hd : es.flatten.drop (r * 2 + e'.length) = (es.drop (r + 1)).flatten := by
    rw [he', show r * 2 + 2 = (r + 1) * 2 by omega]; exact h.flat_drop (r + 1) (by omega)
  rw [hd, List.flatten_append, List.flatten_cons, List.append_assoc]

theorem spl_take_in {cur : List Value} {o k : Nat} {cs : List Value} (h : o + cs.length ≤ k) (hk : k ≤ cur.length) : (spl cur o cs).take k = spl (cur.take k) o cs := by
  unfold spl
  rw [List.take_append, List.take_of_length_le (by simp; omega), List.take_take, Nat.min_eq_left (by omega), List.drop_take]
  congr 2
  simp
  omega

/-- Two cells written one after the other. -/
theorem set2_spl {cur : Array Value} {o : Nat} {u v : Value} (h : o + 1 < cur.size) : (cur.setIfInBounds o u).setIfInBounds (o + 1) v = (spl cur.toList o [u, v]).toArray := by
  apply Array.ext'
  simp only [Array.toList_setIfInBounds, spl]
  apply List.ext_getElem?
  intro i
  simp only [List.getElem?_set, List.length_set, Array.length_toList]
  by_cases h1 : i < o
  · rw [if_neg (by omega), if_neg (by omega), List.append_assoc, List.getElem?_append_left (by simp; omega), List.getElem?_take, if_pos h1]
  · rw [List.append_assoc, List.getElem?_append_right (by simp; omega)]
    simp only [List.length_take, Array.length_toList, Nat.min_eq_left (show o ≤ cur.size by omega)]
    by_cases h2 : i = o
    · subst h2; rw [if_neg (by omega), if_pos rfl, if_pos (by omega)]; simp
    · by_cases h3 : i = o + 1
      · subst h3; rw [if_pos rfl, if_pos (by omega)]; simp
      · rw [if_neg (by omega), if_neg (by omega), List.getElem?_append_right (by simp; omega)]
        simp
        congr 1
        omega
end Go.Proofs.Ytpnhklehpilopaa
