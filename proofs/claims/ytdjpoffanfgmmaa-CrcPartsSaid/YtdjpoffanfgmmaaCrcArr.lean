/- Arrays of numbers of 32 bits in memory. -/
import Derived.Test.YtdjpoffanfgmmaaCrcApi
import Derived.Deep.WholeRow
import Derived.OwnWalk
namespace Go.Proofs.Ytdjpoffanfgmmaa
open Go Go.RowKit

/-- The cells of an array of n numbers. -/
def rowOf (n : Nat) (f : Nat → BitVec 32) : Array Value := ((List.range n).map fun i => Value.int .u32 ((f i).toNat : Int)).toArray

theorem rowOf_size (n : Nat) (f : Nat → BitVec 32) : (rowOf n f).size = n := by simp [rowOf]

theorem rowOf_one (n : Nat) (f : Nat → BitVec 32) : (rowOf n f).all (·.oneCell') = true := by
  unfold rowOf
  rw [Array.all_eq_true']
  intro x hx
  simp only [List.mem_toArray, List.mem_map] at hx
  obtain ⟨_, _, rfl⟩ := hx
  rfl

theorem rowOf_get (n : Nat) (f : Nat → BitVec 32) (i : Nat) (h : i < n) : (rowOf n f)[i]? = some (.int .u32 ((f i).toNat : Int)) := by
  simp [rowOf, h]

theorem rowOf_congr (n : Nat) (f g : Nat → BitVec 32) (h : ∀ i, i < n → f i = g i) : rowOf n f = rowOf n g := by
  unfold rowOf
  congr 1
  apply List.map_congr_left
  intro i hi
  rw [h i (List.mem_range.1 hi)]

/-- A function that is turned at one place. -/
def turned (f : Nat → BitVec 32) (k : Nat) (y : BitVec 32) : Nat → BitVec 32 := fun i => if i = k then y else f i

theorem rowOf_set (n : Nat) (f : Nat → BitVec 32) (k : Nat) (y : BitVec 32) : (rowOf n f).setIfInBounds k (.int .u32 (y.toNat : Int)) = rowOf n (turned f k y) := by
  apply Array.ext_getElem?
  intro i
  rw [Array.getElem?_setIfInBounds]
  by_cases hi : i < n
  · rw [rowOf_get n _ i hi, rowOf_get n _ i hi, rowOf_size]
    unfold turned
    by_cases hk : k = i
    · subst hk; simp [hi]
    · simp [hk, show ¬ i = k from fun h => hk h.symm]
  · have h1 : (rowOf n f)[i]? = none := by rw [Array.getElem?_eq_none]; rw [rowOf_size]; omega
    have h2 : (rowOf n (turned f k y))[i]? = none := by rw [Array.getElem?_eq_none]; rw [rowOf_size]; omega
    rw [h1, h2, rowOf_size]
    split
    · rw [if_neg (by omega)]
    · rfl

theorem rowOf_zero (n : Nat) : Array.replicate n (Value.int .u32 0) = rowOf n (fun _ => 0#32) := by
  apply Array.ext_getElem?
  intro i
  by_cases hi : i < n
  · rw [rowOf_get n _ i hi]; simp [hi]
  · have h2 : (rowOf n (fun _ => 0#32))[i]? = none := by rw [Array.getElem?_eq_none]; rw [rowOf_size]; omega
    rw [h2]; simp [hi]

theorem crcTab_row : crcTab = rowOf 256 (fun i => feed 0#32 (i : Int)) := rfl

/-- The block g holds an array of n numbers. -/
structure Arr (w : World) (g n : Nat) (T : TypeId) (f : Nat → BitVec 32) : Prop where
  heap : w.heap[g]? = some (.cells (rowOf n f) T (0, 0))

theorem Arr.lt {w : World} {g n : Nat} {T : TypeId} {f : Nat → BitVec 32} (h : Arr w g n T f) : g < w.heap.size := by
  have := h.heap
  rw [Array.getElem?_eq_some_iff] at this
  exact this.1

theorem Arr.cell {w : World} {g n : Nat} {T : TypeId} {f : Nat → BitVec 32} (h : Arr w g n T f) (i : Nat) (hi : i < n) : w.cell? ⟨g, i, none⟩ = some (.int .u32 ((f i).toNat : Int)) := by
  rw [cell_of_row _ _ i _ _ _ h.heap]; exact rowOf_get n f i hi

theorem Arr.frozen {w : World} {g n : Nat} {T : TypeId} {f : Nat → BitVec 32} (h : Arr w g n T f) (i : Nat) : w.frozen? ⟨g, i, none⟩ = false :=
  frozen_of_row w g i _ T h.heap

theorem Arr.set {w : World} {g n : Nat} {T : TypeId} {f : Nat → BitVec 32} (h : Arr w g n T f) (i : Nat) (y : BitVec 32) : Arr (w.setCell ⟨g, i, none⟩ (.int .u32 (y.toNat : Int))) g n T (turned f i y) :=
  ⟨by rw [heap_setCell_same w g i _ T _ h.heap, rowOf_set]⟩

theorem Arr.below {w w' : World} {g n : Nat} {T : TypeId} {f : Nat → BitVec 32} (h : Arr w g n T f) (hb : Below w.heap.size w w') : Arr w' g n T f :=
  ⟨by rw [hb.block g h.lt]; exact h.heap⟩

theorem Arr.congr {w : World} {g n : Nat} {T : TypeId} {f f' : Nat → BitVec 32} (h : Arr w g n T f) (he : ∀ i, i < n → f i = f' i) : Arr w g n T f' :=
  ⟨by rw [← rowOf_congr n f f' he]; exact h.heap⟩

theorem Arr.setOther {w : World} {g n : Nat} {T : TypeId} {f : Nat → BitVec 32} (h : Arr w g n T f) (a : Addr) (v : Value) (hne : g ≠ a.block) : Arr (w.setCell a v) g n T f :=
  ⟨by rw [heap_setCell_other w a g v hne]; exact h.heap⟩

theorem arr_new (w : World) (n : Nat) (T : TypeId) (f : Nat → BitVec 32) : Arr (w.alloc (.cells (rowOf n f) T)) w.heap.size n T f := ⟨heap_alloc_last w _⟩

theorem Arr.alloc {w : World} {g n : Nat} {T : TypeId} {f : Nat → BitVec 32} (h : Arr w g n T f) (o : Obj) : Arr (w.alloc o) g n T f :=
  ⟨by rw [Below.heap_alloc w o g h.lt]; exact h.heap⟩

theorem Arr.row {w : World} {g n : Nat} {T : TypeId} {f : Nat → BitVec 32} (h : Arr w g n T f) (f' : Nat → BitVec 32) : Arr (w.setRow g (rowOf n f')) g n T f' :=
  ⟨setRow_heap w g _ _ T _ h.heap⟩

theorem Arr.rowOther {w : World} {g n : Nat} {T : TypeId} {f : Nat → BitVec 32} (h : Arr w g n T f) (g' : Nat) (cs : Array Value) (hne : g ≠ g') : Arr (w.setRow g' cs) g n T f :=
  ⟨by rw [setRow_other w g' g cs hne]; exact h.heap⟩

theorem below_row {B : Nat} {a w : World} (h : Below B a w) (g : Nat) (cs : Array Value) (hg : B ≤ g) : Below B a (w.setRow g cs) :=
  ⟨h.os, h.tape, h.output, by rw [setRow_size]; exact h.size, fun k hk => by rw [setRow_other w g k cs (by omega)]; exact h.block k hk⟩

/-- What the table's two loops lay: the byte of several bits is made of its highest one and the others. -/
theorem feed_split : ∀ k : Fin 8, ∀ m : Fin 128, m.val < 2 ^ k.val → feed 0#32 ((128 / 2 ^ k.val + 2 * (128 / 2 ^ k.val) * m.val : Nat) : Int) = feed 0#32 ((2 * (128 / 2 ^ k.val) * m.val : Nat) : Int) ^^^ csts (k.val + 1) 1#32 := by
  decide +kernel

theorem step_any (x : BitVec 32) (w : World) :
    Calls Try.prog 26 #[.int .u32 (x.toNat : Int)] w fun e w' => e = .returned (.int .u32 ((cst x).toNat : Int)) ∧ w = w' := by
  have h1 := and1_u32 x
  have h2 := shr1_u32 x
  have hlt := x.isLt
  have hp : (crcP.toNat : Int) = 3988292384 := by decide
  have h3 := xor_u32 (x >>> 1) crcP
  rw [hp, ← h2] at h3
  cases hb : x.getLsbD 0 with
  | true =>
    have hc := cst_odd x hb
    rw [← hc] at h3
    rw [hb, if_pos rfl] at h1
    generalize (cst x).toNat = c at *
    generalize x.toNat = u at *
    clear hb hp h2 hc
    go_enter Try.func26, Try.ntmps26
    go_wp2
    go_ret
    exact ⟨congrArg (fun n => Ending.returned (Value.int .u32 n)) h3, rfl⟩
  | false =>
    have hc := cst_even x hb
    rw [← hc] at h2
    rw [hb, if_neg (by decide)] at h1
    clear h3 hc hb hp
    generalize (cst x).toNat = c at *
    generalize x.toNat = u at *
    go_enter Try.func26, Try.ntmps26
    go_wp2
    go_ret
    exact ⟨congrArg (fun n => Ending.returned (Value.int .u32 n)) h2, rfl⟩
end Go.Proofs.Ytdjpoffanfgmmaa
