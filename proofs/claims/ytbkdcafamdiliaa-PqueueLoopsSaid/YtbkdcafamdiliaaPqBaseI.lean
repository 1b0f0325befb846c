/- A queue in memory, and the functions that only ask it. -/
import Derived.Test.YtbkdcafamdiliaaPqMem
import Derived.Test.YtbkdcafamdiliaaOmOrdS
import Derived.Test.YtbkdcafamdiliaaProg
import Derived.Deep.QuietTactic
import Derived.BigQuiet
import Derived.Outline
import Derived.WalkLawsBesides
namespace Go.Proofs.Ytbkdcafamdiliaa
open Go Go.RowKit

/-- An id with its priority, in cells. -/
def celI (p : Nat × Int) : List Value := [Value.int .i64 (p.1 : Nat), Value.int .i64 p.2]

theorem celI_ok (p : Nat × Int) : (celI p).length = 2 ∧ ∀ u ∈ celI p, u.oneCell' = true := ⟨rfl, by intro u hu; simp [celI] at hu; rcases hu with rfl | rfl <;> rfl⟩

theorem celsI (l : List (Nat × Int)) : Elems 2 (l.map celI) := fun e he => by obtain ⟨x, _, rfl⟩ := List.mem_map.1 he; exact celI_ok x

/-- At block b lies a queue for S ids whose heap is l; its items lie in a row of their own; T has the places. -/
structure QuI (W : World) (base b : Nat) (p : Option Addr) (c S : Nat) (l : List (Nat × Int)) (T : Nat → Nat) : Prop where
  head : W.heap[b]? = some (.cells (hdQ b S (.slice p l.length c) T) 259 (0, 0))
  low : base ≤ b
  row : RowIs W base 261 2 (.slice p l.length c) (l.map celI)
  apart : ∀ a, p = some a → a.block ≠ b
  s1 : 1 ≤ S
  s2 : S ≤ 1024
  sm : l.length ≤ 1024

section
variable {W W' : World} {base b : Nat} {p : Option Addr} {c S : Nat} {l : List (Nat × Int)} {T : Nat → Nat}

theorem QuI.lt (h : QuI W base b p c S l T) : b < W.heap.size := (Array.getElem?_eq_some_iff.1 h.head).1

theorem QuI.own (h : QuI W base b p c S l T) {a : Addr} (ha : p = some a) : base ≤ a.block ∧ a.block < W.heap.size := by
  subst ha
  exact h.row.lt a.block rfl

/-- What leaves the two blocks of the queue alone leaves the queue alone. -/
theorem QuI.same (h : QuI W base b p c S l T) (hs : W.heap.size ≤ W'.heap.size)
    (hb : W'.heap[b]? = W.heap[b]?) (hr : ∀ a, p = some a → W'.heap[a.block]? = W.heap[a.block]?) : QuI W' base b p c S l T := by
  refine ⟨hb.trans h.head, h.low, ⟨⟨h.row.1.1, ?_⟩, h.row.2⟩, h.apart, h.s1, h.s2, h.sm⟩
  rcases h.row.1.2 with h1 | ⟨g, cap, cur, h1, h2, h3, h4⟩
  · exact .inl h1
  · refine .inr ⟨g, cap, cur, h1, h2, ?_, h4⟩
    have : p = some ⟨g, 0, none⟩ := by injection h1
    exact (hr _ this).trans h3

theorem QuI.below (h : QuI W base b p c S l T) (hb : Below W.heap.size W W') : QuI W' base b p c S l T :=
  h.same hb.size (hb.block b h.lt) (fun _ ha => hb.block _ (h.own ha).2)

theorem QuI.self (h : QuI W base b p c S l T) : W.cell? ⟨b, 0, none⟩ = some (.pointer (some ⟨b, 0, none⟩)) := by
  simp [World.cell?, h.head, hdQ]
theorem QuI.size (h : QuI W base b p c S l T) : W.cell? ⟨b, 1, none⟩ = some (.int .i64 (S : Nat)) := by
  simp [World.cell?, h.head, hdQ]
theorem QuI.heap (h : QuI W base b p c S l T) : W.cell? ⟨b, 2, none⟩ = some (.slice p l.length c) := by
  simp [World.cell?, h.head, hdQ]
theorem QuI.place (h : QuI W base b p c S l T) {k : Nat} (hk : k < 1024) : W.cell? ⟨b, 3 + k, none⟩ = some (.int .i64 (T k : Nat)) := by
  have := hdQ_at b S (.slice p l.length c) T k hk
  simp only [World.cell?, h.head]
  exact this
theorem QuI.frozen (h : QuI W base b p c S l T) (o : Nat) : W.frozen? ⟨b, o, none⟩ = false := by
  simp [World.frozen?, h.head]

/-- The row of the items. -/
theorem QuI.items (h : QuI W base b p c S l T) {j : Nat} {x : Nat × Int} (hx : l[j]? = some x) :
    ∃ g cur, p = some ⟨g, 0, none⟩ ∧ base ≤ g ∧ l.length ≤ c ∧ c ≤ maxLen ∧ W.heap[g]? = some (.cells cur 261 (0, 0)) ∧ cur.size = c * 2 ∧ cur.toList.take (l.length * 2) = (l.map celI).flatten := by
  have hj : j < l.length := (List.getElem?_eq_some_iff.1 hx).1
  rcases h.row.parts with ⟨h1, h2⟩ | ⟨g, cap, cur, h1, h2, h3, h4, h5, h6, h7⟩
  · have : l = [] := by simpa using h2
    subst this
    simp at hj
  · injection h1 with e1 e2 e3
    subst e3
    rw [List.length_map] at h4 h7
    exact ⟨g, cur, e1, h2, h4, h5, h3, h6, h7⟩

/-- The cells of an item. -/
theorem QuI.at (h : QuI W base b p c S l T) {j : Nat} {x : Nat × Int} (hx : l[j]? = some x) :
    ∃ g, p = some ⟨g, 0, none⟩ ∧ l.length ≤ c ∧ W.cell? ⟨g, j * 2, none⟩ = some (Value.int .i64 (x.1 : Nat)) ∧ W.cell? ⟨g, j * 2 + 1, none⟩ = some (Value.int .i64 x.2) := by
  obtain ⟨g, cur, e1, h2, h4, h5, h3, h6, h7⟩ := h.items hx
  have hm : (l.map celI)[j]? = some (celI x) := by simp [hx]
  rw [← List.length_map (f := celI)] at h7
  exact ⟨g, e1, h4, row_cell (i := j) (j := 0) h.row.2 h3 h7 hm rfl, row_cell (i := j) (j := 1) h.row.2 h3 h7 hm rfl⟩

/-- The place of an id written. -/
theorem QuI.setT (h : QuI W base b p c S l T) (k x : Nat) : QuI (W.setCell ⟨b, 3 + k, none⟩ (.int .i64 (x : Nat))) base b p c S l (tSet T k x) := by
  have hh : (W.setCell ⟨b, 3 + k, none⟩ (.int .i64 (x : Nat))).heap[b]? = some (.cells (hdQ b S (.slice p l.length c) (tSet T k x)) 259 (0, 0)) := by
    rw [setCell_eq_setRow W b (3 + k) _ _ (0, 0) _ h.head, hdQ_setT]
    exact setRow_heap W b _ _ _ _ h.head
  have h2 := h.same (W' := (W.setCell ⟨b, 3 + k, none⟩ (.int .i64 (x : Nat))).setRow b (hdQ b S (.slice p l.length c) T)) (by simp [World.setCell]) (by rw [setRow_heap _ b _ _ _ _ hh, h.head]) (fun a ha => by
    rw [setRow_other _ _ _ _ (h.apart a ha)]
    exact Below.heap_setCell _ _ _ _ (h.apart a ha))
  refine ⟨hh, h.low, h.row.kept (row := some b) ⟨rfl, rfl, rfl, by simp [World.setCell], fun k' _ hk => Below.heap_setCell _ _ _ _ (fun e => hk (by rw [e]))⟩ (.inr ?_), h.apart, h.s1, h.s2, h.sm⟩
  cases p with
  | none => simp [Value.ownBlock]
  | some a => simp only [Value.ownBlock]; intro e; injection e with e; exact h.apart a rfl e

/-- An item written over. -/
theorem QuI.setItem (h : QuI W base b p c S l T) {g r : Nat} (hp : p = some ⟨g, 0, none⟩) {y : Nat × Int} (x : Nat × Int) (hx : l[r]? = some y) :
    QuI ((W.setCell ⟨g, r * 2, none⟩ (.int .i64 (x.1 : Nat))).setCell ⟨g, r * 2 + 1, none⟩ (Value.int .i64 x.2)) base b p c S (l.set r x) T := by
  subst hp
  have hne : b ≠ g := fun e => h.apart _ rfl e.symm
  have hr : r < l.length := (List.getElem?_eq_some_iff.1 hx).1
  have hm : (l.map celI)[r]? = some (celI y) := by simp [hx]
  have he : (l.set r x).map celI = (l.map celI).set r (celI x) := by rw [List.map_set]
  obtain ⟨g', cur, e1, h2, h4, h5, h3, h6, h7⟩ := h.items hx
  injection e1 with e1
  injection e1 with e1
  subst e1
  have hfit : r * 2 + 1 < cur.size := by rw [h6]; omega
  refine ⟨?_, h.low, ?_, h.apart, h.s1, h.s2, by simpa using h.sm⟩
  · rw [Below.heap_setCell _ _ _ _ hne, Below.heap_setCell _ _ _ _ hne, List.length_set]; exact h.head
  · have hs1 := setRow_heap W g cur (cur.setIfInBounds (r * 2) (.int .i64 (x.1 : Nat))) 261 (0, 0) h3
    rw [setCell_eq_setRow W g (r * 2) cur 261 (0, 0) _ h3, setCell_eq_setRow _ g (r * 2 + 1) _ 261 (0, 0) _ hs1, List.length_set, he, set2_spl hfit]
    refine rowIs_mk (cur := spl cur.toList (r * 2) (celI x)) (by simp) h2 (setRow_heap _ g _ _ 261 _ hs1) h4 h5 ?_ ?_ ?_
    · rw [spl_length (by simp [celI]; omega)]; simpa using h6
    · intro e hel
      rcases List.mem_or_eq_of_mem_set hel with h8 | rfl
      · exact h.row.2 e h8
      · exact celI_ok x
    · rw [spl_take_in (by simp [celI]; omega) (by simp; omega), h7, flat_set2 h.row.2 hm (celI_ok x).1]

end

set_option maxHeartbeats 800000 in
set_option maxRecDepth 100000 in
theorem validI {W : World} {base b : Nat} {p : Option Addr} {c S : Nat} {l : List (Nat × Int)} {T : Nat → Nat} (h : QuI W base b p c S l T) :
    Calls Try.prog 214 #[.pointer (some ⟨b, 0, none⟩)] W fun e w' => e = .returned (.bool true) ∧ w' = W := by
  have hs := h.self
  clear h
  have hq := fun w a => run_eql_ptr_same (P := Try.prog) w Try.underlying203 (by kernel_rfl : (Try.prog.info? 259).isSome = true) a
  go_enter Try.func214, Try.ntmps214
  go_wp2
  go_ret
  exact ⟨rfl, rfl⟩

set_option maxHeartbeats 800000 in
set_option maxRecDepth 100000 in
/-- check, at an id that there is. -/
theorem checkI {W : World} {base b : Nat} {p : Option Addr} {c S : Nat} {l : List (Nat × Int)} {T : Nat → Nat} (h : QuI W base b p c S l T) (k : Nat) (hk : k < S) :
    Calls Try.prog 207 #[.pointer (some ⟨b, 0, none⟩), .int .i64 (k : Nat)] W fun e w' => e = .returned (.int .i64 0) ∧ w' = W := by
  have hs := h.size
  have hv := validI h
  clear h
  have h0 : decide ((k : Int) < 0) = false := decide_eq_false (by omega)
  have h1 : decide ((S : Int) ≤ (k : Int)) = false := decide_eq_false (by omega)
  go_enter Try.func207, Try.ntmps207
  go_wp2_with (go_at_call 214; refine hv.mono ?_; rintro e w' ⟨rfl, rfl⟩)
  go_ret
  exact ⟨rfl, rfl⟩

set_option maxHeartbeats 800000 in
set_option maxRecDepth 100000 in
/-- check, at an id that there is not. -/
theorem checkBadI {W : World} {base b : Nat} {p : Option Addr} {c S : Nat} {l : List (Nat × Int)} {T : Nat → Nat} (h : QuI W base b p c S l T) (k : Int) (hk : k < 0 ∨ (S : Int) ≤ k) :
    Calls Try.prog 207 #[.pointer (some ⟨b, 0, none⟩), .int .i64 k] W fun e w' => e = .returned (.int .i64 3) ∧ w' = W := by
  have hs := h.size
  have hv := validI h
  clear h
  by_cases h0 : k < 0
  · have h0b : decide (k < 0) = true := by simpa using h0
    clear hk
    go_enter Try.func207, Try.ntmps207
    go_wp2_with (go_at_call 214; refine hv.mono ?_; rintro e w' ⟨rfl, rfl⟩)
    go_ret
    exact ⟨rfl, rfl⟩
  · have h0b : decide (k < 0) = false := by simpa using h0
    have h1b : decide ((S : Int) ≤ k) = true := by simp; omega
    clear hk
    go_enter Try.func207, Try.ntmps207
    go_wp2_with (go_at_call 214; refine hv.mono ?_; rintro e w' ⟨rfl, rfl⟩)
    go_ret
    exact ⟨rfl, rfl⟩
end Go.Proofs.Ytbkdcafamdiliaa
