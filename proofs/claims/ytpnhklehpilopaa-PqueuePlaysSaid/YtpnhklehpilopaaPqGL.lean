/- Several texts in one: PqBaseL, PqCmpL, PqSwapL, PqSwpL, PqSiftL, PqDownL, PqAskL. -/
import Derived.Test.YtpnhklehpilopaaPqMem
import Derived.Test.YtpnhklehpilopaaOmOrdS
import Derived.Test.YtpnhklehpilopaaProg
import Derived.Deep.QuietTactic
import Derived.BigQuiet
import Derived.Outline
import Derived.WalkLawsBesides
import Derived.Test.YtpnhklehpilopaaPqCmpV
import Derived.Deep.LoopGhost
import Derived.Lib.Hide
import Derived.Test.YtpnhklehpilopaaPqGI
import Derived.StillTailTactics
import Derived.BigRegion
import Derived.Test.YtpnhklehpilopaaPqAbs
namespace Go.Proofs.Ytpnhklehpilopaa
open Go Go.RowKit

/-- An id with its priority, in cells. -/
def celL (p : Nat × Int) : List Value := [Value.int .i64 (p.1 : Nat), Value.int .i64 p.2]

theorem celL_ok (p : Nat × Int) : (celL p).length = 2 ∧ ∀ u ∈ celL p, u.oneCell' = true := ⟨rfl, by intro u hu; simp [celL] at hu; rcases hu with rfl | rfl <;> rfl⟩

theorem celsL (l : List (Nat × Int)) : Elems 2 (l.map celL) := fun e he => by obtain ⟨x, _, rfl⟩ := List.mem_map.1 he; exact celL_ok x

/-- At block b lies a queue for S ids whose heap is l; its items lie in a row of their own; T has the places. -/
structure QuL (W : World) (base b : Nat) (p : Option Addr) (c S : Nat) (l : List (Nat × Int)) (T : Nat → Nat) : Prop where
  head : W.heap[b]? = some (.cells (hdQ b S (.slice p l.length c) T) 120 (0, 0))
  low : base ≤ b
  row : RowIs W base 213 2 (.slice p l.length c) (l.map celL)
  apart : ∀ a, p = some a → a.block ≠ b
  s1 : 1 ≤ S
  s2 : S ≤ 1024
  sm : l.length ≤ 1024

section
variable {W W' : World} {base b : Nat} {p : Option Addr} {c S : Nat} {l : List (Nat × Int)} {T : Nat → Nat}

theorem QuL.lt (h : QuL W base b p c S l T) : b < W.heap.size := (Array.getElem?_eq_some_iff.1 h.head).1

theorem QuL.own (h : QuL W base b p c S l T) {a : Addr} (ha : p = some a) : base ≤ a.block ∧ a.block < W.heap.size := by
  subst ha
  exact h.row.lt a.block rfl

/-- What leaves the two blocks of the queue alone leaves the queue alone. -/
theorem QuL.same (h : QuL W base b p c S l T) (hs : W.heap.size ≤ W'.heap.size)
    (hb : W'.heap[b]? = W.heap[b]?) (hr : ∀ a, p = some a → W'.heap[a.block]? = W.heap[a.block]?) : QuL W' base b p c S l T := by
  refine ⟨hb.trans h.head, h.low, ⟨⟨h.row.1.1, ?_⟩, h.row.2⟩, h.apart, h.s1, h.s2, h.sm⟩
  rcases h.row.1.2 with h1 | ⟨g, cap, cur, h1, h2, h3, h4⟩
  · exact .inl h1
  · refine .inr ⟨g, cap, cur, h1, h2, ?_, h4⟩
    have : p = some ⟨g, 0, none⟩ := by injection h1
    exact (hr _ this).trans h3

theorem QuL.below (h : QuL W base b p c S l T) (hb : Below W.heap.size W W') : QuL W' base b p c S l T :=
  h.same hb.size (hb.block b h.lt) (fun _ ha => hb.block _ (h.own ha).2)

theorem QuL.self (h : QuL W base b p c S l T) : W.cell? ⟨b, 0, none⟩ = some (.pointer (some ⟨b, 0, none⟩)) := by
  simp [World.cell?, h.head, hdQ]
theorem QuL.size (h : QuL W base b p c S l T) : W.cell? ⟨b, 1, none⟩ = some (.int .i64 (S : Nat)) := by
  simp [World.cell?, h.head, hdQ]
theorem QuL.heap (h : QuL W base b p c S l T) : W.cell? ⟨b, 2, none⟩ = some (.slice p l.length c) := by
  simp [World.cell?, h.head, hdQ]
theorem QuL.place (h : QuL W base b p c S l T) {k : Nat} (hk : k < 1024) : W.cell? ⟨b, 3 + k, none⟩ = some (.int .i64 (T k : Nat)) := by
  have := hdQ_at b S (.slice p l.length c) T k hk
  simp only [World.cell?, h.head]
  exact this
theorem QuL.frozen (h : QuL W base b p c S l T) (o : Nat) : W.frozen? ⟨b, o, none⟩ = false := by
  simp [World.frozen?, h.head]

/-- The row of the items. -/
theorem QuL.items (h : QuL W base b p c S l T) {j : Nat} {x : Nat × Int} (hx : l[j]? = some x) :
    ∃ g cur, p = some ⟨g, 0, none⟩ ∧ base ≤ g ∧ l.length ≤ c ∧ c ≤ maxLen ∧ W.heap[g]? = some (.cells cur 213 (0, 0)) ∧ cur.size = c * 2 ∧ cur.toList.take (l.length * 2) = (l.map celL).flatten := by
  have hj : j < l.length := (List.getElem?_eq_some_iff.1 hx).1
  rcases h.row.parts with ⟨h1, h2⟩ | ⟨g, cap, cur, h1, h2, h3, h4, h5, h6, h7⟩
  · have : l = [] := by simpa using h2
    subst this
    simp at hj
  · injection h1 with e1 e2 e3
    subst e3
    rw [List.length_map] at h4 h7
    exact ⟨g, cur, e1, h2, h4, h5, h3, h6, h7⟩

/-- The cells of an item. -/
theorem QuL.at (h : QuL W base b p c S l T) {j : Nat} {x : Nat × Int} (hx : l[j]? = some x) :
    ∃ g, p = some ⟨g, 0, none⟩ ∧ l.length ≤ c ∧ W.cell? ⟨g, j * 2, none⟩ = some (Value.int .i64 (x.1 : Nat)) ∧ W.cell? ⟨g, j * 2 + 1, none⟩ = some (Value.int .i64 x.2) := by
  obtain ⟨g, cur, e1, h2, h4, h5, h3, h6, h7⟩ := h.items hx
  have hm : (l.map celL)[j]? = some (celL x) := by simp [hx]
  rw [← List.length_map (f := celL)] at h7
  exact ⟨g, e1, h4, row_cell (i := j) (j := 0) h.row.2 h3 h7 hm rfl, row_cell (i := j) (j := 1) h.row.2 h3 h7 hm rfl⟩

/-- The place of an id written. -/
theorem QuL.setT (h : QuL W base b p c S l T) (k x : Nat) : QuL (W.setCell ⟨b, 3 + k, none⟩ (.int .i64 (x : Nat))) base b p c S l (tSet T k x) := by
  have hh : (W.setCell ⟨b, 3 + k, none⟩ (.int .i64 (x : Nat))).heap[b]? = some (.cells (hdQ b S (.slice p l.length c) (tSet T k x)) 120 (0, 0)) := by
    rw [setCell_eq_setRow W b (3 + k) _ _ (0, 0) _ h.head, hdQ_setT]
    exact setRow_heap W b _ _ _ _ h.head
  have h2 := h.same (W' := (W.setCell ⟨b, 3 + k, none⟩ (.int .i64 (x : Nat))).setRow b (hdQ b S (.slice p l.length c) T)) (by simp [World.setCell]) (by rw [setRow_heap _ b _ _ _ _ hh, h.head]) (fun a ha => by
    rw [setRow_other _ _ _ _ (h.apart a ha)]
    exact Below.heap_setCell _ _ _ _ (h.apart a ha))
  refine ⟨hh, h.low, h.row.kept (row := some b) ⟨rfl, rfl, rfl, by simp [World.setCell], fun k' _ hk => Below.heap_setCell _ _ _ _ (fun e => hk (by rw [e]))⟩ (.inr ?_), h.apart, h.s1, h.s2, h.sm⟩
  cases p with
  | none => simp [Value.ownBlock]
  | some a => simp only [Value.ownBlock]; intro e; injection e with e; exact h.apart a rfl e

/-- An item written over. -/
theorem QuL.setItem (h : QuL W base b p c S l T) {g r : Nat} (hp : p = some ⟨g, 0, none⟩) {y : Nat × Int} (x : Nat × Int) (hx : l[r]? = some y) :
    QuL ((W.setCell ⟨g, r * 2, none⟩ (.int .i64 (x.1 : Nat))).setCell ⟨g, r * 2 + 1, none⟩ (Value.int .i64 x.2)) base b p c S (l.set r x) T := by
  subst hp
  have hne : b ≠ g := fun e => h.apart _ rfl e.symm
  have hr : r < l.length := (List.getElem?_eq_some_iff.1 hx).1
  have hm : (l.map celL)[r]? = some (celL y) := by simp [hx]
  have he : (l.set r x).map celL = (l.map celL).set r (celL x) := by rw [List.map_set]
  obtain ⟨g', cur, e1, h2, h4, h5, h3, h6, h7⟩ := h.items hx
  injection e1 with e1
  injection e1 with e1
  subst e1
  have hfit : r * 2 + 1 < cur.size := by rw [h6]; omega
  refine ⟨?_, h.low, ?_, h.apart, h.s1, h.s2, by simpa using h.sm⟩
  · rw [Below.heap_setCell _ _ _ _ hne, Below.heap_setCell _ _ _ _ hne, List.length_set]; exact h.head
  · have hs1 := setRow_heap W g cur (cur.setIfInBounds (r * 2) (.int .i64 (x.1 : Nat))) 213 (0, 0) h3
    rw [setCell_eq_setRow W g (r * 2) cur 213 (0, 0) _ h3, setCell_eq_setRow _ g (r * 2 + 1) _ 213 (0, 0) _ hs1, List.length_set, he, set2_spl hfit]
    refine rowIs_mk (cur := spl cur.toList (r * 2) (celL x)) (by simp) h2 (setRow_heap _ g _ _ 213 _ hs1) h4 h5 ?_ ?_ ?_
    · rw [spl_length (by simp [celL]; omega)]; simpa using h6
    · intro e hel
      rcases List.mem_or_eq_of_mem_set hel with h8 | rfl
      · exact h.row.2 e h8
      · exact celL_ok x
    · rw [spl_take_in (by simp [celL]; omega) (by simp; omega), h7, flat_set2 h.row.2 hm (celL_ok x).1]

end

set_option maxHeartbeats 800000 in
set_option maxRecDepth 100000 in
theorem validL {W : World} {base b : Nat} {p : Option Addr} {c S : Nat} {l : List (Nat × Int)} {T : Nat → Nat} (h : QuL W base b p c S l T) :
    Calls Try.prog 157 #[.pointer (some ⟨b, 0, none⟩)] W fun e w' => e = .returned (.bool true) ∧ w' = W := by
  have hs := h.self
  clear h
  have hq := fun w a => run_eql_ptr_same (P := Try.prog) w Try.underlying93 (by kernel_rfl : (Try.prog.info? 120).isSome = true) a
  go_enter Try.func157, Try.ntmps157
  go_wp2
  go_ret
  exact ⟨rfl, rfl⟩

set_option maxHeartbeats 800000 in
set_option maxRecDepth 100000 in
/-- check, at an id that there is. -/
theorem checkL {W : World} {base b : Nat} {p : Option Addr} {c S : Nat} {l : List (Nat × Int)} {T : Nat → Nat} (h : QuL W base b p c S l T) (k : Nat) (hk : k < S) :
    Calls Try.prog 148 #[.pointer (some ⟨b, 0, none⟩), .int .i64 (k : Nat)] W fun e w' => e = .returned (.int .i64 0) ∧ w' = W := by
  have hs := h.size
  have hv := validL h
  clear h
  have h0 : decide ((k : Int) < 0) = false := decide_eq_false (by omega)
  have h1 : decide ((S : Int) ≤ (k : Int)) = false := decide_eq_false (by omega)
  go_enter Try.func148, Try.ntmps148
  go_wp2_with (go_at_call 157; refine hv.mono ?_; rintro e w' ⟨rfl, rfl⟩)
  go_ret
  exact ⟨rfl, rfl⟩

set_option maxHeartbeats 800000 in
set_option maxRecDepth 100000 in
/-- check, at an id that there is not. -/
theorem checkBadL {W : World} {base b : Nat} {p : Option Addr} {c S : Nat} {l : List (Nat × Int)} {T : Nat → Nat} (h : QuL W base b p c S l T) (k : Int) (hk : k < 0 ∨ (S : Int) ≤ k) :
    Calls Try.prog 148 #[.pointer (some ⟨b, 0, none⟩), .int .i64 k] W fun e w' => e = .returned (.int .i64 3) ∧ w' = W := by
  have hs := h.size
  have hv := validL h
  clear h
  by_cases h0 : k < 0
  · have h0b : decide (k < 0) = true := by simpa using h0
    clear hk
    go_enter Try.func148, Try.ntmps148
    go_wp2_with (go_at_call 157; refine hv.mono ?_; rintro e w' ⟨rfl, rfl⟩)
    go_ret
    exact ⟨rfl, rfl⟩
  · have h0b : decide (k < 0) = false := by simpa using h0
    have h1b : decide ((S : Int) ≤ k) = true := by simp; omega
    clear hk
    go_enter Try.func148, Try.ntmps148
    go_wp2_with (go_at_call 157; refine hv.mono ?_; rintro e w' ⟨rfl, rfl⟩)
    go_ret
    exact ⟨rfl, rfl⟩
end Go.Proofs.Ytpnhklehpilopaa

namespace Go.Proofs.Ytpnhklehpilopaa
open Go Go.RowKit

set_option maxHeartbeats 800000 in
set_option maxRecDepth 100000 in
theorem cmpL (x y : Int) (W : World) : Calls Try.prog 237 #[Value.int .i64 x, Value.int .i64 y] W fun e w' => e = .returned (.int .i64 (cmpV ltI x y)) ∧ w' = W := by
  have hx := eqReflltI x
  have hy := eqReflltI y
  unfold cmpV
  cases h1 : ltI x y with
  | true =>
    unfold ltI at h1
    go_enter Try.func237, Try.ntmps237
    go_wp2
    go_ret
    exact ⟨rfl, rfl⟩
  | false =>
    cases h2 : ltI y x with
    | true =>
      have hgt := gtrltI x y h1
      rw [h2] at hgt
      try simp only [Bool.not_true, Bool.not_false] at hgt
      unfold ltI at h1
      go_enter Try.func237, Try.ntmps237
      go_wp2
      go_ret
      exact ⟨rfl, rfl⟩
    | false =>
      have hgt := gtrltI x y h1
      rw [h2] at hgt
      try simp only [Bool.not_true, Bool.not_false] at hgt
      unfold ltI at h1
      go_enter Try.func237, Try.ntmps237
      go_wp2
      go_ret
      exact ⟨rfl, rfl⟩
end Go.Proofs.Ytpnhklehpilopaa

namespace Go.Proofs.Ytpnhklehpilopaa
open Go Go.RowKit

set_option maxHeartbeats 1600000 in
set_option maxRecDepth 100000 in
theorem beforeL {W : World} {base b : Nat} {p : Option Addr} {c S : Nat} {l : List (Nat × Int)} {T : Nat → Nat} (h : QuL W base b p c S l T) {i j : Nat} {x y : Nat × Int} (hx : l[i]? = some x) (hy : l[j]? = some y) :
    Calls Try.prog 215 #[.pointer (some ⟨b, 0, none⟩), .int .i64 (i : Nat), .int .i64 (j : Nat)] W fun e w' => e = .returned (.bool (befQ ltI x y)) ∧ Below W.heap.size W w' := by
  obtain ⟨g, rfl, hc, hi0, hi1⟩ := h.at hx
  obtain ⟨g', hg', _, hj0, hj1⟩ := h.at hy
  injection hg' with hg'
  injection hg' with hg'
  subst hg'
  have hp := h.heap
  have hil : i < l.length := (List.getElem?_eq_some_iff.1 hx).1
  have hjl : j < l.length := (List.getElem?_eq_some_iff.1 hy).1
  have hsm := h.sm
  rw [← orV_bef ordI x y]
  have hbl := h.lt
  have hgl : g < W.heap.size := (h.own rfl).2
  have hA : ∀ (k o : Nat) (O : Obj), k < W.heap.size → (W.alloc O).cell? ⟨k, o, none⟩ = W.cell? ⟨k, o, none⟩ := fun k o O hk => by simp only [World.cell?, Below.heap_alloc W O k hk]
  have hAA : ∀ (k o : Nat) (O O' : Obj), k < W.heap.size → ((W.alloc O).alloc O').cell? ⟨k, o, none⟩ = W.cell? ⟨k, o, none⟩ := fun k o O O' hk => by simp only [World.cell?, Below.heap_alloc (W.alloc O) O' k (by simp; omega), Below.heap_alloc W O k hk]
  have p1 := fun O => (hA b 2 O hbl).trans hp
  have p2 := fun O O' => (hAA b 2 O O' hbl).trans hp
  have p3 := fun O => (hA g (i * 2) O hgl).trans hi0
  have p4 := fun O O' => (hAA g (i * 2) O O' hgl).trans hi0
  have p5 := fun O => (hA g (i * 2 + 1) O hgl).trans hi1
  have p6 := fun O O' => (hAA g (i * 2 + 1) O O' hgl).trans hi1
  have p7 := fun O => (hA g (j * 2) O hgl).trans hj0
  have p8 := fun O O' => (hAA g (j * 2) O O' hgl).trans hj0
  have p9 := fun O => (hA g (j * 2 + 1) O hgl).trans hj1
  have pA := fun O O' => (hAA g (j * 2 + 1) O O' hgl).trans hj1
  clear h hx hy hA hAA
  generalize l.length = n at *
  obtain ⟨xi, xp⟩ := x
  obtain ⟨yi, yp⟩ := y
  have h0 : (0 : Int) ≤ (i : Int) := by omega
  have h1 : (i : Int) < (n : Int) := by omega
  have h2 : (0 : Int) ≤ (j : Int) := by omega
  have h3 : (j : Int) < (n : Int) := by omega
  have hc1 := cmpL xp yp
  have hc2 := cmpI (xi : Int) (yi : Int)
  have HO := Lib.hid (fun B => or2_any B (cmpV ltI xp yp) (cmpV ltI (xi : Int) (yi : Int)))
  generalize hv1 : cmpV ltI xp yp = v1 at *
  generalize hv2 : cmpV ltI (xi : Int) (yi : Int) = v2 at *
  have HC := Lib.hid (And.intro hc1 hc2)
  clear hv1 hv2 hc1 hc2
  go_enter Try.func215, Try.ntmps215
  go_wp2_with fail
  go_region
  all_goals
    clear p1 p2 p3 p4 p5 p6 p7 p8 p9 pA hp hi0 hi1 hj0 hj1
  · have k0 := heap_alloc_new (W.alloc (Obj.cells #[Value.int IntKind.i64 (xi : Nat), Value.int .i64 xp] 213)) (Obj.cells #[Value.int IntKind.i64 (yi : Nat), Value.int .i64 yp] 213)
    have k1 : ((W.alloc (Obj.cells #[Value.int IntKind.i64 (xi : Nat), Value.int .i64 xp] 213)).alloc (Obj.cells #[Value.int IntKind.i64 (yi : Nat), Value.int .i64 yp] 213)).heap[W.heap.size]? = some (Obj.cells #[Value.int IntKind.i64 (xi : Nat), Value.int .i64 xp] 213) := by rw [Below.heap_alloc _ _ _ (by simp)]; exact heap_alloc_new W _
    rw [World.size_alloc] at k0
    have hB1 : Below W.heap.size W (((W.alloc (Obj.cells #[Value.int IntKind.i64 (xi : Nat), Value.int .i64 xp] 213)).alloc (Obj.cells #[Value.int IntKind.i64 (yi : Nat), Value.int .i64 yp] 213)).drew).drew := (((Below.refl _ W).alloc (Nat.le_refl _) _).alloc (by simp) _).drew.drew
    have q1 : (((W.alloc (Obj.cells #[Value.int IntKind.i64 (xi : Nat), Value.int .i64 xp] 213)).alloc (Obj.cells #[Value.int IntKind.i64 (yi : Nat), Value.int .i64 yp] 213)).drew).drew.cell? ⟨W.heap.size, 0, none⟩ = some (Value.int .i64 (xi : Nat)) := by simp only [World.cell?, World.drew, k1]; rfl
    have q2 : (((W.alloc (Obj.cells #[Value.int IntKind.i64 (xi : Nat), Value.int .i64 xp] 213)).alloc (Obj.cells #[Value.int IntKind.i64 (yi : Nat), Value.int .i64 yp] 213)).drew).drew.cell? ⟨W.heap.size, 1, none⟩ = some (Value.int .i64 xp) := by simp only [World.cell?, World.drew, k1]; rfl
    have q3 : (((W.alloc (Obj.cells #[Value.int IntKind.i64 (xi : Nat), Value.int .i64 xp] 213)).alloc (Obj.cells #[Value.int IntKind.i64 (yi : Nat), Value.int .i64 yp] 213)).drew).drew.cell? ⟨W.heap.size + 1, 0, none⟩ = some (Value.int .i64 (yi : Nat)) := by simp only [World.cell?, World.drew, k0]; rfl
    have q4 : (((W.alloc (Obj.cells #[Value.int IntKind.i64 (xi : Nat), Value.int .i64 xp] 213)).alloc (Obj.cells #[Value.int IntKind.i64 (yi : Nat), Value.int .i64 yp] 213)).drew).drew.cell? ⟨W.heap.size + 1, 1, none⟩ = some (Value.int .i64 yp) := by simp only [World.cell?, World.drew, k0]; rfl
    clear k0 k1
    generalize (((W.alloc (Obj.cells #[Value.int IntKind.i64 (xi : Nat), Value.int .i64 xp] 213)).alloc (Obj.cells #[Value.int IntKind.i64 (yi : Nat), Value.int .i64 yp] 213)).drew) = W1 at *
    go_wp2_with fail
    refine wp_region_still_tail 10 (by kernel_rfl) (by kernel_rfl) ?_
    simp only [List.take_succ_cons, List.take_zero, List.drop_succ_cons, List.drop_zero]
    rw [show (({ heap := W1.heap, tape := W1.tape, drawn := W1.drawn + 1, os := W1.os, output := W1.output } : World)) = W1.drew from rfl]
    generalize W1.drew = W2 at *
    still_step
    still_step
    still_step
    still_step
    still_call (HC.out.1 W2)
    still_step
    still_step
    still_step
    still_step
    still_call (HC.out.2 W2)
    refine wpStill_nil ?_
    clear q1 q2 q3 q4
    have hcell := heap_alloc_new W2 (Obj.cells #[Value.int .i64 v1, Value.int .i64 v2] 3)
    have ho := HO.out W2.heap.size (W2.alloc (Obj.cells #[Value.int .i64 v1, Value.int .i64 v2] 3)) (by simp only [World.cell?, hcell]; rfl) (by simp only [World.cell?, hcell]; rfl)
    have hB2 := hB1.alloc hB1.size (Obj.cells #[Value.int .i64 v1, Value.int .i64 v2] 3)
    clear hcell hB1
    go_wp2_with fail
    refine ho.mono ?_
    rintro e w' ⟨rfl, rfl⟩
    go_wp2_with fail
    go_ret
    exact ⟨rfl, hB2⟩
  · have k0 := heap_alloc_new (W.alloc (Obj.cells #[Value.int IntKind.i64 (yi : Nat), Value.int .i64 yp] 213)) (Obj.cells #[Value.int IntKind.i64 (xi : Nat), Value.int .i64 xp] 213)
    have k1 : ((W.alloc (Obj.cells #[Value.int IntKind.i64 (yi : Nat), Value.int .i64 yp] 213)).alloc (Obj.cells #[Value.int IntKind.i64 (xi : Nat), Value.int .i64 xp] 213)).heap[W.heap.size]? = some (Obj.cells #[Value.int IntKind.i64 (yi : Nat), Value.int .i64 yp] 213) := by rw [Below.heap_alloc _ _ _ (by simp)]; exact heap_alloc_new W _
    rw [World.size_alloc] at k0
    have hB1 : Below W.heap.size W (((W.alloc (Obj.cells #[Value.int IntKind.i64 (yi : Nat), Value.int .i64 yp] 213)).alloc (Obj.cells #[Value.int IntKind.i64 (xi : Nat), Value.int .i64 xp] 213)).drew).drew := (((Below.refl _ W).alloc (Nat.le_refl _) _).alloc (by simp) _).drew.drew
    have q1 : (((W.alloc (Obj.cells #[Value.int IntKind.i64 (yi : Nat), Value.int .i64 yp] 213)).alloc (Obj.cells #[Value.int IntKind.i64 (xi : Nat), Value.int .i64 xp] 213)).drew).drew.cell? ⟨W.heap.size + 1, 0, none⟩ = some (Value.int .i64 (xi : Nat)) := by simp only [World.cell?, World.drew, k0]; rfl
    have q2 : (((W.alloc (Obj.cells #[Value.int IntKind.i64 (yi : Nat), Value.int .i64 yp] 213)).alloc (Obj.cells #[Value.int IntKind.i64 (xi : Nat), Value.int .i64 xp] 213)).drew).drew.cell? ⟨W.heap.size + 1, 1, none⟩ = some (Value.int .i64 xp) := by simp only [World.cell?, World.drew, k0]; rfl
    have q3 : (((W.alloc (Obj.cells #[Value.int IntKind.i64 (yi : Nat), Value.int .i64 yp] 213)).alloc (Obj.cells #[Value.int IntKind.i64 (xi : Nat), Value.int .i64 xp] 213)).drew).drew.cell? ⟨W.heap.size, 0, none⟩ = some (Value.int .i64 (yi : Nat)) := by simp only [World.cell?, World.drew, k1]; rfl
    have q4 : (((W.alloc (Obj.cells #[Value.int IntKind.i64 (yi : Nat), Value.int .i64 yp] 213)).alloc (Obj.cells #[Value.int IntKind.i64 (xi : Nat), Value.int .i64 xp] 213)).drew).drew.cell? ⟨W.heap.size, 1, none⟩ = some (Value.int .i64 yp) := by simp only [World.cell?, World.drew, k1]; rfl
    clear k0 k1
    generalize (((W.alloc (Obj.cells #[Value.int IntKind.i64 (yi : Nat), Value.int .i64 yp] 213)).alloc (Obj.cells #[Value.int IntKind.i64 (xi : Nat), Value.int .i64 xp] 213)).drew) = W1 at *
    go_wp2_with fail
    refine wp_region_still_tail 10 (by kernel_rfl) (by kernel_rfl) ?_
    simp only [List.take_succ_cons, List.take_zero, List.drop_succ_cons, List.drop_zero]
    rw [show (({ heap := W1.heap, tape := W1.tape, drawn := W1.drawn + 1, os := W1.os, output := W1.output } : World)) = W1.drew from rfl]
    generalize W1.drew = W2 at *
    still_step
    still_step
    still_step
    still_step
    still_call (HC.out.1 W2)
    still_step
    still_step
    still_step
    still_step
    still_call (HC.out.2 W2)
    refine wpStill_nil ?_
    clear q1 q2 q3 q4
    have hcell := heap_alloc_new W2 (Obj.cells #[Value.int .i64 v1, Value.int .i64 v2] 3)
    have ho := HO.out W2.heap.size (W2.alloc (Obj.cells #[Value.int .i64 v1, Value.int .i64 v2] 3)) (by simp only [World.cell?, hcell]; rfl) (by simp only [World.cell?, hcell]; rfl)
    have hB2 := hB1.alloc hB1.size (Obj.cells #[Value.int .i64 v1, Value.int .i64 v2] 3)
    clear hcell hB1
    go_wp2_with fail
    refine ho.mono ?_
    rintro e w' ⟨rfl, rfl⟩
    go_wp2_with fail
    go_ret
    exact ⟨rfl, hB2⟩
end Go.Proofs.Ytpnhklehpilopaa

namespace Go.Proofs.Ytpnhklehpilopaa
open Go Go.RowKit

set_option maxHeartbeats 1600000 in
set_option maxRecDepth 1000000 in
theorem swapL {W : World} {base b : Nat} {p : Option Addr} {c S : Nat} {l : List (Nat × Int)} {T : Nat → Nat} (h : QuL W base b p c S l T) {i j : Nat} {x y : Nat × Int} (hx : l[i]? = some x) (hy : l[j]? = some y) (hx1 : x.1 < 1024) (hy1 : y.1 < 1024) :
    Calls Try.prog 153 #[.pointer (some ⟨b, 0, none⟩), .int .i64 (i : Nat), .int .i64 (j : Nat)] W fun e w' => e = .returned (.tuple #[]) ∧ QuL w' base b p c S (swp l i j) (tSet (tSet T y.1 (i + 1)) x.1 (j + 1)) ∧ Touch b p W w' := by
  obtain ⟨g, hpg, hc, hi0, hi1⟩ := h.at hx
  obtain ⟨g', hg', _, hj0, hj1⟩ := h.at hy
  rw [hpg] at hg'
  injection hg' with hg'
  injection hg' with hg'
  subst hg'
  have hp := h.heap
  have hil : i < l.length := (List.getElem?_eq_some_iff.1 hx).1
  have hjl : j < l.length := (List.getElem?_eq_some_iff.1 hy).1
  have hsm := h.sm
  have hgf : ∀ o, W.frozen? ⟨g, o, none⟩ = false := by
    obtain ⟨g2, cur, e1, _, _, _, h3, _, _⟩ := h.items hx
    rw [hpg] at e1
    injection e1 with e1
    injection e1 with e1
    subst e1
    exact fun o => row_frozen h3 o
  have f1 := hgf (i * 2)
  have f2 := hgf (i * 2 + 1)
  have f3 := hgf (j * 2)
  have f4 := hgf (j * 2 + 1)
  have hset : ∃ z, (l.set i y)[j]? = some z := ⟨_, List.getElem?_eq_getElem (by simpa using hjl)⟩
  obtain ⟨z, hz⟩ := hset
  have hQ1 := (h.setItem hpg y hx).setItem hpg x hz
  rw [← swp_eq hx hy] at hQ1
  have hT1 : Touch b p W ((((W.setCell ⟨g, i * 2, none⟩ (.int .i64 (y.1 : Nat))).setCell ⟨g, i * 2 + 1, none⟩ (Value.int .i64 y.2)).setCell ⟨g, j * 2, none⟩ (.int .i64 (x.1 : Nat))).setCell ⟨g, j * 2 + 1, none⟩ (Value.int .i64 x.2)) :=
    ((((Touch.of_below (Below.refl _ _)).rowAt hpg _ _).rowAt hpg _ _).rowAt hpg _ _).rowAt hpg _ _
  have hl1 : (swp l i j)[i]? = some y := by
    rw [swp_at hx hy]
    by_cases e : i = j
    · subst e; rw [hx] at hy; cases hy; rw [if_pos rfl]
    · rw [if_neg e, if_pos rfl]
  have hl2 : (swp l i j)[j]? = some x := by rw [swp_at hx hy, if_pos rfl]
  have hll := swp_len l i j
  have HQ := Lib.hid hQ1
  have HT := Lib.hid hT1
  have HL := Lib.hid (And.intro hl1 (And.intro hl2 hll))
  have HXY := Lib.hid (And.intro hx hy)
  clear hQ1 hT1 hl1 hl2 hll hz hgf h hx hy
  subst hpg
  generalize hn : l.length = n at *
  have HN := Lib.hid hn
  clear hn
  obtain ⟨xi, xp⟩ := x
  obtain ⟨yi, yp⟩ := y
  have h0 : (0 : Int) ≤ (i : Int) := by omega
  have h1 : (i : Int) < (n : Int) := by omega
  have h2 : (0 : Int) ≤ (j : Int) := by omega
  have h3 : (j : Int) < (n : Int) := by omega
  obtain ⟨u1, hu1⟩ := cell_after_set (w := W) (p := ⟨g, i * 2, none⟩) (x := .int .i64 (yi : Nat)) (q := ⟨g, j * 2, none⟩) hj0
  obtain ⟨u3, hu3⟩ := cell_after_set (w := W) (p := ⟨g, i * 2, none⟩) (x := .int .i64 (yi : Nat)) (q := ⟨g, j * 2 + 1, none⟩) hj1
  obtain ⟨u4, hu4⟩ := cell_after_set (p := ⟨g, i * 2 + 1, none⟩) (x := Value.int .i64 yp) hu3
  clear hu3
  obtain ⟨u2, hu2⟩ := cell_after_set (w := W) (p := ⟨g, i * 2 + 1, none⟩) (x := Value.int .i64 yp) (q := ⟨g, j * 2 + 1, none⟩) hj1
  go_enter Try.func153, Try.ntmps153
  go_wp2_with fail
  go_region
  clear hu1 hu2 hu4 hi0 hi1 hj0 hj1 f1 f2 f3 f4 hp
  have hQ2 := HQ.out.below Below.drewSelf
  have hT2 := HT.out.drew
  clear HQ HT
  go_wp2_with fail
  generalize ((((W.setCell ⟨g, i * 2, none⟩ (.int .i64 (yi : Nat))).setCell ⟨g, i * 2 + 1, none⟩ (Value.int .i64 yp)).setCell ⟨g, j * 2, none⟩ (.int .i64 (xi : Nat))).setCell ⟨g, j * 2 + 1, none⟩ (Value.int .i64 xp)).drew = W2 at *
  have hp2 := hQ2.heap
  rw [HL.out.2.2] at hp2
  obtain ⟨g2, hg2, _, ci, _⟩ := hQ2.at HL.out.1
  injection hg2 with hg2
  injection hg2 with hg2
  subst hg2
  have cp := hQ2.place hy1
  have cf := hQ2.frozen (3 + yi)
  have HQ2 := Lib.hid hQ2
  have HT2 := Lib.hid hT2
  clear hQ2 hT2
  have hyi : (yi : Int) < 1024 := by omega
  go_region
  clear cp cf ci hp2
  have hQ3 := (HQ2.out.setT yi (i + 1)).below Below.drewSelf
  have hT3 := (HT2.out.set (3 + yi) (.int .i64 ((i + 1 : Nat) : Int))).drew
  clear HQ2 HT2
  rw [show ((i + 1 : Nat) : Int) = (i : Int) + 1 by omega] at hQ3 hT3
  go_wp2_with fail
  generalize (W2.setCell ⟨b, 3 + yi, none⟩ (.int .i64 ((i : Int) + 1))).drew = W3 at *
  have hp3 := hQ3.heap
  rw [HL.out.2.2] at hp3
  obtain ⟨g3, hg3, _, ci, _⟩ := hQ3.at HL.out.2.1
  injection hg3 with hg3
  injection hg3 with hg3
  subst hg3
  have cp := hQ3.place hx1
  have cf := hQ3.frozen (3 + xi)
  have HQ3 := Lib.hid hQ3
  have HT3 := Lib.hid hT3
  clear hQ3 hT3
  have hxi : (xi : Int) < 1024 := by omega
  go_region
  clear cp cf ci hp3
  have hQ4 := (HQ3.out.setT xi (j + 1)).below Below.drewSelf
  have hT4 := (HT3.out.set (3 + xi) (.int .i64 ((j + 1 : Nat) : Int))).drew
  clear HQ3 HT3
  rw [show ((j + 1 : Nat) : Int) = (j : Int) + 1 by omega] at hQ4 hT4
  go_wp2_with fail
  go_end0
  exact ⟨rfl, hQ4, hT4⟩
end Go.Proofs.Ytpnhklehpilopaa

namespace Go.Proofs.Ytpnhklehpilopaa
open Go Go.RowKit

/-- The items have only changed their places. -/
structure SiftL (W wr : World) (base b : Nat) (p : Option Addr) (c S : Nat) (l0 l : List (Nat × Int)) (T : Nat → Nat) : Prop where
  qu : QuL wr base b p c S l T
  pl : Pl S l T
  mem : ∀ x, x ∈ l ↔ x ∈ l0
  len : l.length = l0.length
  tch : Touch b p W wr

theorem SiftL.below {W wr w' : World} {base b : Nat} {p : Option Addr} {c S : Nat} {l0 l : List (Nat × Int)} {T : Nat → Nat} (h : SiftL W wr base b p c S l0 l T) (hb : Below wr.heap.size wr w') : SiftL W w' base b p c S l0 l T :=
  ⟨h.qu.below hb, h.pl, h.mem, h.len, h.tch.trans (Touch.of_below hb)⟩

theorem SiftL.trans {W w1 w2 : World} {base b : Nat} {p : Option Addr} {c S : Nat} {l0 l1 l2 : List (Nat × Int)} {T1 T2 : Nat → Nat} (h : SiftL W w1 base b p c S l0 l1 T1) (k : SiftL w1 w2 base b p c S l1 l2 T2) : SiftL W w2 base b p c S l0 l2 T2 :=
  ⟨k.qu, k.pl, fun x => (k.mem x).trans (h.mem x), k.len.trans h.len, h.tch.trans k.tch⟩

theorem swapSL {W wr : World} {base b : Nat} {p : Option Addr} {c S : Nat} {l0 l : List (Nat × Int)} {T : Nat → Nat} (h : SiftL W wr base b p c S l0 l T) {i j : Nat} {x y : Nat × Int} (hx : l[i]? = some x) (hy : l[j]? = some y) :
    Calls Try.prog 153 #[.pointer (some ⟨b, 0, none⟩), .int .i64 (i : Nat), .int .i64 (j : Nat)] wr fun e w' => e = .returned (.tuple #[]) ∧ ∃ T', SiftL W w' base b p c S l0 (swp l i j) T' := by
  have h2 := h.qu.s2
  refine (swapL h.qu hx hy (by have := (h.pl.fwd i x hx).1; omega) (by have := (h.pl.fwd j y hy).1; omega)).mono ?_
  rintro e w' ⟨rfl, hq, ht⟩
  exact ⟨rfl, _, hq, h.pl.swap hx hy, fun z => (swp_mem z).trans (h.mem z), (swp_len _ _ _).trans h.len, h.tch.trans ht⟩

/-- What stands while the item goes up from i and has come to k. -/
def UpRelL (W wr : World) (base b : Nat) (p : Option Addr) (c S : Nat) (l : List (Nat × Int)) (i k : Nat) : Prop := ∃ l' T', SiftL W wr base b p c S l l' T' ∧ ((k = i ∧ HpW (befQ ltI) l' k) ∨ HpU (befQ ltI) l' k)

set_option maxHeartbeats 1600000 in
set_option maxRecDepth 100000 in
theorem upL {W : World} {base b : Nat} {p : Option Addr} {c S : Nat} {l : List (Nat × Int)} {T : Nat → Nat} (h : QuL W base b p c S l T) (hp : Pl S l T) {i : Nat} (hw : HpW (befQ ltI) l i) (hi : i < l.length) :
    Calls Try.prog 150 #[.pointer (some ⟨b, 0, none⟩), .int .i64 (i : Nat)] W fun e w' => e = .returned (.tuple #[]) ∧ ∃ l' T', SiftL W w' base b p c S l l' T' ∧ HpD (befQ ltI) l' i := by
  have HS0 : Hid (UpRelL W W base b p c S l i i) := Lib.hid ⟨l, T, ⟨h, hp, fun _ => Iff.rfl, rfl, Touch.of_below (Below.refl _ _)⟩, .inl ⟨rfl, hw⟩⟩
  have hsm := h.sm
  have hO := befQ_ord ordI
  have HO := Lib.hid hO
  clear h hp hw hO
  go_enter Try.func150, Try.ntmps150
  go_wp2
  go_loopw [1] (fun s wr => ∃ i' : Nat, s = .int .i64 i' ∧ i' < l.length ∧ Hid (UpRelL W wr base b p c S l i i')) (fun s _ => (intOf s).toNat)
  case atStart => exact ⟨i, rfl, hi, HS0⟩
  case round =>
    obtain ⟨i', rfl, hi', HS⟩ := hrel
    obtain ⟨l', T', hS, hor⟩ := HS.out
    have hW : HpW (befQ ltI) l' i' := by
      rcases hor with ⟨_, h1⟩ | h1
      · exact h1
      · exact h1.wide
    have hil : i' < l'.length := by rw [hS.len]; exact hi'
    obtain ⟨x, hx⟩ : ∃ x, l'[i']? = some x := ⟨_, List.getElem?_eq_getElem hil⟩
    by_cases h0 : 0 < i'
    · obtain ⟨k, hk⟩ : ∃ k, (i' - 1) / 2 = k := ⟨_, rfl⟩
      obtain ⟨y, hy⟩ : ∃ y, l'[k]? = some y := ⟨_, List.getElem?_eq_getElem (by omega)⟩
      have hbf := beforeL hS.qu hx hy
      rw [show ((k : Nat) : Int) = ((i' : Int) - 1) / 2 by omega] at hbf
      have hsw : ∀ w', Below wr.heap.size wr w' → Calls Try.prog 153 #[.pointer (some ⟨b, 0, none⟩), .int .i64 (i' : Nat), .int .i64 (k : Nat)] w' fun e w' => e = .returned (.tuple #[]) ∧ ∃ T', SiftL W w' base b p c S l (swp l' i' k) T' := fun w' hb => swapSL (hS.below hb) hx hy
      rw [show ((k : Nat) : Int) = ((i' : Int) - 1) / 2 by omega] at hsw
      cases hlt : befQ ltI x y with
      | true =>
        rw [hlt] at hbf
        have HU : Hid (HpU (befQ ltI) (swp l' i' k) k) := Lib.hid (by
          have := hW.up HO.out h0 hx (by rw [hk]; exact hy) hlt
          rwa [hk] at this)
        have HSW := Lib.hid hsw
        clear hsw hS hor hW hx hy hlt HS
        have hkl : k < l.length := by omega
        have hki : k < i' := by omega
        have hik : ((i' : Int) - 1) / 2 = (k : Int) := by omega
        have HIK := Lib.hid hik
        clear hik hk
        go_wp2_with fail
        refine hbf.mono ?_
        rintro e w1 ⟨rfl, hb1⟩
        go_wp2_with fail
        refine (HSW.out w1 hb1).mono ?_
        rintro e w2 ⟨rfl, T2, hS2⟩
        have HS2 : Hid (UpRelL W w2 base b p c S l i k) := Lib.hid ⟨_, _, hS2, .inr HU.out⟩
        clear hS2 hbf
        go_wp2_with fail
        go_roundw
        case rel => exact ⟨k, by rw [HIK.out], hkl, HS2⟩
        case measure => simp only [intOf]; have := HIK.out; omega
      | false =>
        rw [hlt] at hbf
        have HD : Hid (HpD (befQ ltI) l' i) := Lib.hid (by
          have hup : 0 < i' → Up (befQ ltI) l' i' ((i' - 1) / 2) := fun _ u v hu hv => by
            rw [hk] at hv
            rw [hx] at hu; rw [hy] at hv; cases hu; cases hv; exact hlt
          rcases hor with ⟨rfl, h1⟩ | h1
          · exact h1.stay hup
          · exact (h1.stay hup).down HO.out i)
        have HSS := Lib.hid hS
        clear hsw hS hor hW hx hy hlt HS hk
        go_wp2_with fail
        refine hbf.mono ?_
        rintro e w1 ⟨rfl, hb1⟩
        go_wp2_with fail
        go_end0
        exact ⟨rfl, l', T', HSS.out.below hb1, HD.out⟩
    · obtain rfl : i' = 0 := by omega
      have HD : Hid (HpD (befQ ltI) l' i) := Lib.hid (by
        rcases hor with ⟨rfl, h1⟩ | h1
        · exact h1.stay (fun h => absurd h h0)
        · exact (h1.stay (fun h => absurd h h0)).down HO.out i)
      have HSS := Lib.hid hS
      clear hS hor hW hx HS hil
      go_wp2_with fail
      go_end0
      exact ⟨rfl, l', T', HSS.out, HD.out⟩
end Go.Proofs.Ytpnhklehpilopaa

namespace Go.Proofs.Ytpnhklehpilopaa
open Go Go.RowKit

/-- What stands while the item goes down and has come to k. -/
def DnRelL (W wr : World) (base b : Nat) (p : Option Addr) (c S : Nat) (l : List (Nat × Int)) (k : Nat) : Prop := ∃ l' T', SiftL W wr base b p c S l l' T' ∧ HpD (befQ ltI) l' k

/-- What stands while the items below k are looked at, as far as ch; f is the first one. -/
structure ChRelL (W wr : World) (base b : Nat) (p : Option Addr) (c S : Nat) (l l' : List (Nat × Int)) (T' : Nat → Nat) (k f ch : Nat) : Prop where
  sift : SiftL W wr base b p c S l l' T'
  least : ∀ j, 0 < j → (j - 1) / 2 = k → j < ch → Up (befQ ltI) l' j f
  less : f ≠ k → ∃ x y, l'[k]? = some x ∧ l'[f]? = some y ∧ befQ ltI y x = true
  self : Up (befQ ltI) l' k f

set_option maxHeartbeats 3200000 in
set_option maxRecDepth 100000 in
theorem downL {W : World} {base b : Nat} {p : Option Addr} {c S : Nat} {l : List (Nat × Int)} {T : Nat → Nat} (h : QuL W base b p c S l T) (hp : Pl S l T) {i : Nat} (hd : HpD (befQ ltI) l i) (hi : i < l.length) :
    Calls Try.prog 216 #[.pointer (some ⟨b, 0, none⟩), .int .i64 (i : Nat)] W fun e w' => e = .returned (.tuple #[]) ∧ ∃ l' T', SiftL W w' base b p c S l l' T' ∧ Hp (befQ ltI) l' := by
  have HS0 : Hid (DnRelL W W base b p c S l i) := Lib.hid ⟨l, T, ⟨h, hp, fun _ => Iff.rfl, rfl, Touch.of_below (Below.refl _ _)⟩, hd⟩
  have hsm := h.sm
  have hO := befQ_ord ordI
  have HO := Lib.hid hO
  clear h hp hd hO
  go_enter Try.func216, Try.ntmps216
  go_wp2
  go_loopw [1] (fun s wr => ∃ k : Nat, s = .int .i64 k ∧ k < l.length ∧ Hid (DnRelL W wr base b p c S l k)) (fun s _ => l.length - (intOf s).toNat)
  case atStart => exact ⟨i, rfl, hi, HS0⟩
  case round =>
    obtain ⟨k, rfl, hk, HS⟩ := hrel
    obtain ⟨l', T', hS, hD⟩ := HS.out
    have hll := hS.len
    have HC : Hid (ChRelL W wr base b p c S l l' T' k k (2 * k + 1)) := Lib.hid ⟨hS, fun j h0 h1 h2 => by omega, fun h => absurd rfl h, fun u v hu hv => by rw [hu] at hv; cases hv; exact HO.out.irr _⟩
    have HDD := Lib.hid hD
    have HLL := Lib.hid hll
    clear HS hS hD hll
    obtain ⟨w5, hw5⟩ : ∃ w5, w5 = wr := ⟨_, rfl⟩
    subst hw5
    go_wp2
    go_loopw [4, 5] (fun s t wq => ∃ f ch : Nat, s = .int .i64 f ∧ t = .int .i64 ch ∧ 2 * k + 1 ≤ ch ∧ ch ≤ 2 * k + 3 ∧ f < l.length ∧ Hid (f = k ∨ (0 < f ∧ (f - 1) / 2 = k)) ∧ Hid (ChRelL W wq base b p c S l l' T' k f ch)) (fun _ t _ => 2 * k + 3 - (intOf t).toNat)
    case atStart => exact ⟨k, 2 * k + 1, rfl, by go_num, by omega, by omega, hk, Lib.hid (.inl rfl), HC⟩
    case round =>
      obtain ⟨f, ch, rfl, rfl, h1, h2, hf, HF, HR⟩ := hrel
      clear HC
      obtain ⟨hS, hL, hM, hU⟩ := HR.out
      obtain ⟨y, hy⟩ : ∃ y, l'[f]? = some y := ⟨_, List.getElem?_eq_getElem (by rw [hS.len]; exact hf)⟩
      by_cases hin : ch ≤ 2 * k + 2 ∧ ch < l.length
      · obtain ⟨hc2, hcl⟩ := hin
        obtain ⟨x, hx⟩ : ∃ x, l'[ch]? = some x := ⟨_, List.getElem?_eq_getElem (by rw [hS.len]; exact hcl)⟩
        have hbf := beforeL hS.qu hx hy
        have hhp := hS.qu.heap
        rw [HLL.out] at hhp
        cases hlt : befQ ltI x y with
        | true =>
          rw [hlt] at hbf
          have HF2 : Hid (ch = k ∨ (0 < ch ∧ (ch - 1) / 2 = k)) := Lib.hid (.inr ⟨by omega, by omega⟩)
          have HR2 : Hid (∀ w', Below wr.heap.size wr w' → ChRelL W w' base b p c S l l' T' k ch (ch + 1)) := Lib.hid fun w' hb => ⟨hS.below hb, fun j j0 j1 j2 => by
              by_cases hj : j = ch
              · subst hj; exact fun u v hu hv => by rw [hu] at hv; cases hv; exact HO.out.irr _
              · intro u v hu hv
                rw [hx] at hv; cases hv
                exact HO.out.nle (HO.out.asym hlt) (hL j j0 j1 (by omega) u y hu hy), fun _ => by
              by_cases hfk : f = k
              · subst hfk; exact ⟨y, x, hy, hx, hlt⟩
              · obtain ⟨a, b', ha, hb', hab⟩ := hM hfk
                rw [hy] at hb'; cases hb'
                exact ⟨a, x, ha, hx, HO.out.tra _ _ _ hlt hab⟩, fun u v hu hv => by
              rw [hx] at hv; cases hv
              exact HO.out.nle (HO.out.asym hlt) (hU u y hu hy)⟩
          clear hS hL hM hU hx hy hlt HR HF
          go_wp2_with fail
          refine hbf.mono ?_
          rintro e w1 ⟨rfl, hb1⟩
          have HR3 := Lib.hid (HR2.out w1 hb1)
          clear hbf hhp HR2 hb1
          go_wp2_with fail
          go_roundw
          case rel => exact ⟨ch, ch + 1, rfl, by go_num, by omega, by omega, hcl, HF2, HR3⟩
          case measure => simp [intOf]; omega
        | false =>
          rw [hlt] at hbf
          have HR2 : Hid (∀ w', Below wr.heap.size wr w' → ChRelL W w' base b p c S l l' T' k f (ch + 1)) := Lib.hid fun w' hb => ⟨hS.below hb, fun j j0 j1 j2 => by
              by_cases hj : j = ch
              · subst hj; exact fun u v hu hv => by rw [hx] at hu; rw [hy] at hv; cases hu; cases hv; exact hlt
              · exact hL j j0 j1 (by omega), hM, hU⟩
          clear hS hL hM hU hx hy hlt HR
          go_wp2_with fail
          refine hbf.mono ?_
          rintro e w1 ⟨rfl, hb1⟩
          have HR3 := Lib.hid (HR2.out w1 hb1)
          clear hbf hhp HR2 hb1
          go_wp2_with fail
          go_roundw
          case rel => exact ⟨f, ch + 1, rfl, by go_num, by omega, by omega, hf, HF, HR3⟩
          case measure => simp [intOf]; omega
      · have hmin : ∀ j, 0 < j → (j - 1) / 2 = k → Up (befQ ltI) l' j f := fun j j0 j1 u v hu hv => by
          have hjl := (List.getElem?_eq_some_iff.1 hu).1
          rw [HLL.out] at hjl
          exact hL j j0 j1 (by omega) u v hu hv
        have hhp := hS.qu.heap
        rw [HLL.out] at hhp
        by_cases hfk : f = k
        · subst hfk
          have HX : Hid (∃ l' T', SiftL W wr base b p c S l l' T' ∧ Hp (befQ ltI) l') := Lib.hid ⟨l', T', hS, HDD.out.stay hmin⟩
          clear hS hL hM hU hy HR HF hmin
          rcases Nat.lt_or_ge (2 * f + 2) ch with hc | hc
          · have hc' : decide ((ch : Int) ≤ 2 * (f : Int) + 2) = false := decide_eq_false (by omega)
            clear hin
            go_wp2_with fail
            refine bodyPost_ret (results_none rfl _ _ _) rfl ?_
            exact ⟨rfl, HX.out⟩
          · have hc' : decide ((ch : Int) ≤ 2 * (f : Int) + 2) = true := decide_eq_true (by omega)
            have hcl : l.length ≤ ch := by omega
            clear hin
            go_wp2_with fail
            refine bodyPost_ret (results_none rfl _ _ _) rfl ?_
            exact ⟨rfl, HX.out⟩
        · obtain ⟨x, y', hx, hy', hxy⟩ := hM hfk
          rw [hy] at hy'; cases hy'
          have hkf : k < f := by rcases HF.out with h | h <;> omega
          have HN : Hid (HpD (befQ ltI) (swp l' k f) f) := Lib.hid (by
            rcases HF.out with h | h
            · exact absurd h hfk
            · exact HDD.out.down HO.out h.1 h.2 hx hy hxy hmin)
          have hsw := swapSL hS hx hy
          have hne : ((f : Int) == (k : Int)) = false := by simp; omega
          clear hS hL hM hU hy HR HF hmin hx
          rcases Nat.lt_or_ge (2 * k + 2) ch with hc | hc
          all_goals
            first
              | have hc' : decide ((ch : Int) ≤ 2 * (k : Int) + 2) = false := decide_eq_false (by omega)
              | have hc' : decide ((ch : Int) ≤ 2 * (k : Int) + 2) = true := decide_eq_true (by omega)
            have hcl : ch ≤ 2 * k + 2 → l.length ≤ ch := fun _ => by omega
            clear hin
            go_wp2_with fail
            refine hsw.mono ?_
            rintro e w1 ⟨rfl, T2, hS2⟩
            have HS2 : Hid (DnRelL W w1 base b p c S l f) := Lib.hid ⟨_, T2, hS2, HN.out⟩
            clear hS2 hsw hhp
            go_wp2_with fail
            go_roundw
            case rel => exact ⟨f, rfl, hf, HS2⟩
            case measure => simp [intOf]; omega

set_option maxHeartbeats 1600000 in
set_option maxRecDepth 100000 in
theorem settleL {W : World} {base b : Nat} {p : Option Addr} {c S : Nat} {l : List (Nat × Int)} {T : Nat → Nat} (h : QuL W base b p c S l T) (hp : Pl S l T) {i : Nat} (hw : HpW (befQ ltI) l i) (hi : i < l.length) :
    Calls Try.prog 152 #[.pointer (some ⟨b, 0, none⟩), .int .i64 (i : Nat)] W fun e w' => e = .returned (.tuple #[]) ∧ ∃ l' T', SiftL W w' base b p c S l l' T' ∧ Hp (befQ ltI) l' := by
  have hu := upL h hp hw hi
  clear h hp hw
  go_enter Try.func152, Try.ntmps152
  go_wp2_with fail
  refine hu.mono ?_
  rintro e w1 ⟨rfl, l1, T1, hS, hD⟩
  have hdn := downL hS.qu hS.pl hD (by rw [hS.len]; exact hi)
  have HS := Lib.hid hS
  clear hS hD hu
  go_wp2_with fail
  refine hdn.mono ?_
  rintro e w2 ⟨rfl, l2, T2, hS2, hH⟩
  have HX := Lib.hid (And.intro (HS.out.trans hS2) hH)
  clear hS2 hH hdn HS
  go_wp2_with fail
  go_end0
  exact ⟨rfl, l2, T2, HX.out⟩
end Go.Proofs.Ytpnhklehpilopaa

namespace Go.Proofs.Ytpnhklehpilopaa
open Go Go.RowKit

/-- At block b lies a queue for the ids below S that has just the ids of m, with their priorities; its row starts at p. -/
def PQL (W : World) (base b : Nat) (p : Option Addr) (S : Nat) (m : Nat → Option Int) : Prop :=
  ∃ c l T, QuL W base b p c S l T ∧ Pl S l T ∧ Hp (befQ ltI) l ∧ QM l m

theorem PQL.below {W W' : World} {base b : Nat} {p : Option Addr} {S : Nat} {m : Nat → Option Int} (h : PQL W base b p S m) (hb : Below W.heap.size W W') : PQL W' base b p S m := by
  obtain ⟨c, l, T, h1, h2⟩ := h
  exact ⟨c, l, T, h1.below hb, h2⟩
theorem PQL.lt {W : World} {base b : Nat} {p : Option Addr} {S : Nat} {m : Nat → Option Int} (h : PQL W base b p S m) : b < W.heap.size := by
  obtain ⟨c, l, T, h1, h2⟩ := h
  exact h1.lt
theorem PQL.own {W : World} {base b : Nat} {p : Option Addr} {S : Nat} {m : Nat → Option Int} (h : PQL W base b p S m) {a : Addr} (ha : p = some a) : base ≤ a.block ∧ a.block < W.heap.size ∧ a.block ≠ b := by
  obtain ⟨c, l, T, h1, h2⟩ := h
  exact ⟨(h1.own ha).1, (h1.own ha).2, h1.apart a ha⟩
theorem PQL.size {W : World} {base b : Nat} {p : Option Addr} {S : Nat} {m : Nat → Option Int} (h : PQL W base b p S m) : 1 ≤ S ∧ S ≤ 1024 := by
  obtain ⟨c, l, T, h1, h2⟩ := h
  exact ⟨h1.s1, h1.s2⟩
theorem PQL.low {W : World} {base b : Nat} {p : Option Addr} {S : Nat} {m : Nat → Option Int} (h : PQL W base b p S m) {k : Nat} (hk : S ≤ k) : m k = none := by
  obtain ⟨c, l, T, h1, h2, h3, h4⟩ := h
  exact h4.low h2 hk
theorem PQL.cnt {W : World} {base b : Nat} {p : Option Addr} {S : Nat} {m : Nat → Option Int} (h : PQL W base b p S m) : cntQ S m ≤ 1024 := by
  obtain ⟨c, l, T, h1, h2, h3, h4⟩ := h
  rw [← h4.cnt h2]; exact h1.sm
/-- What leaves the two blocks alone leaves the queue alone. -/
theorem PQL.same {W W' : World} {base b : Nat} {p : Option Addr} {S : Nat} {m : Nat → Option Int} (h : PQL W base b p S m) (hs : W.heap.size ≤ W'.heap.size)
    (hb : W'.heap[b]? = W.heap[b]?) (hr : ∀ a, p = some a → W'.heap[a.block]? = W.heap[a.block]?) : PQL W' base b p S m := by
  obtain ⟨c, l, T, h1, h2⟩ := h
  exact ⟨c, l, T, h1.same hs hb hr, h2⟩

set_option maxHeartbeats 800000 in
set_option maxRecDepth 100000 in
theorem findL {W : World} {base b : Nat} {p : Option Addr} {c S : Nat} {l : List (Nat × Int)} {T : Nat → Nat} (h : QuL W base b p c S l T) {k t : Nat} (hk : k < S) (ht : T k = t + 1) (hb : t < 1024) :
    Calls Try.prog 149 #[.pointer (some ⟨b, 0, none⟩), .int .i64 (k : Nat)] W fun e w' => e = .returned (.tuple #[.int .i64 (t : Nat), .bool true]) ∧ w' = W := by
  have hc := checkL h k hk
  have hS := h.s2
  have hpl := h.place (k := k) (by omega)
  rw [ht, show ((t + 1 : Nat) : Int) = (t : Int) + 1 by omega] at hpl
  have h0 : (0 : Int) ≤ (k : Int) := by omega
  have h1 : (k : Int) < 1024 := by omega
  have h2 : ((t : Int) + 1 == 0) = false := by simp; omega
  clear h ht
  go_enter Try.func149, Try.ntmps149
  go_wp2_with fail
  refine hc.mono ?_
  rintro e w' ⟨rfl, rfl⟩
  go_wp2_with fail
  go_ret2
  exact ⟨rfl, rfl⟩

set_option maxHeartbeats 800000 in
set_option maxRecDepth 100000 in
theorem findNoL {W : World} {base b : Nat} {p : Option Addr} {c S : Nat} {l : List (Nat × Int)} {T : Nat → Nat} (h : QuL W base b p c S l T) {k : Nat} (hk : k < S) (ht : T k = 0) :
    Calls Try.prog 149 #[.pointer (some ⟨b, 0, none⟩), .int .i64 (k : Nat)] W fun e w' => e = .returned (.tuple #[.int .i64 0, .bool false]) ∧ w' = W := by
  have hc := checkL h k hk
  have hS := h.s2
  have hpl := h.place (k := k) (by omega)
  rw [ht, show ((0 : Nat) : Int) = 0 from rfl] at hpl
  have h0 : (0 : Int) ≤ (k : Int) := by omega
  have h1 : (k : Int) < 1024 := by omega
  clear h ht
  go_enter Try.func149, Try.ntmps149
  go_wp2_with fail
  refine hc.mono ?_
  rintro e w' ⟨rfl, rfl⟩
  go_wp2_with fail
  go_ret2
  exact ⟨rfl, rfl⟩

set_option maxHeartbeats 800000 in
set_option maxRecDepth 100000 in
theorem findBadL {W : World} {base b : Nat} {p : Option Addr} {c S : Nat} {l : List (Nat × Int)} {T : Nat → Nat} (h : QuL W base b p c S l T) {k : Int} (hk : k < 0 ∨ (S : Int) ≤ k) :
    Calls Try.prog 149 #[.pointer (some ⟨b, 0, none⟩), .int .i64 k] W fun e w' => e = .returned (.tuple #[.int .i64 0, .bool false]) ∧ w' = W := by
  have hc := checkBadL h k hk
  clear h hk
  go_enter Try.func149, Try.ntmps149
  go_wp2_with fail
  refine hc.mono ?_
  rintro e w' ⟨rfl, rfl⟩
  go_wp2_with fail
  go_ret2
  exact ⟨rfl, rfl⟩

set_option maxHeartbeats 800000 in
set_option maxRecDepth 100000 in
theorem priorityL {W : World} {base b : Nat} {p : Option Addr} {S : Nat} {m : Nat → Option Int} (h : PQL W base b p S m) {k : Nat} {v : Int} (hk : m k = some v) :
    Calls Try.prog 65 #[.pointer (some ⟨b, 0, none⟩), .int .i64 (k : Nat)] W fun e w' => e = .returned (.tuple #[Value.int .i64 v, .bool true]) ∧ w' = W := by
  obtain ⟨c, l, T, hQ, hP, hH, hM⟩ := h
  obtain ⟨ht, hkS, hx⟩ := hM.get hP hk
  obtain ⟨t, ht'⟩ : ∃ t, T k = t + 1 := ⟨T k - 1, by omega⟩
  rw [ht', Nat.add_sub_cancel] at hx
  have htl : t < l.length := (List.getElem?_eq_some_iff.1 hx).1
  have hsm := hQ.sm
  have hf := findL hQ hkS ht' (by omega)
  obtain ⟨g, rfl, hc, _, hv⟩ := hQ.at hx
  have hp := hQ.heap
  have h0 : (0 : Int) ≤ (t : Int) := by omega
  have h1 : (t : Int) < (l.length : Int) := by omega
  generalize l.length = n at *
  clear hQ hP hH hM hx ht ht' hk
  go_enter Try.func65, Try.ntmps65
  go_wp2_with fail
  refine hf.mono ?_
  rintro e w' ⟨rfl, rfl⟩
  go_wp2_with fail
  go_ret2
  exact ⟨rfl, rfl⟩

set_option maxHeartbeats 800000 in
set_option maxRecDepth 100000 in
theorem priorityNoL {W : World} {base b : Nat} {p : Option Addr} {S : Nat} {m : Nat → Option Int} (h : PQL W base b p S m) (k : Int) (hk : 0 ≤ k → m k.toNat = none) :
    Calls Try.prog 65 #[.pointer (some ⟨b, 0, none⟩), .int .i64 k] W fun e w' => e = .returned (.tuple #[.int .i64 0, .bool false]) ∧ w' = W := by
  obtain ⟨c, l, T, hQ, hP, hH, hM⟩ := h
  have hf : Calls Try.prog 149 #[.pointer (some ⟨b, 0, none⟩), .int .i64 k] W fun e w' => e = .returned (.tuple #[.int .i64 0, .bool false]) ∧ w' = W := by
    by_cases hr : k < 0 ∨ (S : Int) ≤ k
    · exact findBadL hQ hr
    · obtain ⟨k', rfl⟩ : ∃ k' : Nat, k = k' := ⟨k.toNat, by omega⟩
      exact findNoL hQ (by omega) (hM.absent hP (by simpa using hk (by omega)))
  clear hQ hP hH hM hk
  go_enter Try.func65, Try.ntmps65
  go_wp2_with fail
  refine hf.mono ?_
  rintro e w' ⟨rfl, rfl⟩
  go_wp2_with fail
  go_ret2
  exact ⟨rfl, rfl⟩

set_option maxHeartbeats 800000 in
set_option maxRecDepth 100000 in
theorem lenLL {W : World} {base b : Nat} {p : Option Addr} {c S : Nat} {l : List (Nat × Int)} {T : Nat → Nat} (h : QuL W base b p c S l T) :
    Calls Try.prog 67 #[.pointer (some ⟨b, 0, none⟩)] W fun e w' => e = .returned (.int .i64 (l.length : Nat)) ∧ w' = W := by
  have hv := validL h
  have hp := h.heap
  clear h
  generalize l.length = n at *
  go_enter Try.func67, Try.ntmps67
  go_wp2_with fail
  refine hv.mono ?_
  rintro e w' ⟨rfl, rfl⟩
  go_wp2_with fail
  go_ret
  exact ⟨rfl, rfl⟩

theorem lenL {W : World} {base b : Nat} {p : Option Addr} {S : Nat} {m : Nat → Option Int} (h : PQL W base b p S m) :
    Calls Try.prog 67 #[.pointer (some ⟨b, 0, none⟩)] W fun e w' => e = .returned (.int .i64 (cntQ S m : Nat)) ∧ w' = W := by
  obtain ⟨c, l, T, hQ, hP, hH, hM⟩ := h
  have := lenLL hQ
  rwa [hM.cnt hP] at this

/-- The id that comes first. -/
def FstL (m : Nat → Option Int) (x : Nat × Int) : Prop := m x.1 = some x.2 ∧ ∀ k v, m k = some v → befQ ltI (k, v) x = false

theorem PQL.fst {W : World} {base b : Nat} {p : Option Addr} {S : Nat} {m : Nat → Option Int} (h : PQL W base b p S m) : (∃ x, FstL m x) ∨ ∀ k, m k = none := by
  obtain ⟨c, l, T, hQ, hP, hH, hM⟩ := h
  cases hl : l[0]? with
  | some x => exact .inl ⟨x, hM.first ordI hH hl⟩
  | none =>
    have : l = [] := by simpa using hl
    subst this
    refine .inr fun k => ?_
    cases hk : m k with
    | none => rfl
    | some v => have := (hM (k, v)).2 hk; cases this

theorem fst_headL {S : Nat} {l : List (Nat × Int)} {T : Nat → Nat} {m : Nat → Option Int} (hM : QM l m) (hH : Hp (befQ ltI) l) {x : Nat × Int} (hx : FstL m x) : l[0]? = some x := by
  cases hl : l[0]? with
  | some y => rw [first_one ordI (hM.first ordI hH hl) hx]
  | none =>
    have : l = [] := by simpa using hl
    subst this
    have := (hM x).2 hx.1; cases this

set_option maxHeartbeats 800000 in
set_option maxRecDepth 100000 in
theorem peekL {W : World} {base b : Nat} {p : Option Addr} {S : Nat} {m : Nat → Option Int} (h : PQL W base b p S m) {x : Nat × Int} (hx : FstL m x) :
    Calls Try.prog 66 #[.pointer (some ⟨b, 0, none⟩)] W fun e w' => e = .returned (.tuple #[.int .i64 (x.1 : Nat), Value.int .i64 x.2, .bool true]) ∧ Below W.heap.size W w' := by
  obtain ⟨c, l, T, hQ, hP, hH, hM⟩ := h
  have h0 := fst_headL (S := S) (T := T) hM hH hx
  have hln := lenLL hQ
  have hll : 0 < l.length := (List.getElem?_eq_some_iff.1 h0).1
  obtain ⟨g, rfl, hc, hi, hv⟩ := hQ.at h0
  rw [Nat.zero_mul] at hi hv
  rw [Nat.zero_add] at hv
  have hp := hQ.heap
  generalize l.length = n at *
  obtain ⟨xi, xp⟩ := x
  clear hQ hP hH hM hx h0
  have h1 : (0 : Int) < (n : Int) := by omega
  have h2 : ((n : Int) == 0) = false := by simp; omega
  go_enter Try.func66, Try.ntmps66
  go_wp2_with fail
  refine hln.mono ?_
  rintro e w' ⟨rfl, rfl⟩
  go_wp2_with fail
  go_quiet (fail)
  go_wp2_with fail
  go_ret3
  exact ⟨rfl, Below.drewN' _ (Below.refl _ _)⟩

set_option maxHeartbeats 800000 in
set_option maxRecDepth 100000 in
theorem peekNoL {W : World} {base b : Nat} {p : Option Addr} {S : Nat} {m : Nat → Option Int} (h : PQL W base b p S m) (hx : ∀ k, m k = none) :
    Calls Try.prog 66 #[.pointer (some ⟨b, 0, none⟩)] W fun e w' => e = .returned (.tuple #[.int .i64 0, .int .i64 0, .bool false]) ∧ Below W.heap.size W w' := by
  have hln := lenL h
  have hz : cntQ S m = 0 := by
    unfold cntQ
    rw [List.countP_eq_zero]
    intro k _
    rw [hx k]; simp
  rw [hz, show ((0 : Nat) : Int) = 0 from rfl] at hln
  clear h hx hz
  go_enter Try.func66, Try.ntmps66
  go_wp2_with fail
  refine hln.mono ?_
  rintro e w' ⟨rfl, rfl⟩
  go_wp2_with fail
  go_quiet (fail)
  go_wp2_with fail
  go_ret3
  exact ⟨rfl, Below.drewN' _ ((Below.refl _ _).alloc (Nat.le_refl _) _)⟩
end Go.Proofs.Ytpnhklehpilopaa
