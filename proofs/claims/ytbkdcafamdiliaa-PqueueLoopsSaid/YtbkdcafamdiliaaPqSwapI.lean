/- Two items compared and exchanged; an item goes up, goes down. -/
import Derived.Test.YtbkdcafamdiliaaPqCmpI
import Derived.Test.YtbkdcafamdiliaaPqCmpI
import Derived.Test.YtbkdcafamdiliaaPqOr
import Derived.StillTailTactics
import Derived.Deep.LoopGhost
import Derived.BigRegion
import Derived.Lib.Hide
namespace Go.Proofs.Ytbkdcafamdiliaa
open Go Go.RowKit

set_option maxHeartbeats 1600000 in
set_option maxRecDepth 100000 in
theorem beforeI {W : World} {base b : Nat} {p : Option Addr} {c S : Nat} {l : List (Nat × Int)} {T : Nat → Nat} (h : QuI W base b p c S l T) {i j : Nat} {x y : Nat × Int} (hx : l[i]? = some x) (hy : l[j]? = some y) :
    Calls Try.prog 234 #[.pointer (some ⟨b, 0, none⟩), .int .i64 (i : Nat), .int .i64 (j : Nat)] W fun e w' => e = .returned (.bool (befQ ltI x y)) ∧ Below W.heap.size W w' := by
  obtain ⟨g, rfl, hc, hi0, hi1⟩ := h.at hx
  obtain ⟨g', hg', _, hj0, hj1⟩ := h.at hy
  injection hg' with hg'
  injection hg' with hg'
  subst hg'
  have hp := h.heap
  have hil : i < l.length := (List.getElem?_eq_some_iff.1 hx).1
  have hjl : j < l.length := (List.getElem?_eq_some_iff.1 hy).1
  have hsm := h.sm
  rw [← orV_bef ordI x y]
  have hbl := h.lt
  have hgl : g < W.heap.size := (h.own rfl).2
  have hA : ∀ (k o : Nat) (O : Obj), k < W.heap.size → (W.alloc O).cell? ⟨k, o, none⟩ = W.cell? ⟨k, o, none⟩ := fun k o O hk => by simp only [World.cell?, Below.heap_alloc W O k hk]
  have hAA : ∀ (k o : Nat) (O O' : Obj), k < W.heap.size → ((W.alloc O).alloc O').cell? ⟨k, o, none⟩ = W.cell? ⟨k, o, none⟩ := fun k o O O' hk => by simp only [World.cell?, Below.heap_alloc (W.alloc O) O' k (by simp; omega), Below.heap_alloc W O k hk]
  have p1 := fun O => (hA b 2 O hbl).trans hp
  have p2 := fun O O' => (hAA b 2 O O' hbl).trans hp
  have p3 := fun O => (hA g (i * 2) O hgl).trans hi0
  have p4 := fun O O' => (hAA g (i * 2) O O' hgl).trans hi0
  have p5 := fun O => (hA g (i * 2 + 1) O hgl).trans hi1
  have p6 := fun O O' => (hAA g (i * 2 + 1) O O' hgl).trans hi1
  have p7 := fun O => (hA g (j * 2) O hgl).trans hj0
  have p8 := fun O O' => (hAA g (j * 2) O O' hgl).trans hj0
  have p9 := fun O => (hA g (j * 2 + 1) O hgl).trans hj1
  have pA := fun O O' => (hAA g (j * 2 + 1) O O' hgl).trans hj1
  clear h hx hy hA hAA
  generalize l.length = n at *
  obtain ⟨xi, xp⟩ := x
  obtain ⟨yi, yp⟩ := y
  have h0 : (0 : Int) ≤ (i : Int) := by omega
  have h1 : (i : Int) < (n : Int) := by omega
  have h2 : (0 : Int) ≤ (j : Int) := by omega
  have h3 : (j : Int) < (n : Int) := by omega
  have hc1 := cmpI xp yp
  have hc2 := cmpI (xi : Int) (yi : Int)
  have HO := Lib.hid (fun B => or2_any B (cmpV ltI xp yp) (cmpV ltI (xi : Int) (yi : Int)))
  generalize hv1 : cmpV ltI xp yp = v1 at *
  generalize hv2 : cmpV ltI (xi : Int) (yi : Int) = v2 at *
  have HC := Lib.hid (And.intro hc1 hc2)
  clear hv1 hv2 hc1 hc2
  go_enter Try.func234, Try.ntmps234
  go_wp2_with fail
  go_region
  all_goals
    clear p1 p2 p3 p4 p5 p6 p7 p8 p9 pA hp hi0 hi1 hj0 hj1
  · have k0 := heap_alloc_new (W.alloc (Obj.cells #[Value.int IntKind.i64 (xi : Nat), Value.int .i64 xp] 261)) (Obj.cells #[Value.int IntKind.i64 (yi : Nat), Value.int .i64 yp] 261)
    have k1 : ((W.alloc (Obj.cells #[Value.int IntKind.i64 (xi : Nat), Value.int .i64 xp] 261)).alloc (Obj.cells #[Value.int IntKind.i64 (yi : Nat), Value.int .i64 yp] 261)).heap[W.heap.size]? = some (Obj.cells #[Value.int IntKind.i64 (xi : Nat), Value.int .i64 xp] 261) := by rw [Below.heap_alloc _ _ _ (by simp)]; exact heap_alloc_new W _
    rw [World.size_alloc] at k0
    have hB1 : Below W.heap.size W (((W.alloc (Obj.cells #[Value.int IntKind.i64 (xi : Nat), Value.int .i64 xp] 261)).alloc (Obj.cells #[Value.int IntKind.i64 (yi : Nat), Value.int .i64 yp] 261)).drew).drew := (((Below.refl _ W).alloc (Nat.le_refl _) _).alloc (by simp) _).drew.drew
    have q1 : (((W.alloc (Obj.cells #[Value.int IntKind.i64 (xi : Nat), Value.int .i64 xp] 261)).alloc (Obj.cells #[Value.int IntKind.i64 (yi : Nat), Value.int .i64 yp] 261)).drew).drew.cell? ⟨W.heap.size, 0, none⟩ = some (Value.int .i64 (xi : Nat)) := by simp only [World.cell?, World.drew, k1]; rfl
    have q2 : (((W.alloc (Obj.cells #[Value.int IntKind.i64 (xi : Nat), Value.int .i64 xp] 261)).alloc (Obj.cells #[Value.int IntKind.i64 (yi : Nat), Value.int .i64 yp] 261)).drew).drew.cell? ⟨W.heap.size, 1, none⟩ = some (Value.int .i64 xp) := by simp only [World.cell?, World.drew, k1]; rfl
    have q3 : (((W.alloc (Obj.cells #[Value.int IntKind.i64 (xi : Nat), Value.int .i64 xp] 261)).alloc (Obj.cells #[Value.int IntKind.i64 (yi : Nat), Value.int .i64 yp] 261)).drew).drew.cell? ⟨W.heap.size + 1, 0, none⟩ = some (Value.int .i64 (yi : Nat)) := by simp only [World.cell?, World.drew, k0]; rfl
    have q4 : (((W.alloc (Obj.cells #[Value.int IntKind.i64 (xi : Nat), Value.int .i64 xp] 261)).alloc (Obj.cells #[Value.int IntKind.i64 (yi : Nat), Value.int .i64 yp] 261)).drew).drew.cell? ⟨W.heap.size + 1, 1, none⟩ = some (Value.int .i64 yp) := by simp only [World.cell?, World.drew, k0]; rfl
    clear k0 k1
    generalize (((W.alloc (Obj.cells #[Value.int IntKind.i64 (xi : Nat), Value.int .i64 xp] 261)).alloc (Obj.cells #[Value.int IntKind.i64 (yi : Nat), Value.int .i64 yp] 261)).drew) = W1 at *
    go_wp2_with fail
    refine wp_region_still_tail 10 (by kernel_rfl) (by kernel_rfl) ?_
    simp only [List.take_succ_cons, List.take_zero, List.drop_succ_cons, List.drop_zero]
    rw [show (({ heap := W1.heap, tape := W1.tape, drawn := W1.drawn + 1, os := W1.os, output := W1.output } : World)) = W1.drew from rfl]
    generalize W1.drew = W2 at *
    still_step
    still_step
    still_step
    still_step
    still_call (HC.out.1 W2)
    still_step
    still_step
    still_step
    still_step
    still_call (HC.out.2 W2)
    refine wpStill_nil ?_
    clear q1 q2 q3 q4
    have hcell := heap_alloc_new W2 (Obj.cells #[Value.int .i64 v1, Value.int .i64 v2] 3)
    have ho := HO.out W2.heap.size (W2.alloc (Obj.cells #[Value.int .i64 v1, Value.int .i64 v2] 3)) (by simp only [World.cell?, hcell]; rfl) (by simp only [World.cell?, hcell]; rfl)
    have hB2 := hB1.alloc hB1.size (Obj.cells #[Value.int .i64 v1, Value.int .i64 v2] 3)
    clear hcell hB1
    go_wp2_with fail
    refine ho.mono ?_
    rintro e w' ⟨rfl, rfl⟩
    go_wp2_with fail
    go_ret
    exact ⟨rfl, hB2⟩
  · have k0 := heap_alloc_new (W.alloc (Obj.cells #[Value.int IntKind.i64 (yi : Nat), Value.int .i64 yp] 261)) (Obj.cells #[Value.int IntKind.i64 (xi : Nat), Value.int .i64 xp] 261)
    have k1 : ((W.alloc (Obj.cells #[Value.int IntKind.i64 (yi : Nat), Value.int .i64 yp] 261)).alloc (Obj.cells #[Value.int IntKind.i64 (xi : Nat), Value.int .i64 xp] 261)).heap[W.heap.size]? = some (Obj.cells #[Value.int IntKind.i64 (yi : Nat), Value.int .i64 yp] 261) := by rw [Below.heap_alloc _ _ _ (by simp)]; exact heap_alloc_new W _
    rw [World.size_alloc] at k0
    have hB1 : Below W.heap.size W (((W.alloc (Obj.cells #[Value.int IntKind.i64 (yi : Nat), Value.int .i64 yp] 261)).alloc (Obj.cells #[Value.int IntKind.i64 (xi : Nat), Value.int .i64 xp] 261)).drew).drew := (((Below.refl _ W).alloc (Nat.le_refl _) _).alloc (by simp) _).drew.drew
    have q1 : (((W.alloc (Obj.cells #[Value.int IntKind.i64 (yi : Nat), Value.int .i64 yp] 261)).alloc (Obj.cells #[Value.int IntKind.i64 (xi : Nat), Value.int .i64 xp] 261)).drew).drew.cell? ⟨W.heap.size + 1, 0, none⟩ = some (Value.int .i64 (xi : Nat)) := by simp only [World.cell?, World.drew, k0]; rfl
    have q2 : (((W.alloc (Obj.cells #[Value.int IntKind.i64 (yi : Nat), Value.int .i64 yp] 261)).alloc (Obj.cells #[Value.int IntKind.i64 (xi : Nat), Value.int .i64 xp] 261)).drew).drew.cell? ⟨W.heap.size + 1, 1, none⟩ = some (Value.int .i64 xp) := by simp only [World.cell?, World.drew, k0]; rfl
    have q3 : (((W.alloc (Obj.cells #[Value.int IntKind.i64 (yi : Nat), Value.int .i64 yp] 261)).alloc (Obj.cells #[Value.int IntKind.i64 (xi : Nat), Value.int .i64 xp] 261)).drew).drew.cell? ⟨W.heap.size, 0, none⟩ = some (Value.int .i64 (yi : Nat)) := by simp only [World.cell?, World.drew, k1]; rfl
    have q4 : (((W.alloc (Obj.cells #[Value.int IntKind.i64 (yi : Nat), Value.int .i64 yp] 261)).alloc (Obj.cells #[Value.int IntKind.i64 (xi : Nat), Value.int .i64 xp] 261)).drew).drew.cell? ⟨W.heap.size, 1, none⟩ = some (Value.int .i64 yp) := by simp only [World.cell?, World.drew, k1]; rfl
    clear k0 k1
    generalize (((W.alloc (Obj.cells #[Value.int IntKind.i64 (yi : Nat), Value.int .i64 yp] 261)).alloc (Obj.cells #[Value.int IntKind.i64 (xi : Nat), Value.int .i64 xp] 261)).drew) = W1 at *
    go_wp2_with fail
    refine wp_region_still_tail 10 (by kernel_rfl) (by kernel_rfl) ?_
    simp only [List.take_succ_cons, List.take_zero, List.drop_succ_cons, List.drop_zero]
    rw [show (({ heap := W1.heap, tape := W1.tape, drawn := W1.drawn + 1, os := W1.os, output := W1.output } : World)) = W1.drew from rfl]
    generalize W1.drew = W2 at *
    still_step
    still_step
    still_step
    still_step
    still_call (HC.out.1 W2)
    still_step
    still_step
    still_step
    still_step
    still_call (HC.out.2 W2)
    refine wpStill_nil ?_
    clear q1 q2 q3 q4
    have hcell := heap_alloc_new W2 (Obj.cells #[Value.int .i64 v1, Value.int .i64 v2] 3)
    have ho := HO.out W2.heap.size (W2.alloc (Obj.cells #[Value.int .i64 v1, Value.int .i64 v2] 3)) (by simp only [World.cell?, hcell]; rfl) (by simp only [World.cell?, hcell]; rfl)
    have hB2 := hB1.alloc hB1.size (Obj.cells #[Value.int .i64 v1, Value.int .i64 v2] 3)
    clear hcell hB1
    go_wp2_with fail
    refine ho.mono ?_
    rintro e w' ⟨rfl, rfl⟩
    go_wp2_with fail
    go_ret
    exact ⟨rfl, hB2⟩
end Go.Proofs.Ytbkdcafamdiliaa
