/- Next and Lowest. -/
import Derived.Test.YtejkbanecbjdoaaSsAll
import Derived.RangeFuncBox
namespace Go.Proofs.Ytejkbanecbjdoaa
open Go Go.RowKit

theorem boxed_new (W : World) (t : TypeId) (v : Value) : Boxed (W.alloc (.cells #[v] t)) W.heap.size t v := Boxed.new _ _ _
theorem boxed_at {W : World} {n : Nat} (h : W.heap.size = n) (t : TypeId) (v : Value) : Boxed (W.alloc (.cells #[v] t)) n t v := by
  subst h; exact Boxed.new _ _ _
theorem boxed_below {W W' : World} {B N : Nat} {t : TypeId} {v : Value} (h : Boxed W B t v) (hb : Below N W W') (hB : B < N) : Boxed W' B t v := (hb.block _ hB).trans h
theorem own_boxed {lo hi B : Nat} {A C : World} {t : TypeId} {v : Value} (h : Boxed A B t v) (ho : OwnStep lo hi A C) (hB : B < lo) : Boxed C B t v := (ho.block _ h.lt (.inl hB)).trans h
theorem own_below {lo hi N : Nat} {X A C : World} (h : Below N X A) (ho : OwnStep lo hi A C) (hN : N ≤ lo) (hX : N ≤ X.heap.size) : Below N X C := h.trans ⟨ho.os, ho.tape, ho.output, ho.size, fun k hk => ho.block k (by have := h.size; omega) (.inl (by omega))⟩
theorem boxed_other {W : World} {B B' : Nat} {t : TypeId} {v u : Value} (h : Boxed W B t v) (hne : B ≠ B') : Boxed (W.setCell ⟨B', 0, none⟩ u) B t v := (Below.heap_setCell _ _ _ _ hne).trans h

theorem boxed_put {W : World} {B D : Nat} {t : TypeId} {v : Value} (o : Obj) (h : Boxed W B t v) (hne : B ≠ D) : Boxed (W.putObj D o) B t v := (World.putObj_heap_other hne).trans h
theorem keepsIn_set {lo hi B : Nat} (W : World) (v : Value) (h : B < lo ∨ hi ≤ B) : KeepsIn lo hi W (W.setCell ⟨B, 0, none⟩ v) := ⟨rfl, by simp [World.setCell], fun k h1 h2 _ => Below.heap_setCell _ _ _ _ (by show k ≠ B; omega)⟩

attribute [local go_sem] Oper.semAt_some

/-- The first member that is not below i. -/
def nxt (l : List Nat) (i : Int) : Option Nat := l.find? (fun x => decide (i ≤ (x : Int)))

theorem nxt_take {l : List Nat} {i : Int} {k x : Nat} (h : nxt (l.take k) i = none) (hx : l[k]? = some x) : nxt (l.take (k + 1)) i = if i ≤ (x : Int) then some x else none := by
  unfold nxt at *
  rw [takeSucc hx, List.find?_append, h]
  by_cases hi : i ≤ (x : Int) <;> simp [hi]

theorem nxt_of_take {l : List Nat} {i : Int} {k x : Nat} (h : nxt (l.take k) i = some x) : nxt l i = some x := by
  unfold nxt at *
  rw [← List.take_append_drop k l, List.find?_append, h]
  rfl

set_option maxHeartbeats 4000000 in
set_option maxRecDepth 100000 in
theorem nextS_in (n : Nat) (hn : 6 ≤ n) {b N : Nat} {f : Nat → Bool} (i : Int) (w : World) (hS : SetAt w b N f) :
    CallsIn Fence.wide n Try.prog 25 #[.pointer (some ⟨b, 0, none⟩), .int .i64 i] w fun e w' => e = .returned (.tuple #[.int .i64 ((nxt (els N f) i).getD 0 : Nat), .bool (nxt (els N f) i).isSome]) ∧ Below w.heap.size w w' := by
  have h1 : 1 ≤ n := by omega
  obtain ⟨l, hl⟩ : ∃ l, l = els N f := ⟨_, rfl⟩
  obtain ⟨S, hSz⟩ : ∃ S, S = w.heap.size := ⟨_, rfl⟩
  obtain ⟨WR, hWR⟩ : ∃ WR, WR = (((w.alloc (.cells #[.int .i64 i] 3)).alloc (.cells #[.int .i64 0] 3)).alloc (.cells #[.bool false] 4)).alloc (.cells #[.pointer (some ⟨b, 0, none⟩)] 27) := ⟨_, rfl⟩
  have hb : Below w.heap.size w WR := by rw [hWR]; exact ((((Below.refl _ _).alloc (Nat.le_refl _) _).alloc (by simp) _).alloc (by simp; omega) _).alloc (by simp; omega) _
  have b0 : Boxed WR S 3 (.int .i64 i) := by rw [hWR]; exact (((boxed_at hSz.symm _ _).alloc _).alloc _).alloc _
  have b1 : Boxed WR (S + 1) 3 (.int .i64 0) := by rw [hWR]; exact ((boxed_at (by simp [hSz]) _ _).alloc _).alloc _
  have b2 : Boxed WR (S + 1 + 1) 4 (.bool false) := by rw [hWR]; exact (boxed_at (by simp [hSz]) _ _).alloc _
  have b3 : Boxed WR (S + 1 + 1 + 1) 27 (.pointer (some ⟨b, 0, none⟩)) := by rw [hWR]; exact boxed_at (by simp [hSz]) _ _
  have hsR : WR.heap.size = S + 1 + 1 + 1 + 1 := by rw [hWR, hSz]; simp
  have hseq := allSeqS (n - 1) (by omega) (S + 1 + 1 + 1) WR b3.cell (hS.below hb)
  rw [← hl] at hseq ⊢
  have HSEQ := Lib.hid hseq
  have HSR := Lib.hid hsR
  have HB0 := Lib.hid b0
  have HB1 := Lib.hid b1
  have HB2 := Lib.hid b2
  have HB := Lib.hid hb
  have HSZ := Lib.hid hSz
  clear hseq hsR b0 b1 b2 b3 hb hS hl
  refine callsIn_of_wp_marks Try.func25 rfl trivial ?_ rfl
  simp only [Try.ntmps25, List.size_toArray, List.length_nil, Array.size_empty, List.length_cons, Nat.reduceAdd, Nat.reduceSub, Array.replicate_succ, Array.replicate_zero, List.push_toArray, List.append_toArray, List.nil_append, List.cons_append, Array.empty_append]
  gi_wp2_with fail
  refine ⟨trivial, (callsIn_wide.2 (allMakeS _ _)).mono ?_⟩
  rintro e V1 ⟨rfl, rfl⟩
  gi_wp2_with fail
  rename_i Kd hKd
  rw [← hWR, ← hSz]
  clear hWR hSz
  refine rangeN (encs := fun i => #[Value.int .i64 (nth l i : Nat)]) (fun x T => ((T.setIfInBounds 9 (.int .i64 (nth l x : Nat))).setIfInBounds 6 (.int .i64 (nth l x : Nat)))) rfl h1 (gf := 50) (lb := #[.pointer (some ⟨S + 1 + 1 + 1, 0, none⟩)]) rfl trivial (enters_of Try.func50 (by kernel_rfl) rfl)
    HSEQ.out (Below.refl _ _) (fun _ => rfl)
    (fun k W => Boxed W S 3 (.int .i64 i) ∧ Boxed W (S + 1) 3 (.int .i64 0) ∧ Boxed W (S + 1 + 1) 4 (.bool false) ∧ Below S WR W ∧ nxt (l.take k) i = none)
    (fun c _ W => c = .ret ∧ ∃ x, nxt l i = some x ∧ Boxed W (S + 1) 3 (.int .i64 (x : Nat)) ∧ Boxed W (S + 1 + 1) 4 (.bool true) ∧ Below S WR W)
    (fun s A C h ho => by
      have hz := HSR.out
      exact ⟨own_boxed h.1 ho (by omega), own_boxed h.2.1 ho (by omega), own_boxed h.2.2.1 ho (by omega), own_below h.2.2.2.1 ho (by omega) (by omega), h.2.2.2.2⟩)
    (fun c s A C h ho => by
      have hz := HSR.out
      obtain ⟨h0, x, h1, h2, h3, h4⟩ := h
      exact ⟨h0, x, h1, own_boxed h2 ho (by omega), own_boxed h3 ho (by omega), own_below h4 ho (by omega) (by omega)⟩)
    (fun A hA => by
      have hz := HSR.out
      exact ⟨boxed_below HB0.out hA (by omega), boxed_below HB1.out hA (by omega), boxed_below HB2.out hA (by omega), hA.mono (by omega), rfl⟩) ?assign ?body ?done ?stop
  case assign =>
    intro lr x W K hK
    gi_wp2
    exact hK
  case body =>
    rintro lr x W ⟨hb0, hb1, hb2, hbW, hnx⟩ hlt hsz
    obtain ⟨y, hy⟩ : ∃ y, l[x]? = some y := ⟨_, List.getElem?_eq_getElem hlt⟩
    have hd : nth l x = y := nth_at hy
    have hnx2 := nxt_take hnx hy
    have c0 := hb0.cell
    have c1 := hb1.cell
    have f1 := hb1.frozen
    have c2 := hb2.cell
    have f2 := hb2.frozen
    have HBB := Lib.hid (And.intro hb0 (And.intro hb1 (And.intro hb2 hbW)))
    have HY := Lib.hid hy
    have hz := HSR.out
    clear hb0 hb1 hb2 hbW hnx hy
    simp only [hd, List.setIfInBounds_toArray, List.set_cons_succ, List.set_cons_zero]
    clear hd
    by_cases hi : i ≤ (y : Int)
    · rw [if_pos hi] at hnx2
      have HNX := Lib.hid (nxt_of_take hnx2)
      have hdi : decide (i ≤ (y : Int)) = true := decide_eq_true hi
      clear hnx2
      gi_wp2_with fail
      obtain ⟨hb0, hb1, hb2, hbW⟩ := HBB.out
      refine ⟨(keepsIn_set _ _ (.inl (by omega))).trans (keepsIn_set _ _ (.inl (by omega))), rfl, y, HNX.out, boxed_other (hb1.set _) (by omega), (boxed_other hb2 (by omega)).set _, ?_⟩
      exact (hbW.setCell (p := ⟨S + 1, 0, none⟩) (by show S ≤ S + 1; omega) _).setCell (p := ⟨S + 1 + 1, 0, none⟩) (by show S ≤ S + 1 + 1; omega) _
    · rw [if_neg hi] at hnx2
      have HNX := Lib.hid hnx2
      have hdi : decide (i ≤ (y : Int)) = false := decide_eq_false hi
      clear hnx2
      gi_wp2_with fail
      obtain ⟨hb0, hb1, hb2, hbW⟩ := HBB.out
      exact ⟨KeepsIn.refl _ _ _, hb0, hb1, hb2, hbW, HNX.out⟩
  case done =>
    rintro D W hD ⟨hb0, hb1, hb2, hbW, hnx⟩ hK
    have c1 := hb1.cell
    have f1 := hb1.frozen
    have c2 := hb2.cell
    have f2 := hb2.frozen
    refine hKd _ _ ?_
    gi_wp2_with fail
    have hz := HSR.out
    have hS := HSZ.out
    have hKlt := (Array.getElem?_eq_some_iff.1 hK).1
    obtain ⟨X, hX⟩ : ∃ X, X = (W.setCell ⟨S + 1, 0, none⟩ (.int .i64 0)).setCell ⟨S + 1 + 1, 0, none⟩ (.bool false) := ⟨_, rfl⟩
    have hb1' : Boxed X (S + 1) 3 (.int .i64 0) := by rw [hX]; exact boxed_other (hb1.set _) (by omega)
    have hb2' : Boxed X (S + 1 + 1) 4 (.bool false) := by rw [hX]; exact (boxed_other hb2 (by omega)).set _
    have hbX : Below S W X := by rw [hX]; exact ((Below.refl _ _).setCell (p := ⟨S + 1, 0, none⟩) (by show S ≤ S + 1; omega) _).setCell (p := ⟨S + 1 + 1, 0, none⟩) (by show S ≤ S + 1 + 1; omega) _
    have hKX : X.heap[D]? = some (.deferred (some [])) := by
      rw [hX]; exact (Below.heap_setCell _ _ _ _ (by show D ≠ S + 1 + 1; omega)).trans ((Below.heap_setCell _ _ _ _ (by show D ≠ S + 1; omega)).trans hK)
    rw [← hX]
    have r1 := (boxed_put (D := D) (.deferred none) hb1' (by omega)).cell
    have r2 := (boxed_put (D := D) (.deferred none) hb2' (by omega)).cell
    rw [List.take_length] at hnx
    refine ⟨by simp, .inl ⟨_, _, rfl, run_takeDeferred hKX, ?_⟩⟩
    refine ⟨.tuple #[.int .i64 0, .bool false], ?_, by rw [hnx]; rfl, ?_⟩
    · simp [results, Try.f25, go_sem, r1, r2]
    · rw [← hS]
      have hb := (((hS ▸ HB.out : Below S w WR).trans hbW).trans hbX)
      exact hb.trans ⟨rfl, rfl, rfl, by simp, fun k hk => World.putObj_heap_other (by omega)⟩
  case stop =>
    rintro D c k W hD hk ⟨rfl, x, hx, hb1, hb2, hbW⟩ hK
    have c1 := hb1.cell
    have f1 := hb1.frozen
    have c2 := hb2.cell
    have f2 := hb2.frozen
    gi_wp2_with fail
    have hz := HSR.out
    have hS := HSZ.out
    have hKlt := (Array.getElem?_eq_some_iff.1 hK).1
    have r1 := (boxed_put (D := D) (.deferred none) hb1 (by omega)).cell
    have r2 := (boxed_put (D := D) (.deferred none) hb2 (by omega)).cell
    refine ⟨by simp, .inl ⟨_, _, rfl, run_takeDeferred hK, ?_⟩⟩
    refine ⟨.tuple #[.int .i64 (x : Nat), .bool true], ?_, by rw [hx]; rfl, ?_⟩
    · simp [results, Try.f25, go_sem, r1, r2]
    · rw [← hS]
      have hb := ((hS ▸ HB.out : Below S w WR).trans hbW)
      exact hb.trans ⟨rfl, rfl, rfl, by simp, fun k hk => World.putObj_heap_other (by omega)⟩

theorem nextS {b N : Nat} {f : Nat → Bool} (i : Int) (w : World) (hS : SetAt w b N f) : Calls Try.prog 25 #[.pointer (some ⟨b, 0, none⟩), .int .i64 i] w fun e w' => e = .returned (.tuple #[.int .i64 ((nxt (els N f) i).getD 0 : Nat), .bool (nxt (els N f) i).isSome]) ∧ Below w.heap.size w w' :=
  callsIn_wide.1 (nextS_in 6 (by omega) i w hS)

set_option maxHeartbeats 800000 in
set_option maxRecDepth 100000 in
theorem lowestS {b N : Nat} {f : Nat → Bool} (w : World) (hS : SetAt w b N f) : Calls Try.prog 27 #[.pointer (some ⟨b, 0, none⟩)] w fun e w' => e = .returned (.tuple #[.int .i64 ((nxt (els N f) 0).getD 0 : Nat), .bool (nxt (els N f) 0).isSome]) ∧ Below w.heap.size w w' := by
  have h := nextS 0 w hS
  clear hS
  generalize (nxt (els N f) 0).getD 0 = r at *
  generalize (nxt (els N f) 0).isSome = q at *
  go_enter Try.func27, Try.ntmps27
  go_wp2_with (go_at_call 25; refine h.mono ?_; rintro e w' ⟨rfl, hb⟩)
  go_ret2
  exact ⟨rfl, hb⟩
end Go.Proofs.Ytejkbanecbjdoaa
