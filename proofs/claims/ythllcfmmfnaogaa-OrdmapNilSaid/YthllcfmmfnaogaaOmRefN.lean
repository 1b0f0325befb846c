/- The document's own map on nil; pairs of an iterator that yields nothing. -/
import Derived.Test.YthllcfmmfnaogaaOmBadB
import Derived.BigQuiet
namespace Go.Proofs.Ythllcfmmfnaogaa
open Go Go.RowKit

attribute [local go_sem] Oper.semAt_some

set_option maxHeartbeats 800000 in
set_option maxRecDepth 100000 in
theorem refValid (W : World) : Calls Try.prog 95 #[.pointer none] W fun e w' => e = .returned (.bool false) ∧ w' = W := by
  go_enter Try.func95, Try.ntmps95
  go_wp2_with fail
  go_ret
  exact ⟨rfl, rfl⟩

set_option maxHeartbeats 800000 in
set_option maxRecDepth 100000 in
theorem refRank (k : ByteArray) (W : World) : Calls Try.prog 25 #[.pointer none, .string k] W fun e w' => e = .returned (.int .i64 0) ∧ w' = W := by
  have h0 := refValid W
  go_enter Try.func25, Try.ntmps25
  go_wp2_with fail
  refine h0.mono ?_
  rintro e w0 ⟨rfl, hw0⟩
  obtain rfl : W = w0 := hw0.symm
  go_wp2_with fail
  go_ret
  exact ⟨rfl, rfl⟩

set_option maxHeartbeats 800000 in
set_option maxRecDepth 100000 in
theorem refHas (k : ByteArray) (W : World) : Calls Try.prog 96 #[.pointer none, .string k] W fun e w' => e = .returned (.bool false) ∧ w' = W := by
  have h0 := refRank k W
  have h1 := refValid W
  go_enter Try.func96, Try.ntmps96
  go_wp2_with fail
  refine h0.mono ?_
  rintro e w0 ⟨rfl, hw0⟩
  obtain rfl : W = w0 := hw0.symm
  go_wp2_with fail
  refine h1.mono ?_
  rintro e w1 ⟨rfl, hw1⟩
  obtain rfl : W = w1 := hw1.symm
  go_wp2_with fail
  go_ret
  exact ⟨rfl, rfl⟩

set_option maxHeartbeats 800000 in
set_option maxRecDepth 100000 in
theorem refGet (k : ByteArray) (W : World) : Calls Try.prog 98 #[.pointer none, .string k] W fun e w' => e = .returned (.tuple #[.string ⟨#[]⟩, .bool false]) ∧ w' = W := by
  have h0 := refHas k W
  go_enter Try.func98, Try.ntmps98
  go_wp2_with fail
  refine h0.mono ?_
  rintro e w0 ⟨rfl, hw0⟩
  obtain rfl : W = w0 := hw0.symm
  go_wp2_with fail
  go_ret2
  exact ⟨rfl, rfl⟩

set_option maxHeartbeats 800000 in
set_option maxRecDepth 100000 in
theorem refLen (W : World) : Calls Try.prog 111 #[.pointer none] W fun e w' => e = .returned (.int .i64 0) ∧ w' = W := by
  have h0 := refValid W
  go_enter Try.func111, Try.ntmps111
  go_wp2_with fail
  refine h0.mono ?_
  rintro e w0 ⟨rfl, hw0⟩
  obtain rfl : W = w0 := hw0.symm
  go_wp2_with fail
  go_ret
  exact ⟨rfl, rfl⟩

set_option maxHeartbeats 800000 in
set_option maxRecDepth 100000 in
theorem refAt (j : Int) (W : World) : Calls Try.prog 108 #[.pointer none, .int .i64 j] W fun e w' => e = .returned (.tuple #[.string ⟨#[]⟩, .string ⟨#[]⟩, .int .i64 1]) ∧ w' = W := by
  have h0 := refValid W
  go_enter Try.func108, Try.ntmps108
  go_wp2_with fail
  refine h0.mono ?_
  rintro e w0 ⟨rfl, hw0⟩
  obtain rfl : W = w0 := hw0.symm
  go_wp2_with fail
  go_ret3
  exact ⟨rfl, rfl⟩

set_option maxHeartbeats 800000 in
set_option maxRecDepth 100000 in
theorem refat (j : Int) (W : World) : Calls Try.prog 191 #[.pointer none, .int .i64 j] W fun e w' => e = .returned (.tuple #[.string ⟨#[]⟩, .string ⟨#[]⟩, .bool false]) ∧ w' = W := by
  have h0 := refAt j W
  go_enter Try.func191, Try.ntmps191
  go_wp2_with fail
  refine h0.mono ?_
  rintro e w0 ⟨rfl, hw0⟩
  obtain rfl : W = w0 := hw0.symm
  go_wp2_with fail
  go_ret3
  exact ⟨rfl, rfl⟩

set_option maxHeartbeats 800000 in
set_option maxRecDepth 100000 in
theorem refMin (W : World) : Calls Try.prog 105 #[.pointer none] W fun e w' => e = .returned (.tuple #[.string ⟨#[]⟩, .string ⟨#[]⟩, .bool false]) ∧ w' = W := by
  have h0 := refat 0 W
  go_enter Try.func105, Try.ntmps105
  go_wp2_with fail
  refine h0.mono ?_
  rintro e w0 ⟨rfl, hw0⟩
  obtain rfl : W = w0 := hw0.symm
  go_wp2_with fail
  go_ret3
  exact ⟨rfl, rfl⟩

set_option maxHeartbeats 800000 in
set_option maxRecDepth 100000 in
theorem refMax (W : World) : Calls Try.prog 107 #[.pointer none] W fun e w' => e = .returned (.tuple #[.string ⟨#[]⟩, .string ⟨#[]⟩, .bool false]) ∧ w' = W := by
  have h0 := refLen W
  have h1 := refat (-1) W
  go_enter Try.func107, Try.ntmps107
  go_wp2_with fail
  refine h0.mono ?_
  rintro e w0 ⟨rfl, hw0⟩
  obtain rfl : W = w0 := hw0.symm
  go_wp2_with fail
  refine h1.mono ?_
  rintro e w1 ⟨rfl, hw1⟩
  obtain rfl : W = w1 := hw1.symm
  go_wp2_with fail
  go_ret3
  exact ⟨rfl, rfl⟩

set_option maxHeartbeats 800000 in
set_option maxRecDepth 100000 in
theorem refCeil (k : ByteArray) (W : World) : Calls Try.prog 103 #[.pointer none, .string k] W fun e w' => e = .returned (.tuple #[.string ⟨#[]⟩, .string ⟨#[]⟩, .bool false]) ∧ w' = W := by
  have h0 := refRank k W
  have h1 := refat 0 W
  go_enter Try.func103, Try.ntmps103
  go_wp2_with fail
  refine h0.mono ?_
  rintro e w0 ⟨rfl, hw0⟩
  obtain rfl : W = w0 := hw0.symm
  go_wp2_with fail
  refine h1.mono ?_
  rintro e w1 ⟨rfl, hw1⟩
  obtain rfl : W = w1 := hw1.symm
  go_wp2_with fail
  go_ret3
  exact ⟨rfl, rfl⟩

set_option maxHeartbeats 800000 in
set_option maxRecDepth 100000 in
theorem refFloor (k : ByteArray) (W : World) : Calls Try.prog 101 #[.pointer none, .string k] W fun e w' => e = .returned (.tuple #[.string ⟨#[]⟩, .string ⟨#[]⟩, .bool false]) ∧ w' = W := by
  have h0 := refHas k W
  have h1 := refRank k W
  have h2 := refat (-1) W
  go_enter Try.func101, Try.ntmps101
  go_wp2_with fail
  refine h0.mono ?_
  rintro e w0 ⟨rfl, hw0⟩
  obtain rfl : W = w0 := hw0.symm
  go_wp2_with fail
  refine h1.mono ?_
  rintro e w1 ⟨rfl, hw1⟩
  obtain rfl : W = w1 := hw1.symm
  go_wp2_with fail
  refine h2.mono ?_
  rintro e w2 ⟨rfl, hw2⟩
  obtain rfl : W = w2 := hw2.symm
  go_wp2_with fail
  go_ret3
  exact ⟨rfl, rfl⟩

set_option maxHeartbeats 800000 in
set_option maxRecDepth 100000 in
theorem refFrom (k : ByteArray) (W : World) : Calls Try.prog 114 #[.pointer none, .string k] W fun e w' => e = .returned (.tuple #[.slice none 0 0, .slice none 0 0]) ∧ w' = W := by
  have h0 := refValid W
  go_enter Try.func114, Try.ntmps114
  go_wp2_with fail
  refine h0.mono ?_
  rintro e w0 ⟨rfl, hw0⟩
  obtain rfl : W = w0 := hw0.symm
  go_wp2_with fail
  go_ret2
  exact ⟨rfl, rfl⟩

theorem assign2o (i j : Nat) (c d : Value) (T : Array Value) :
    Array.foldl (fun t x => t.setIfInBounds x.fst x.snd) T (#[i, j].zip #[c, d]) = (T.setIfInBounds i c).setIfInBounds j d := by
  simp

set_option maxHeartbeats 3200000 in
set_option maxRecDepth 100000 in
/-- pairs of an iterator that yields nothing. -/
theorem pairsN (n : Nat) (hn : 3 ≤ n) (gf : Nat) (lb : Array Value) (w : World) (eg : ∀ args w, (callFunc gf args).run Try.prog w = .ok (.enter gf args) w)
    (hseq : ∀ (W : World) (Kp : World → World → Prop), Below w.heap.size w W → SeqStopsK Fence.wide (n - 1) Try.prog gf lb encB Kp (fun ys => ys = []) (fun _ => False) 0 W) :
    CallsIn Fence.wide n Try.prog 113 #[.func (.func gf) #[] lb, .int .i64 1] w fun e w' => e = .returned (.tuple #[.slice none 0 0, .slice none 0 0]) ∧ Below w.heap.size w w' := by
  have h1 : 1 ≤ n := by omega
  obtain ⟨W0, hW0⟩ : ∃ W0, W0 = ((w.alloc (.cells #[.int .i64 1] 3)).alloc (.cells #[.slice none 0 0] 128)).alloc (.cells #[.slice none 0 0] 128) := ⟨_, rfl⟩
  have hb : Below w.heap.size w W0 := by rw [hW0]; exact (((Below.refl _ _).alloc (Nat.le_refl _) _).alloc (by simp) _).alloc (by simp; omega) _
  have hs : W0.heap.size = w.heap.size + 3 := by rw [hW0]; simp
  have b0 : Boxed W0 w.heap.size 3 (.int .i64 1) := by rw [hW0]; exact ((Boxed.new w _ _).alloc _).alloc _
  have b1 : Boxed W0 (w.heap.size + 1) 128 (.slice none 0 0) := by
    rw [hW0]
    have := (Boxed.new (w.alloc (.cells #[.int .i64 1] 3)) 128 (.slice none 0 0)).alloc (.cells #[.slice none 0 0] 128)
    rwa [World.size_alloc] at this
  have b2 : Boxed W0 (w.heap.size + 2) 128 (.slice none 0 0) := by
    rw [hW0]
    have := Boxed.new ((w.alloc (.cells #[.int .i64 1] 3)).alloc (.cells #[.slice none 0 0] 128)) 128 (.slice none 0 0)
    rwa [World.size_alloc, World.size_alloc] at this
  have c0 := b0.cell
  have HB := Lib.hid hb
  have HS := Lib.hid hs
  have HBX := Lib.hid (And.intro b1 b2)
  have HQ := Lib.hid hseq
  have hyl := yieldsB gf lb W0
  clear hb hs b0 b1 b2 hseq
  refine callsIn_of_wp_marks Try.func113 rfl trivial ?_ rfl
  simp only [Try.ntmps113, List.size_toArray, List.length_cons, List.length_nil, Nat.reduceAdd, Nat.reduceSub, Array.replicate_succ, Array.replicate_zero, List.push_toArray, List.append_toArray, List.nil_append, List.cons_append]
  gi_wp2_with fail
  rw [← hW0]
  clear hW0
  gi_wp2_with fail
  refine ⟨trivial, (callsIn_wide.2 hyl).mono ?_⟩
  rintro e W1 ⟨rfl, hw1⟩
  obtain rfl : W0 = W1 := hw1.symm
  gi_wp2_with fail
  refine rangeG (encs := encB) (fun x T => (((T.setIfInBounds 14 (.string x.1)).setIfInBounds 15 (.string x.2)).setIfInBounds 8 (.string x.1)).setIfInBounds 9 (.string x.2)) rfl h1 (gf := gf) (lb := lb) rfl trivial eg
    (HQ.out W0 (Below W0.heap.size) HB.out) belowK_t (belowK_b (Nat.le_refl _)) (Below.refl _ _) (fun _ => rfl)
    (fun _ W => Below W0.heap.size W0 W) (fun _ _ _ => False) (ownFrom_below (Nat.le_refl _) (Nat.le_refl _)) (fun _ _ _ _ _ hs _ _ => hs) (Below.refl _ _) ?assign ?body ?done ?stop
  case assign =>
    intro lr x W K hK
    unfold encB
    gi_wp2
    exact hK
  case body =>
    intro lr pre x W _ hlt
    exact absurd hlt (Nat.not_lt_zero _)
  case stop =>
    intro D c pre W _ _ h _
    exact h.elim
  case done =>
    rintro D xs U hD - hI hK
    have hs := HS.out
    have c1 : U.cell? ⟨w.heap.size + 1, 0, none⟩ = some (.slice none 0 0) := by
      simp only [World.cell?, hI.block (w.heap.size + 1) (by omega)]; exact HBX.out.1.cell
    have c2 : U.cell? ⟨w.heap.size + 2, 0, none⟩ = some (.slice none 0 0) := by
      simp only [World.cell?, hI.block (w.heap.size + 2) (by omega)]; exact HBX.out.2.cell
    have HI := Lib.hid hI
    have HK := Lib.hid hK
    have HD := Lib.hid hD
    clear hI hK hD hs
    gi_wp2_with fail
    refine wpIn_wide.2 ?_
    go_quiet (fail)
    rename_i nq
    gi_wp2
    have hKf : (U.drewN nq).heap[D]? = some (.deferred (some [])) := ((Below.drewN' nq (Below.refl _ U)).block D (Array.getElem?_eq_some_iff.1 HK.out).1).trans HK.out
    have hd := HD.out
    have hs := HS.out
    have hbU : Below w.heap.size w (U.drewN nq) := Below.drewN' nq (HB.out.trans (HI.out.mono HB.out.size))
    have hfin := hbU.grown (grownBy_putObj' (U.drewN nq) D (.deferred none)) (by have := hbU.size; omega) (fun k e => by cases e; omega)
    refine ⟨by simp, .inl ⟨_, _, rfl, run_takeDeferred hKf, ?_⟩⟩
    refine ⟨.tuple #[.slice none 0 0, .slice none 0 0], ?_, rfl, hfin⟩
    simp [results, Try.f113, go_sem]
end Go.Proofs.Ythllcfmmfnaogaa
