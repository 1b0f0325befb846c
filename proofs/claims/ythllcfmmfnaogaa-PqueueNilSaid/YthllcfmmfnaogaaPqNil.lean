/- PqueueNil: the walk. -/
import Derived.Test.YthllcfmmfnaogaaPqBadL
import Derived.Test.YthllcfmmfnaogaaPqNewL
import Derived.Test.YthllcfmmfnaogaaPqWorks
import Derived.Test.YthllcfmmfnaogaaOmRange
import Derived.RangeFuncBox
import Derived.Outline
namespace Go.Proofs.Ythllcfmmfnaogaa
open Go Go.RowKit

attribute [local go_sem] Oper.semAt_some

set_option maxHeartbeats 800000 in
set_option maxRecDepth 100000 in
theorem copyNL {w0 : World} {v : Option Addr} (h : BadL w0 v) (W : World) (hb : Below w0.heap.size w0 W) : Calls Try.prog 59 #[.pointer v] W fun e w' => e = .returned (.pointer none) ∧ w' = W := by
  have hv := h W hb
  clear h hb
  go_enter Try.func59, Try.ntmps59
  go_wp2_with fail
  refine hv.mono ?_
  rintro e w' ⟨rfl, rfl⟩
  go_wp2_with fail
  go_ret
  exact ⟨rfl, rfl⟩

/-- What yield would be called with. -/
def encP (x : Int × Int) : Array Value := #[Value.int .i64 x.1, Value.int .i64 x.2]

set_option maxHeartbeats 800000 in
set_option maxRecDepth 100000 in
theorem allMakeL (v : Option Addr) (W : World) : Calls Try.prog 64 #[.pointer v] W fun e w' => e = .returned (.func (.func 162) #[] #[.pointer (some ⟨W.heap.size, 0, none⟩)]) ∧ w' = W.alloc (.cells #[.pointer v] 93) := by
  go_enter Try.func64, Try.ntmps64
  go_wp2
  go_ret
  exact ⟨rfl, rfl⟩

set_option maxHeartbeats 1600000 in
set_option maxRecDepth 100000 in
/-- The iterator over a queue that is none yields nothing. -/
theorem allSeqN (n : Nat) (hn : 1 ≤ n) {w0 : World} {v : Option Addr} (h : BadL w0 v) (bq : Nat) (w : World) (hb : Below w0.heap.size w0 w) (hq : w.cell? ⟨bq, 0, none⟩ = some (.pointer v)) (Kp : World → World → Prop) :
    SeqStopsK Fence.wide n Try.prog 162 #[.pointer (some ⟨bq, 0, none⟩)] encP Kp (fun ys => ys = []) (fun _ => False) 0 w := fun lr J Jx W hW hJ hJx hY h0 => by
  have hq' := (hW.cell (World.block_lt_of_cell? _ _ hq)).trans hq
  have hbW := hb.trans (hW.mono hb.size)
  have hcp := copyNL h W hbW
  have hpp := popNL (badNilL W) W (Below.refl _ _)
  have HJn := Lib.hid (abNew_of hJ)
  have HJ0 := Lib.hid h0
  clear hY hJx hJ hq hb hbW h hW h0
  refine callsIn_of_wp Try.func162 rfl trivial ?_ rfl
  simp only [Try.ntmps162, List.size_toArray, List.length_cons, List.length_nil, Nat.reduceAdd, Nat.reduceSub, Array.replicate_succ, Array.replicate_zero, List.push_toArray, List.append_toArray, List.nil_append, List.cons_append]
  gi_wp2_with fail
  refine ⟨trivial, (callsIn_wide.2 hcp).mono ?_⟩
  rintro e W1 ⟨rfl, rfl⟩
  gi_wp2_with fail
  refine ⟨trivial, (callsIn_wide.2 hpp).mono ?_⟩
  rintro e W2 ⟨rfl, hb2⟩
  have HJ2 := Lib.hid (HJn.out.below HJ0.out hb2)
  clear hpp hcp hb2
  gi_wp2_with fail
  gi_loopw [6] (fun s wr => s = .bool false ∧ Hid (J [] wr)) (fun _ _ => 0)
  case atStart => exact ⟨rfl, HJ2⟩
  case round =>
    obtain ⟨rfl, hj⟩ := hrel
    gi_wp2
    go_end0
    exact ⟨⟨_, rfl⟩, .inl ⟨[], rfl, hj.out⟩⟩

theorem assign2 (i j : Nat) (c d : Value) (T : Array Value) :
    Array.foldl (fun t x => t.setIfInBounds x.fst x.snd) T (#[i, j].zip #[c, d]) = (T.setIfInBounds i c).setIfInBounds j d := by
  simp

set_option maxHeartbeats 6400000 in
set_option maxRecDepth 100000 in
theorem nil_in (n : Nat) (hn : 10 ≤ n) (id p : Int) (w : World) :
    CallsIn Fence.wide n Try.prog 9 #[.int .i64 id, .int .i64 p] w fun e w' => e = .returned (.bool true) ∧ Below w.heap.size w w' := by
  have h1 : 1 ≤ n := by omega
  have HW := Lib.hid works4_any
  obtain ⟨w3, hw3⟩ : ∃ w3, w3 = ((w.alloc (.cells #[.bool false] 4)).alloc (.cells Try.zeroCells120 120)).alloc (.cells #[.pointer none, .pointer (some ⟨w.heap.size + 1, 0, none⟩)] 93) := ⟨_, rfl⟩
  have hs3 : w3.heap.size = w.heap.size + 3 := by rw [hw3]; simp
  have hb3 : Below w.heap.size w w3 := by rw [hw3]; exact (((Below.refl _ _).alloc (Nat.le_refl _) _).alloc (by simp) _).alloc (by simp; omega) _
  have hres : Boxed w3 w.heap.size 4 (.bool false) := by
    rw [hw3]
    exact ((Boxed.new w _ _).alloc _).alloc _
  have hzz : w3.heap[w.heap.size + 1]? = some (.cells Try.zeroCells120 120 (0, 0)) := by
    rw [hw3, Below.heap_alloc _ _ _ (by simp)]
    have := heap_alloc_new (w.alloc (.cells #[.bool false] 4)) (.cells Try.zeroCells120 120)
    rwa [World.size_alloc] at this
  have hz0 : w3.cell? ⟨w.heap.size + 1, 0, none⟩ = some (.pointer none) := by
    simp only [World.cell?, hzz, zcQL]
    rfl
  have hll : w3.heap[w.heap.size + 2]? = some (.cells #[.pointer none, .pointer (some ⟨w.heap.size + 1, 0, none⟩)] 93 (0, 0)) := by
    rw [hw3]
    have := heap_alloc_new ((w.alloc (.cells #[.bool false] 4)).alloc (.cells Try.zeroCells120 120)) (.cells #[.pointer none, .pointer (some ⟨w.heap.size + 1, 0, none⟩)] 93)
    rwa [World.size_alloc, World.size_alloc] at this
  have hB0 := badNilL w3
  have hB1 := badZeroL w3 (w.heap.size + 1) hz0
  have HCL : Hid (∀ W, Below w3.heap.size w3 W → W.cell? ⟨w.heap.size + 2, 0, none⟩ = some (.pointer none) ∧ W.cell? ⟨w.heap.size + 2, 1, none⟩ = some (.pointer (some ⟨w.heap.size + 1, 0, none⟩)) ∧ Boxed W w.heap.size 4 (.bool false)) := Lib.hid fun W hb => by
    have h2 := (hb.block (w.heap.size + 2) (by omega)).trans hll
    exact ⟨by simp only [World.cell?, h2]; rfl, by simp only [World.cell?, h2]; rfl, (hb.block w.heap.size (by omega)).trans hres⟩
  have HBB := Lib.hid (And.intro hB0 hB1)
  have HS3 := Lib.hid hs3
  have HB3 := Lib.hid hb3
  clear hs3 hb3 hres hzz hz0 hll hB0 hB1
  refine callsIn_of_wp_marks Try.func9 rfl trivial ?_ rfl
  simp only [Try.ntmps9, List.size_toArray, List.length_nil, List.length_cons, Nat.reduceAdd, Nat.reduceSub, Array.replicate_succ, Array.replicate_zero, List.push_toArray, List.append_toArray, List.nil_append, List.cons_append]
  gi_wp2_with fail
  rw [← hw3]
  clear hw3
  have HX : Hid (Below w3.heap.size w3 w3) := Lib.hid (Below.refl _ _)
  refine wpIn_loop_rounds 3 ?_
  rw [roundsIn_succ]
  obtain ⟨c0, c1, -⟩ := HCL.out w3 HX.out
  have HC0 : Hid (∀ W, Below w3.heap.size w3 W → Below w3.heap.size w3 W) := Lib.hid fun W hb => HX.out.trans (hb.mono HX.out.size)
  have hb0 : Below w3.heap.size w3 w3 := Below.refl _ _
  have HA0 := Lib.hid hb0
  clear hb0
  gi_wp2_with fail
  refine ⟨trivial, (callsIn_wide.2 (removeNL HBB.out.1 id w3 (HC0.out _ HA0.out))).mono ?_⟩
  rintro e Y1 ⟨rfl, hw⟩
  obtain rfl : w3 = Y1 := hw.symm
  gi_wp2_with fail
  refine ⟨trivial, (callsIn_wide.2 (priorityNL HBB.out.1 id _ (HC0.out _ HA0.out))).mono ?_⟩
  rintro e Y2 ⟨rfl, hw⟩
  obtain rfl : w3 = Y2 := hw.symm
  gi_wp2_with fail
  refine ⟨trivial, (callsIn_wide.2 (peekNL HBB.out.1 _ (HC0.out _ HA0.out))).mono ?_⟩
  rintro e Y3 ⟨rfl, hy3⟩
  have HY3 := Lib.hid hy3
  clear hy3 c0 c1
  gi_wp2_with fail
  refine ⟨trivial, (callsIn_wide.2 (popNL HBB.out.1 _ (HC0.out _ HY3.out))).mono ?_⟩
  rintro e Y4 ⟨rfl, hy4⟩
  have HY4 := Lib.hid (HY3.out.trans (hy4.mono HY3.out.size))
  clear hy4 HY3
  gi_wp2_with fail
  refine ⟨trivial, (callsIn_wide.2 (pushNL HBB.out.1 id p _ (HC0.out _ HY4.out))).mono ?_⟩
  rintro e Y5 ⟨rfl, hw⟩
  obtain rfl : Y4 = Y5 := hw.symm
  gi_wp2_with fail
  refine ⟨trivial, (callsIn_wide.2 (changeNL HBB.out.1 id p _ (HC0.out _ HY4.out))).mono ?_⟩
  rintro e Y6 ⟨rfl, hw⟩
  obtain rfl : Y4 = Y6 := hw.symm
  gi_wp2_with fail
  refine ⟨trivial, (callsIn_wide.2 (lenNL HBB.out.1 _ (HC0.out _ HY4.out))).mono ?_⟩
  rintro e Y7 ⟨rfl, hw⟩
  obtain rfl : Y4 = Y7 := hw.symm
  gi_wp2_with fail
  refine ⟨trivial, (callsIn_wide.2 (copyNL HBB.out.1 _ (HC0.out _ HY4.out))).mono ?_⟩
  rintro e Y8 ⟨rfl, hw⟩
  obtain rfl : Y4 = Y8 := hw.symm
  gi_wp2_with fail
  refine ⟨trivial, (callsIn_wide.2 (allMakeL none _)).mono ?_⟩
  rintro e Y9 ⟨rfl, rfl⟩
  gi_wp2_with fail
  have hWR : Below Y4.heap.size Y4 (Y4.alloc (.cells #[.pointer none] 93)) := (Below.refl _ _).alloc (Nat.le_refl _) _
  have bWR := Boxed.new Y4 93 (.pointer none)
  obtain ⟨WR0, hWe⟩ : ∃ WR, WR = Y4.alloc (.cells #[.pointer none] 93) := ⟨_, rfl⟩
  rw [← hWe] at hWR bWR ⊢
  clear hWe
  have HR0 := Lib.hid (HY4.out.trans (hWR.mono HY4.out.size))
  have HBR := Lib.hid bWR.cell
  have HY4s := HY4.out.size
  clear hWR bWR HY4
  refine rangeG (encs := encP) (fun x T => ((T.setIfInBounds 117 (.int .i64 x.1)).setIfInBounds 118 (.int .i64 x.2))) rfl h1 (gf := 162) (lb := #[.pointer (some ⟨Y4.heap.size, 0, none⟩)]) rfl trivial (enters_of Try.func162 (by kernel_rfl) rfl)
    (allSeqN (n - 1) (by omega) HBB.out.1 Y4.heap.size WR0 (HC0.out _ HR0.out) HBR.out (Below WR0.heap.size)) belowK_t (belowK_b (Nat.le_refl _)) (Below.refl _ _) (fun _ => rfl)
    (fun _ W => Below WR0.heap.size WR0 W) (fun _ _ _ => False) (ownFrom_below (Nat.le_refl _) (Nat.le_refl _)) (fun _ _ _ _ _ hs _ _ => hs) (Below.refl _ _) ?assign0 ?body0 ?done0 ?stop0
  case assign0 =>
    intro lr x W K hK
    unfold encP
    gi_wp2
    rw [assign2]
    exact hK
  case body0 =>
    intro lr pre x W _ hlt
    exact absurd hlt (Nat.not_lt_zero _)
  case stop0 =>
    intro D c pre W _ h
    exact h.elim
  case done0 =>
    rintro D0 xs U0 hD0 - hI hK0
    have HU0 := Lib.hid (HR0.out.trans (hI.mono HR0.out.size))
    have HK0 := Lib.hid hK0
    have HD0 := Lib.hid hD0
    clear hI hK0 hD0
    have HX1 := Lib.hid HU0.out
    have HRS : Hid (w3.heap.size ≤ WR0.heap.size) := Lib.hid HR0.out.size
    gi_wp2_with fail
    rw [roundsIn_succ]
    obtain ⟨c0, c1, -⟩ := HCL.out U0 HX1.out
    have HC1 : Hid (∀ W, Below U0.heap.size U0 W → Below w3.heap.size w3 W) := Lib.hid fun W hb => HX1.out.trans (hb.mono HX1.out.size)
    have hb0 : Below U0.heap.size U0 U0 := Below.refl _ _
    have HA1 := Lib.hid hb0
    clear hb0
    gi_wp2_with fail
    refine ⟨trivial, (callsIn_wide.2 (removeNL HBB.out.2 id U0 (HC1.out _ HA1.out))).mono ?_⟩
    rintro e Y1 ⟨rfl, hw⟩
    obtain rfl : U0 = Y1 := hw.symm
    gi_wp2_with fail
    refine ⟨trivial, (callsIn_wide.2 (priorityNL HBB.out.2 id _ (HC1.out _ HA1.out))).mono ?_⟩
    rintro e Y2 ⟨rfl, hw⟩
    obtain rfl : U0 = Y2 := hw.symm
    gi_wp2_with fail
    refine ⟨trivial, (callsIn_wide.2 (peekNL HBB.out.2 _ (HC1.out _ HA1.out))).mono ?_⟩
    rintro e Y3 ⟨rfl, hy3⟩
    have HY3 := Lib.hid hy3
    clear hy3 c0 c1
    gi_wp2_with fail
    refine ⟨trivial, (callsIn_wide.2 (popNL HBB.out.2 _ (HC1.out _ HY3.out))).mono ?_⟩
    rintro e Y4 ⟨rfl, hy4⟩
    have HY4 := Lib.hid (HY3.out.trans (hy4.mono HY3.out.size))
    clear hy4 HY3
    gi_wp2_with fail
    refine ⟨trivial, (callsIn_wide.2 (pushNL HBB.out.2 id p _ (HC1.out _ HY4.out))).mono ?_⟩
    rintro e Y5 ⟨rfl, hw⟩
    obtain rfl : Y4 = Y5 := hw.symm
    gi_wp2_with fail
    refine ⟨trivial, (callsIn_wide.2 (changeNL HBB.out.2 id p _ (HC1.out _ HY4.out))).mono ?_⟩
    rintro e Y6 ⟨rfl, hw⟩
    obtain rfl : Y4 = Y6 := hw.symm
    gi_wp2_with fail
    refine ⟨trivial, (callsIn_wide.2 (lenNL HBB.out.2 _ (HC1.out _ HY4.out))).mono ?_⟩
    rintro e Y7 ⟨rfl, hw⟩
    obtain rfl : Y4 = Y7 := hw.symm
    gi_wp2_with fail
    refine ⟨trivial, (callsIn_wide.2 (copyNL HBB.out.2 _ (HC1.out _ HY4.out))).mono ?_⟩
    rintro e Y8 ⟨rfl, hw⟩
    obtain rfl : Y4 = Y8 := hw.symm
    gi_wp2_with fail
    refine ⟨trivial, (callsIn_wide.2 (allMakeL (some ⟨w.heap.size + 1, 0, none⟩) _)).mono ?_⟩
    rintro e Y9 ⟨rfl, rfl⟩
    gi_wp2_with fail
    have hWR : Below Y4.heap.size Y4 (Y4.alloc (.cells #[.pointer (some ⟨w.heap.size + 1, 0, none⟩)] 93)) := (Below.refl _ _).alloc (Nat.le_refl _) _
    have bWR := Boxed.new Y4 93 (.pointer (some ⟨w.heap.size + 1, 0, none⟩))
    obtain ⟨WR1, hWe⟩ : ∃ WR, WR = Y4.alloc (.cells #[.pointer (some ⟨w.heap.size + 1, 0, none⟩)] 93) := ⟨_, rfl⟩
    rw [← hWe] at hWR bWR ⊢
    clear hWe
    have HR1 := Lib.hid (HY4.out.trans (hWR.mono HY4.out.size))
    have HBR := Lib.hid bWR.cell
    have HY4s := HY4.out.size
    clear hWR bWR HY4
    refine rangeG (encs := encP) (fun x T => ((T.setIfInBounds 117 (.int .i64 x.1)).setIfInBounds 118 (.int .i64 x.2))) rfl h1 (gf := 162) (lb := #[.pointer (some ⟨Y4.heap.size, 0, none⟩)]) rfl trivial (enters_of Try.func162 (by kernel_rfl) rfl)
      (allSeqN (n - 1) (by omega) HBB.out.2 Y4.heap.size WR1 (HC1.out _ HR1.out) HBR.out (Below WR1.heap.size)) belowK_t (belowK_b (Nat.le_refl _)) (Below.refl _ _) (fun _ => rfl)
      (fun _ W => Below WR1.heap.size WR1 W) (fun _ _ _ => False) (ownFrom_below (Nat.le_refl _) (Nat.le_refl _)) (fun _ _ _ _ _ hs _ _ => hs) (Below.refl _ _) ?assign1 ?body1 ?done1 ?stop1
    case assign1 =>
      intro lr x W K hK
      unfold encP
      gi_wp2
      rw [assign2]
      exact hK
    case body1 =>
      intro lr pre x W _ hlt
      exact absurd hlt (Nat.not_lt_zero _)
    case stop1 =>
      intro D c pre W _ h
      exact h.elim
    case done1 =>
      rintro D1 xs U1 hD1 - hI hK1
      have HU1 := Lib.hid (HR1.out.trans (hI.mono HR1.out.size))
      have HK1 := Lib.hid hK1
      have HD1 := Lib.hid hD1
      clear hI hK1 hD1
      have HRS1 : Hid (U0.heap.size ≤ WR1.heap.size) := Lib.hid HR1.out.size
      gi_wp2_with fail
      have HX2 := Lib.hid (HU0.out.trans (HU1.out.mono HU0.out.size))
      rw [roundsIn_succ]
      obtain ⟨c0, c1, -⟩ := HCL.out U1 HX2.out
      gi_wp2_with fail
      refine ⟨trivial, (callsIn_wide.2 (HW.out _)).mono ?_⟩
      rintro e V ⟨rfl, hb9⟩
      have HV := Lib.hid (HX2.out.trans (hb9.mono HX2.out.size))
      have hbx := (HCL.out V HV.out).2.2
      have c5 := hbx.cell
      have c6 := hbx.frozen
      have hk1 := (hb9.block _ (Array.getElem?_eq_some_iff.1 HK1.out).1).trans HK1.out
      have hl0 := (Array.getElem?_eq_some_iff.1 HK0.out).1
      have hk0 := (hb9.block D0 (Nat.lt_of_lt_of_le hl0 HU1.out.size)).trans ((HU1.out.block D0 hl0).trans HK0.out)
      have hs1 := HU0.out.size
      have hs2 := HU1.out.size
      have hs9 := hb9.size
      have hd1 := HD1.out
      have hd0 := HD0.out
      have hrs := HRS.out
      have hrs1 := HRS1.out
      have HHK := Lib.hid (And.intro hk1 hk0)
      have HNE : D0 ≠ D1 := by omega
      have hs3 := HS3.out
      have HLL := Lib.hid (And.intro hd0 hd1)
      clear hk1 hk0 hb9 hbx hd1 hd0 c0 c1 HK0 HK1
      gi_wp2_with fail
      have hK1' := (KeepsOthers.setCell V ⟨w.heap.size, 0, none⟩ (.bool true)).same D1 _ HHK.out.1 rfl
      have hK0a := (KeepsOthers.setCell V ⟨w.heap.size, 0, none⟩ (.bool true)).same D0 _ HHK.out.2 rfl
      have hK0' : ((V.setCell ⟨w.heap.size, 0, none⟩ (.bool true)).putObj D1 (.deferred none)).heap[D0]? = some (.deferred (some [])) := (World.putObj_heap_other HNE).trans hK0a
      refine ⟨by simp, .inl ⟨_, _, rfl, run_takeDeferred hK1', ?_⟩⟩
      refine ⟨by simp, .inl ⟨_, _, rfl, run_takeDeferred hK0', ?_⟩⟩
      have hc5 := cell_kept (cell_kept (World.cell?_setCell_same' V ⟨w.heap.size, 0, none⟩ (.bool true) (by rw [c5]; rfl)) (grownBy_putObj' _ D1 (.deferred none)) (fun r e => by cases e; exact ⟨_, hK1', rfl⟩)) (grownBy_putObj' _ D0 (.deferred none)) (fun r e => by cases e; exact ⟨_, hK0', rfl⟩)
      refine ⟨.bool true, ?_, rfl, ?_⟩
      · simp [results, Try.f9, go_sem, hc5]
      · have h8 : (V.setCell ⟨w.heap.size, 0, none⟩ (.bool true)).heap.size = V.heap.size := World.size_setCell ..
        have hz := HV.out.size
        have hb := (HB3.out.trans (HV.out.mono (by omega))).setCell (p := ⟨w.heap.size, 0, none⟩) (Nat.le_refl _) (.bool true)
        have hl := HLL.out
        exact (hb.grown (grownBy_putObj' _ D1 (.deferred none)) (by omega) (fun k e => by cases e; omega)).grown (grownBy_putObj' _ D0 (.deferred none)) (by have := (grownBy_putObj' (V.setCell ⟨w.heap.size, 0, none⟩ (.bool true)) D1 (.deferred none)).size; omega) (fun k e => by cases e; omega)

end Go.Proofs.Ythllcfmmfnaogaa
