/- Sets that are none: nil, or made by neither New nor Copy. -/
import Derived.Test.YtejkbanecbjdoaaSsWorks
namespace Go.Proofs.Ytejkbanecbjdoaa
open Go Go.RowKit

attribute [local go_sem] Oper.semAt_some

/-- From this world on v is no set. -/
def Void (w0 : World) (v : Option Addr) : Prop := ∀ W, Below w0.heap.size w0 W → Calls Try.prog 45 #[.pointer v] W fun e w' => e = .returned (.bool false) ∧ w' = W

theorem Void.below {w0 w1 : World} {v : Option Addr} (h : Void w0 v) (hb : Below w0.heap.size w0 w1) : Void w1 v := fun W hW => h W (hb.trans (hW.mono hb.size))

set_option maxHeartbeats 800000 in
set_option maxRecDepth 100000 in
theorem void_nil (w0 : World) : Void w0 none := fun W _ => by
  go_enter Try.func45, Try.ntmps45
  go_wp2_with fail
  go_ret
  exact ⟨rfl, rfl⟩

theorem run_eql_ptr_noneB {P : Program} (w : World) {tp te : TypeId} (hp : P.underlying tp = some (.pointer te)) (hte : (P.info? te).isSome = true) (a : Addr) :
    (binOp .eql tp (.pointer none) (.pointer (some a))).run P w = .ok (.bool false) w := by
  obtain ⟨j, hj⟩ := Option.isSome_iff_exists.1 hte
  have h : ∀ d : Nat, (Op.equalIn (d + 1) tp (.pointer none) (.pointer (some a))).run P w = .ok false w := fun d => by
    by_cases hz : j.size = 0 <;> simp [Op.equalIn, run_underlying hp, sizeOf, typeInfo, hj, hz]
  simp only [binOp]
  simp [Op.equal, Op.maxDepth, h 9999]

set_option maxHeartbeats 800000 in
set_option maxRecDepth 100000 in
theorem void_zero (w0 : World) (b : Nat) (h : w0.cell? ⟨b, 0, none⟩ = some (.pointer none)) : Void w0 (some ⟨b, 0, none⟩) := fun W hb => by
  have hc := (hb.cell (p := ⟨b, 0, none⟩) (World.block_lt_of_cell? _ _ h)).trans h
  clear h hb
  have hq := fun w a => run_eql_ptr_noneB (P := Try.prog) w Try.underlying27 (by kernel_rfl : (Try.prog.info? 50).isSome = true) a
  go_enter Try.func45, Try.ntmps45
  go_wp2_with fail
  go_ret
  exact ⟨rfl, rfl⟩

section
variable {W : World} {v : Option Addr}

set_option maxHeartbeats 800000 in
set_option maxRecDepth 100000 in
theorem numberV (h : Void W v) : Calls Try.prog 49 #[.pointer v] W fun e w' => e = .returned (.int .u64 0) ∧ w' = W := by
  have hv := h W (Below.refl _ _)
  clear h
  go_enter Try.func49, Try.ntmps49
  go_wp2_with fail
  refine hv.mono ?_
  rintro e w1 ⟨rfl, hw⟩
  obtain rfl : W = w1 := hw.symm
  clear hw hv
  go_wp2_with fail
  go_ret
  exact ⟨rfl, rfl⟩

set_option maxHeartbeats 800000 in
set_option maxRecDepth 100000 in
theorem sizeV (h : Void W v) : Calls Try.prog 31 #[.pointer v] W fun e w' => e = .returned (.int .i64 0) ∧ w' = W := by
  have hv := h W (Below.refl _ _)
  clear h
  go_enter Try.func31, Try.ntmps31
  go_wp2_with fail
  refine hv.mono ?_
  rintro e w1 ⟨rfl, hw⟩
  obtain rfl : W = w1 := hw.symm
  clear hw hv
  go_wp2_with fail
  go_ret
  exact ⟨rfl, rfl⟩

set_option maxHeartbeats 800000 in
set_option maxRecDepth 100000 in
theorem checkV (h : Void W v) (i : Int) : Calls Try.prog 41 #[.pointer v, .int .i64 i] W fun e w' => e = .returned (.int .i64 1) ∧ w' = W := by
  have hv := h W (Below.refl _ _)
  clear h
  go_enter Try.func41, Try.ntmps41
  go_wp2_with fail
  refine hv.mono ?_
  rintro e w1 ⟨rfl, hw⟩
  obtain rfl : W = w1 := hw.symm
  clear hw hv
  go_wp2_with fail
  go_ret
  exact ⟨rfl, rfl⟩

set_option maxHeartbeats 800000 in
set_option maxRecDepth 100000 in
theorem addV (h : Void W v) (i : Int) : Calls Try.prog 15 #[.pointer v, .int .i64 i] W fun e w' => e = .returned (.int .i64 1) ∧ w' = W := by
  have hv := checkV h i
  clear h
  go_enter Try.func15, Try.ntmps15
  go_wp2_with fail
  refine hv.mono ?_
  rintro e w1 ⟨rfl, hw⟩
  obtain rfl : W = w1 := hw.symm
  clear hw hv
  go_wp2_with fail
  go_ret
  exact ⟨rfl, rfl⟩

set_option maxHeartbeats 800000 in
set_option maxRecDepth 100000 in
theorem removeV (h : Void W v) (i : Int) : Calls Try.prog 17 #[.pointer v, .int .i64 i] W fun e w' => e = .returned (.int .i64 1) ∧ w' = W := by
  have hv := checkV h i
  clear h
  go_enter Try.func17, Try.ntmps17
  go_wp2_with fail
  refine hv.mono ?_
  rintro e w1 ⟨rfl, hw⟩
  obtain rfl : W = w1 := hw.symm
  clear hw hv
  go_wp2_with fail
  go_ret
  exact ⟨rfl, rfl⟩

set_option maxHeartbeats 800000 in
set_option maxRecDepth 100000 in
theorem copyV (h : Void W v) : Calls Try.prog 23 #[.pointer v] W fun e w' => e = .returned (.pointer none) ∧ w' = W := by
  have hv := h W (Below.refl _ _)
  clear h
  go_enter Try.func23, Try.ntmps23
  go_wp2_with fail
  refine hv.mono ?_
  rintro e w1 ⟨rfl, hw⟩
  obtain rfl : W = w1 := hw.symm
  clear hw hv
  go_wp2_with fail
  go_ret
  exact ⟨rfl, rfl⟩

set_option maxHeartbeats 800000 in
set_option maxRecDepth 100000 in
theorem matchV (h : Void W v) (t : Option Addr) : Calls Try.prog 43 #[.pointer v, .pointer t] W fun e w' => e = .returned (.int .i64 1) ∧ w' = W := by
  have hv := h W (Below.refl _ _)
  clear h
  go_enter Try.func43, Try.ntmps43
  go_wp2_with fail
  refine hv.mono ?_
  rintro e w1 ⟨rfl, hw⟩
  obtain rfl : W = w1 := hw.symm
  clear hw hv
  go_wp2_with fail
  go_ret
  exact ⟨rfl, rfl⟩

set_option maxHeartbeats 800000 in
set_option maxRecDepth 100000 in
theorem unionV (h : Void W v) (t : Option Addr) : Calls Try.prog 19 #[.pointer v, .pointer t] W fun e w' => e = .returned (.int .i64 1) ∧ w' = W := by
  have hv := matchV h t
  clear h
  go_enter Try.func19, Try.ntmps19
  go_wp2_with fail
  refine hv.mono ?_
  rintro e w1 ⟨rfl, hw⟩
  obtain rfl : W = w1 := hw.symm
  clear hw hv
  go_wp2_with fail
  go_ret
  exact ⟨rfl, rfl⟩

set_option maxHeartbeats 800000 in
set_option maxRecDepth 100000 in
theorem minusV (h : Void W v) (t : Option Addr) : Calls Try.prog 21 #[.pointer v, .pointer t] W fun e w' => e = .returned (.int .i64 1) ∧ w' = W := by
  have hv := matchV h t
  clear h
  go_enter Try.func21, Try.ntmps21
  go_wp2_with fail
  refine hv.mono ?_
  rintro e w1 ⟨rfl, hw⟩
  obtain rfl : W = w1 := hw.symm
  clear hw hv
  go_wp2_with fail
  go_ret
  exact ⟨rfl, rfl⟩

set_option maxHeartbeats 800000 in
set_option maxRecDepth 100000 in
theorem lenV (h : Void W v) : Calls Try.prog 36 #[.pointer v] W fun e w' => e = .returned (.int .i64 0) ∧ w' = W := by
  have hv := numberV h
  have ho := ones_any 0 (by decide) W
  rw [show pcB 8 0 = 0 by decide] at ho
  replace ho : Calls Try.prog 48 #[.int .u64 0] W fun e w' => e = .returned (.int .i64 0) ∧ w' = W := ho
  clear h
  go_enter Try.func36, Try.ntmps36
  go_wp2_with fail
  refine hv.mono ?_
  rintro e w1 ⟨rfl, hw⟩
  obtain rfl : W = w1 := hw.symm
  go_wp2_with fail
  refine ho.mono ?_
  rintro e w1 ⟨rfl, hw⟩
  obtain rfl : W = w1 := hw.symm
  go_wp2_with fail
  go_ret
  exact ⟨rfl, rfl⟩

set_option maxHeartbeats 800000 in
set_option maxRecDepth 100000 in
theorem hasV (h : Void W v) (i : Int) : Calls Try.prog 29 #[.pointer v, .int .i64 i] W fun e w' => e = .returned (.bool false) ∧ ∃ m, w' = W.drewN m := by
  have hv := fun q => checkV (h.below (Below.drewN' q (Below.refl _ W))) i
  clear h
  go_enter Try.func29, Try.ntmps29
  go_wp2
  go_quiet ((go_at_call 41; exact Calls.quiet_of_same (hv _)))
  go_wp2
  go_ret
  exact ⟨rfl, _, rfl⟩

set_option maxHeartbeats 800000 in
set_option maxRecDepth 100000 in
theorem match2V {b n : Nat} {f : Nat → Bool} (h : Void W v) (hS : SetAt W b n f) : Calls Try.prog 43 #[.pointer (some ⟨b, 0, none⟩), .pointer v] W fun e w' => e = .returned (.int .i64 1) ∧ w' = W := by
  have hv := h W (Below.refl _ _)
  have hs := validS hS
  clear h hS
  go_enter Try.func43, Try.ntmps43
  go_wp2_with fail
  refine hs.mono ?_
  rintro e w1 ⟨rfl, hw⟩
  obtain rfl : W = w1 := hw.symm
  go_wp2_with fail
  refine hv.mono ?_
  rintro e w1 ⟨rfl, hw⟩
  obtain rfl : W = w1 := hw.symm
  go_wp2_with fail
  go_ret
  exact ⟨rfl, rfl⟩

set_option maxHeartbeats 800000 in
set_option maxRecDepth 100000 in
theorem union2V {b n : Nat} {f : Nat → Bool} (h : Void W v) (hS : SetAt W b n f) : Calls Try.prog 19 #[.pointer (some ⟨b, 0, none⟩), .pointer v] W fun e w' => e = .returned (.int .i64 1) ∧ w' = W := by
  have hv := match2V h hS
  clear h hS
  go_enter Try.func19, Try.ntmps19
  go_wp2_with fail
  refine hv.mono ?_
  rintro e w1 ⟨rfl, hw⟩
  obtain rfl : W = w1 := hw.symm
  go_wp2_with fail
  go_ret
  exact ⟨rfl, rfl⟩

set_option maxHeartbeats 800000 in
set_option maxRecDepth 100000 in
theorem minus2V {b n : Nat} {f : Nat → Bool} (h : Void W v) (hS : SetAt W b n f) : Calls Try.prog 21 #[.pointer (some ⟨b, 0, none⟩), .pointer v] W fun e w' => e = .returned (.int .i64 1) ∧ w' = W := by
  have hv := match2V h hS
  clear h hS
  go_enter Try.func21, Try.ntmps21
  go_wp2_with fail
  refine hv.mono ?_
  rintro e w1 ⟨rfl, hw⟩
  obtain rfl : W = w1 := hw.symm
  go_wp2_with fail
  go_ret
  exact ⟨rfl, rfl⟩
end

set_option maxRecDepth 100000 in
set_option maxHeartbeats 2000000 in
/-- All's iterator of what is no set. -/
theorem allSeqV (n : Nat) (hn : 3 ≤ n) {v : Option Addr} (bm : Nat) (w : World) (hm : w.cell? ⟨bm, 0, none⟩ = some (.pointer v)) (hV : Void w v) (encs : Nat → Array Value) :
    SeqN Fence.wide n Try.prog 50 #[.pointer (some ⟨bm, 0, none⟩)] encs 0 w := fun lr J Jx W hW hY h0 => by
  have hm' := (hW.cell (World.block_lt_of_cell? _ _ hm)).trans hm
  have hnum := numberV (hV.below hW)
  have hsize := sizeV (hV.below hW)
  have h1 : 1 ≤ n := by omega
  have H0 := Lib.hid h0
  clear hm hV hW hY h0
  show CallsIn Fence.wide n Try.prog 50 #[.func (.yield lr) #[] #[], .pointer (some ⟨bm, 0, none⟩)] W _
  refine callsIn_of_wp Try.func50 rfl trivial ?_ rfl
  simp only [Try.ntmps50, List.size_toArray, List.length_cons, List.length_nil, Nat.reduceAdd, Nat.reduceSub, Array.replicate_succ, Array.replicate_zero, List.push_toArray, List.append_toArray, List.nil_append, List.cons_append]
  gi_wp2_with fail
  refine ⟨trivial, (callsIn_wide.2 hnum).mono ?_⟩
  rintro e w' ⟨rfl, hw⟩
  obtain rfl : W = w' := hw.symm
  gi_wp2_with fail
  refine ⟨trivial, (callsIn_wide.2 hsize).mono ?_⟩
  rintro e w' ⟨rfl, hw⟩
  obtain rfl : W = w' := hw.symm
  gi_wp2_with fail
  gi_loopw [9] (fun i wr => i = .int .i64 0 ∧ wr = W) (fun i _ => 0)
  case atStart => exact ⟨rfl, rfl⟩
  case round =>
    obtain ⟨rfl, hw⟩ := hrel
    obtain rfl : W = wr := hw.symm
    gi_wp2
    go_end0
    exact ⟨⟨_, rfl⟩, .inl H0.out⟩

set_option maxHeartbeats 4000000 in
set_option maxRecDepth 100000 in
theorem nextV_in (n : Nat) (hn : 6 ≤ n) {v : Option Addr} (i : Int) (w : World) (hS : Void w v) :
    CallsIn Fence.wide n Try.prog 25 #[.pointer v, .int .i64 i] w fun e w' => e = .returned (.tuple #[.int .i64 ((nxt (([] : List Nat)) i).getD 0 : Nat), .bool (nxt (([] : List Nat)) i).isSome]) ∧ Below w.heap.size w w' := by
  have h1 : 1 ≤ n := by omega
  obtain ⟨l, hl⟩ : ∃ l, l = ([] : List Nat) := ⟨_, rfl⟩
  obtain ⟨S, hSz⟩ : ∃ S, S = w.heap.size := ⟨_, rfl⟩
  obtain ⟨WR, hWR⟩ : ∃ WR, WR = (((w.alloc (.cells #[.int .i64 i] 3)).alloc (.cells #[.int .i64 0] 3)).alloc (.cells #[.bool false] 4)).alloc (.cells #[.pointer v] 27) := ⟨_, rfl⟩
  have hb : Below w.heap.size w WR := by rw [hWR]; exact ((((Below.refl _ _).alloc (Nat.le_refl _) _).alloc (by simp) _).alloc (by simp; omega) _).alloc (by simp; omega) _
  have b0 : Boxed WR S 3 (.int .i64 i) := by rw [hWR]; exact (((boxed_at hSz.symm _ _).alloc _).alloc _).alloc _
  have b1 : Boxed WR (S + 1) 3 (.int .i64 0) := by rw [hWR]; exact ((boxed_at (by simp [hSz]) _ _).alloc _).alloc _
  have b2 : Boxed WR (S + 1 + 1) 4 (.bool false) := by rw [hWR]; exact (boxed_at (by simp [hSz]) _ _).alloc _
  have b3 : Boxed WR (S + 1 + 1 + 1) 27 (.pointer v) := by rw [hWR]; exact boxed_at (by simp [hSz]) _ _
  have hsR : WR.heap.size = S + 1 + 1 + 1 + 1 := by rw [hWR, hSz]; simp
  have hseq := allSeqV (n - 1) (by omega) (S + 1 + 1 + 1) WR b3.cell (hS.below hb) (fun i => #[Value.int .i64 (nth l i : Nat)])
  replace hseq : SeqN Fence.wide (n - 1) Try.prog 50 #[.pointer (some ⟨S + 1 + 1 + 1, 0, none⟩)] (fun i => #[Value.int .i64 (nth l i : Nat)]) l.length WR := by rw [hl] at hseq ⊢; exact hseq
  rw [← hl]
  have HSEQ := Lib.hid hseq
  have HSR := Lib.hid hsR
  have HB0 := Lib.hid b0
  have HB1 := Lib.hid b1
  have HB2 := Lib.hid b2
  have HB := Lib.hid hb
  have HSZ := Lib.hid hSz
  clear hseq hsR b0 b1 b2 b3 hb hS hl
  refine callsIn_of_wp_marks Try.func25 rfl trivial ?_ rfl
  simp only [Try.ntmps25, List.size_toArray, List.length_nil, Array.size_empty, List.length_cons, Nat.reduceAdd, Nat.reduceSub, Array.replicate_succ, Array.replicate_zero, List.push_toArray, List.append_toArray, List.nil_append, List.cons_append, Array.empty_append]
  gi_wp2_with fail
  refine ⟨trivial, (callsIn_wide.2 (allMakeS _ _)).mono ?_⟩
  rintro e V1 ⟨rfl, rfl⟩
  gi_wp2_with fail
  rename_i Kd hKd
  rw [← hWR, ← hSz]
  clear hWR hSz
  refine rangeN (encs := fun i => #[Value.int .i64 (nth l i : Nat)]) (fun x T => ((T.setIfInBounds 9 (.int .i64 (nth l x : Nat))).setIfInBounds 6 (.int .i64 (nth l x : Nat)))) rfl h1 (gf := 50) (lb := #[.pointer (some ⟨S + 1 + 1 + 1, 0, none⟩)]) rfl trivial (enters_of Try.func50 (by kernel_rfl) rfl)
    HSEQ.out (Below.refl _ _) (fun _ => rfl)
    (fun k W => Boxed W S 3 (.int .i64 i) ∧ Boxed W (S + 1) 3 (.int .i64 0) ∧ Boxed W (S + 1 + 1) 4 (.bool false) ∧ Below S WR W ∧ nxt (l.take k) i = none)
    (fun c _ W => c = .ret ∧ ∃ x, nxt l i = some x ∧ Boxed W (S + 1) 3 (.int .i64 (x : Nat)) ∧ Boxed W (S + 1 + 1) 4 (.bool true) ∧ Below S WR W)
    (fun s A C h ho => by
      have hz := HSR.out
      exact ⟨own_boxed h.1 ho (by omega), own_boxed h.2.1 ho (by omega), own_boxed h.2.2.1 ho (by omega), own_below h.2.2.2.1 ho (by omega) (by omega), h.2.2.2.2⟩)
    (fun c s A C h ho => by
      have hz := HSR.out
      obtain ⟨h0, x, h1, h2, h3, h4⟩ := h
      exact ⟨h0, x, h1, own_boxed h2 ho (by omega), own_boxed h3 ho (by omega), own_below h4 ho (by omega) (by omega)⟩)
    (fun A hA => by
      have hz := HSR.out
      exact ⟨boxed_below HB0.out hA (by omega), boxed_below HB1.out hA (by omega), boxed_below HB2.out hA (by omega), hA.mono (by omega), rfl⟩) ?assign ?body ?done ?stop
  case assign =>
    intro lr x W K hK
    gi_wp2
    exact hK
  case body =>
    rintro lr x W ⟨hb0, hb1, hb2, hbW, hnx⟩ hlt hsz
    obtain ⟨y, hy⟩ : ∃ y, l[x]? = some y := ⟨_, List.getElem?_eq_getElem hlt⟩
    have hd : nth l x = y := nth_at hy
    have hnx2 := nxt_take hnx hy
    have c0 := hb0.cell
    have c1 := hb1.cell
    have f1 := hb1.frozen
    have c2 := hb2.cell
    have f2 := hb2.frozen
    have HBB := Lib.hid (And.intro hb0 (And.intro hb1 (And.intro hb2 hbW)))
    have HY := Lib.hid hy
    have hz := HSR.out
    clear hb0 hb1 hb2 hbW hnx hy
    simp only [hd, List.setIfInBounds_toArray, List.set_cons_succ, List.set_cons_zero]
    clear hd
    by_cases hi : i ≤ (y : Int)
    · rw [if_pos hi] at hnx2
      have HNX := Lib.hid (nxt_of_take hnx2)
      have hdi : decide (i ≤ (y : Int)) = true := decide_eq_true hi
      clear hnx2
      gi_wp2_with fail
      obtain ⟨hb0, hb1, hb2, hbW⟩ := HBB.out
      refine ⟨(keepsIn_set _ _ (.inl (by omega))).trans (keepsIn_set _ _ (.inl (by omega))), rfl, y, HNX.out, boxed_other (hb1.set _) (by omega), (boxed_other hb2 (by omega)).set _, ?_⟩
      exact (hbW.setCell (p := ⟨S + 1, 0, none⟩) (by show S ≤ S + 1; omega) _).setCell (p := ⟨S + 1 + 1, 0, none⟩) (by show S ≤ S + 1 + 1; omega) _
    · rw [if_neg hi] at hnx2
      have HNX := Lib.hid hnx2
      have hdi : decide (i ≤ (y : Int)) = false := decide_eq_false hi
      clear hnx2
      gi_wp2_with fail
      obtain ⟨hb0, hb1, hb2, hbW⟩ := HBB.out
      exact ⟨KeepsIn.refl _ _ _, hb0, hb1, hb2, hbW, HNX.out⟩
  case done =>
    rintro D W hD ⟨hb0, hb1, hb2, hbW, hnx⟩ hK
    have c1 := hb1.cell
    have f1 := hb1.frozen
    have c2 := hb2.cell
    have f2 := hb2.frozen
    refine hKd _ _ ?_
    gi_wp2_with fail
    have hz := HSR.out
    have hS := HSZ.out
    have hKlt := (Array.getElem?_eq_some_iff.1 hK).1
    obtain ⟨X, hX⟩ : ∃ X, X = (W.setCell ⟨S + 1, 0, none⟩ (.int .i64 0)).setCell ⟨S + 1 + 1, 0, none⟩ (.bool false) := ⟨_, rfl⟩
    have hb1' : Boxed X (S + 1) 3 (.int .i64 0) := by rw [hX]; exact boxed_other (hb1.set _) (by omega)
    have hb2' : Boxed X (S + 1 + 1) 4 (.bool false) := by rw [hX]; exact (boxed_other hb2 (by omega)).set _
    have hbX : Below S W X := by rw [hX]; exact ((Below.refl _ _).setCell (p := ⟨S + 1, 0, none⟩) (by show S ≤ S + 1; omega) _).setCell (p := ⟨S + 1 + 1, 0, none⟩) (by show S ≤ S + 1 + 1; omega) _
    have hKX : X.heap[D]? = some (.deferred (some [])) := by
      rw [hX]; exact (Below.heap_setCell _ _ _ _ (by show D ≠ S + 1 + 1; omega)).trans ((Below.heap_setCell _ _ _ _ (by show D ≠ S + 1; omega)).trans hK)
    rw [← hX]
    have r1 := (boxed_put (D := D) (.deferred none) hb1' (by omega)).cell
    have r2 := (boxed_put (D := D) (.deferred none) hb2' (by omega)).cell
    rw [List.take_length] at hnx
    refine ⟨by simp, .inl ⟨_, _, rfl, run_takeDeferred hKX, ?_⟩⟩
    refine ⟨.tuple #[.int .i64 0, .bool false], ?_, by rw [hnx]; rfl, ?_⟩
    · simp [results, Try.f25, go_sem, r1, r2]
    · rw [← hS]
      have hb := (((hS ▸ HB.out : Below S w WR).trans hbW).trans hbX)
      exact hb.trans ⟨rfl, rfl, rfl, by simp, fun k hk => World.putObj_heap_other (by omega)⟩
  case stop =>
    rintro D c k W hD hk ⟨rfl, x, hx, hb1, hb2, hbW⟩ hK
    have c1 := hb1.cell
    have f1 := hb1.frozen
    have c2 := hb2.cell
    have f2 := hb2.frozen
    gi_wp2_with fail
    have hz := HSR.out
    have hS := HSZ.out
    have hKlt := (Array.getElem?_eq_some_iff.1 hK).1
    have r1 := (boxed_put (D := D) (.deferred none) hb1 (by omega)).cell
    have r2 := (boxed_put (D := D) (.deferred none) hb2 (by omega)).cell
    refine ⟨by simp, .inl ⟨_, _, rfl, run_takeDeferred hK, ?_⟩⟩
    refine ⟨.tuple #[.int .i64 (x : Nat), .bool true], ?_, by rw [hx]; rfl, ?_⟩
    · simp [results, Try.f25, go_sem, r1, r2]
    · rw [← hS]
      have hb := ((hS ▸ HB.out : Below S w WR).trans hbW)
      exact hb.trans ⟨rfl, rfl, rfl, by simp, fun k hk => World.putObj_heap_other (by omega)⟩

theorem nextV {v : Option Addr} (i : Int) (w : World) (hS : Void w v) : Calls Try.prog 25 #[.pointer v, .int .i64 i] w fun e w' => e = .returned (.tuple #[.int .i64 ((nxt (([] : List Nat)) i).getD 0 : Nat), .bool (nxt (([] : List Nat)) i).isSome]) ∧ Below w.heap.size w w' :=
  callsIn_wide.1 (nextV_in 6 (by omega) i w hS)

set_option maxHeartbeats 800000 in
set_option maxRecDepth 100000 in
theorem lowestV {v : Option Addr} (w : World) (hS : Void w v) : Calls Try.prog 27 #[.pointer v] w fun e w' => e = .returned (.tuple #[.int .i64 ((nxt (([] : List Nat)) 0).getD 0 : Nat), .bool (nxt (([] : List Nat)) 0).isSome]) ∧ Below w.heap.size w w' := by
  have h := nextV 0 w hS
  clear hS
  generalize (nxt (([] : List Nat)) 0).getD 0 = r at *
  generalize (nxt (([] : List Nat)) 0).isSome = q at *
  go_enter Try.func27, Try.ntmps27
  go_wp2_with (go_at_call 25; refine h.mono ?_; rintro e w' ⟨rfl, hb⟩)
  go_ret2
  exact ⟨rfl, hb⟩
set_option maxHeartbeats 4000000 in
set_option maxRecDepth 100000 in
theorem sameV_in (n : Nat) (hn : 6 ≤ n) {v : Option Addr} (w : World) (hS : Void w v) :
    CallsIn Fence.wide n Try.prog 33 #[.pointer v, .slice none 0 0] w fun e w' => e = .returned (.bool true) ∧ Below w.heap.size w w' := by
  have h1 : 1 ≤ n := by omega
  obtain ⟨S, hSz⟩ : ∃ S, S = w.heap.size := ⟨_, rfl⟩
  obtain ⟨WR, hWR⟩ : ∃ WR, WR = ((((w.alloc (.cells #[.pointer v] 27)).alloc (.cells #[.slice none 0 0] 24)).alloc (.cells #[.bool false] 4)).alloc (.cells #[.int .i64 0] 3)).alloc (.cells #[.pointer v] 27) := ⟨_, rfl⟩
  have hb : Below w.heap.size w WR := by rw [hWR]; exact (((((Below.refl _ _).alloc (Nat.le_refl _) _).alloc (by simp) _).alloc (by simp; omega) _).alloc (by simp; omega) _).alloc (by simp; omega) _
  have b0 : Boxed WR S 27 (.pointer v) := by rw [hWR]; exact ((((boxed_at hSz.symm _ _).alloc _).alloc _).alloc _).alloc _
  have b1 : Boxed WR (S + 1) 24 (.slice none 0 0) := by rw [hWR]; exact (((boxed_at (by simp [hSz]) _ _).alloc _).alloc _).alloc _
  have b2 : Boxed WR (S + 1 + 1) 4 (.bool false) := by rw [hWR]; exact ((boxed_at (by simp [hSz]) _ _).alloc _).alloc _
  have b3 : Boxed WR (S + 1 + 1 + 1) 3 (.int .i64 0) := by rw [hWR]; exact (boxed_at (by simp [hSz]) _ _).alloc _
  have b4 : Boxed WR (S + 1 + 1 + 1 + 1) 27 (.pointer v) := by rw [hWR]; exact boxed_at (by simp [hSz]) _ _
  have hsR : WR.heap.size = S + 1 + 1 + 1 + 1 + 1 := by rw [hWR, hSz]; simp
  have hseq := allSeqV (n - 1) (by omega) (S + 1 + 1 + 1 + 1) WR b4.cell (hS.below hb) (fun i => #[Value.int .i64 (nth [] i : Nat)])
  have HSEQ := Lib.hid hseq
  have HSR := Lib.hid hsR
  have HB0 := Lib.hid b0
  have HB1 := Lib.hid b1
  have HB2 := Lib.hid b2
  have HB3 := Lib.hid b3
  have HB := Lib.hid hb
  have HSZ := Lib.hid hSz
  have HSW := Lib.hid hS
  clear hseq hsR b0 b1 b2 b3 b4 hb hS
  refine callsIn_of_wp_marks Try.func33 rfl trivial ?_ rfl
  simp only [Try.ntmps33, List.size_toArray, List.length_nil, Array.size_empty, List.length_cons, Nat.reduceAdd, Nat.reduceSub, Array.replicate_succ, Array.replicate_zero, List.push_toArray, List.append_toArray, List.nil_append, List.cons_append, Array.empty_append]
  gi_wp2_with fail
  refine ⟨trivial, (callsIn_wide.2 (allMakeS _ _)).mono ?_⟩
  rintro e V1 ⟨rfl, rfl⟩
  gi_wp2_with fail
  refine ⟨trivial, (callsIn_wide.2 (yieldsS _ _ _)).mono ?_⟩
  rintro e V1 ⟨rfl, rfl⟩
  gi_wp2_with fail
  rename_i Kd hKd
  rw [← hWR, ← hSz]
  clear hWR hSz
  refine rangeN (encs := fun i => #[Value.int .i64 (nth [] i : Nat)]) (fun x T => ((T.setIfInBounds 10 (.int .i64 (nth [] x : Nat))).setIfInBounds 6 (.int .i64 (nth [] x : Nat)))) rfl h1 (gf := 50) (lb := #[.pointer (some ⟨S + 1 + 1 + 1 + 1, 0, none⟩)]) rfl trivial (enters_of Try.func50 (by kernel_rfl) rfl)
    HSEQ.out (Below.refl _ _) (fun _ => rfl)
    (fun k W => Boxed W (S + 1 + 1 + 1) 3 (.int .i64 (k : Nat)) ∧ Below (S + 1 + 1 + 1) WR W)
    (fun _ _ _ => False)
    (fun s A C h ho => by
      have hz := HSR.out
      exact ⟨own_boxed h.1 ho (by omega), own_below h.2 ho (by omega) (by omega)⟩)
    (fun c s A C h ho => h)
    (fun A hA => by
      have hz := HSR.out
      exact ⟨boxed_below HB3.out hA (by omega), hA.mono (by omega)⟩) ?assign ?body ?done ?stop
  case assign =>
    intro lr x W K hK
    gi_wp2
    exact hK
  case body =>
    rintro lr x W _ hlt _
    exact absurd hlt (by omega)
  case done =>
    rintro D W hD ⟨hb3, hbW⟩ hK
    have hz := HSR.out
    have hzS := HSZ.out
    have hwW : Below w.heap.size w W := HB.out.trans (hbW.mono (by omega))
    have hlenq := lenV (HSW.out.below (hwW.trans (Below.drewSelf)))
    replace hb3 : Boxed W (S + 1 + 1 + 1) 3 (.int .i64 0) := hb3
    have b0 := boxed_below HB0.out hbW (by omega)
    have b1 := boxed_below HB1.out hbW (by omega)
    have b2 := boxed_below HB2.out hbW (by omega)
    have c0 : W.drew.cell? _ = _ := b0.cell
    have c1 : W.drew.cell? _ = _ := b1.cell
    have c2 : W.drew.cell? _ = _ := b2.cell
    have f2 : W.drew.frozen? _ = _ := b2.frozen
    have c3 : W.drew.cell? _ = _ := hb3.cell
    have HB3W := Lib.hid hb3
    have HBW := Lib.hid hbW
    have HB2W := Lib.hid b2
    have HK := Lib.hid hK
    clear hb3 hbW hwW b0 b1 b2 hK hz hzS
    refine hKd _ _ ?_
    gi_wp2_with fail
    refine wpIn_wide.2 ?_
    refine wp_region_still_tail 10 (by kernel_rfl) (by kernel_rfl) ?_
    show wpStill _ _ W.drew _ _ _
    simp only [List.take_succ_cons, List.take_zero, List.drop_succ_cons, List.drop_zero]
    repeat (first | still_step | still_call hlenq)
    refine wpStill_nil ?_
    show wpList _ _ _ _ _ W.drew
    go_wp2_with fail
    gi_wp2_with fail
    have hz := HSR.out
    have hS := HSZ.out
    have hK : W.drew.heap[D]? = some (.deferred (some [])) := HK.out
    have hKlt := (Array.getElem?_eq_some_iff.1 hK).1
    obtain ⟨X, hX⟩ : ∃ X, X = (W.setCell ⟨S + 1 + 1, 0, none⟩ (.bool true)).drew := ⟨_, rfl⟩
    have hb2' : Boxed X (S + 1 + 1) 4 (.bool true) := by rw [hX]; exact HB2W.out.set (.bool true)
    have hbX : Below S W X := by rw [hX]; exact ((Below.refl S W).setCell (p := ⟨S + 1 + 1, 0, none⟩) (by show S ≤ S + 1 + 1; omega) _).drew
    have hKX : X.heap[D]? = some (.deferred (some [])) := by
      rw [hX]; exact (Below.heap_setCell _ _ _ _ (by show D ≠ S + 1 + 1; omega)).trans hK
    rw [← hX]
    have r2 := (boxed_put (D := D) (.deferred none) hb2' (by omega)).cell
    refine ⟨by simp, .inl ⟨_, _, rfl, run_takeDeferred hKX, ?_⟩⟩
    refine ⟨.bool true, ?_, rfl, ?_⟩
    · simp [results, Try.f33, go_sem, r2]
    · rw [← hS]
      have hb := (((hS ▸ HB.out : Below S w WR).trans (HBW.out.mono (by omega))).trans hbX)
      exact hb.trans ⟨rfl, rfl, rfl, by simp, fun k hk => World.putObj_heap_other (by omega)⟩
  case stop =>
    rintro D c k W hD hk h hK
    exact h.elim

theorem sameV {v : Option Addr} (w : World) (hS : Void w v) :
    Calls Try.prog 33 #[.pointer v, .slice none 0 0] w fun e w' => e = .returned (.bool true) ∧ Below w.heap.size w w' := callsIn_wide.1 (sameV_in 6 (by omega) w hS)
end Go.Proofs.Ytejkbanecbjdoaa
