/- same, where the slice holds just the members. -/
import Derived.Test.YtejkbanecbjdoaaSsNext
import Derived.Deep.QuietTactic
import Derived.StillTailTactics
import Derived.BigQuiet
import Derived.Outline
namespace Go.Proofs.Ytejkbanecbjdoaa
open Go Go.RowKit

attribute [local go_sem] Oper.semAt_some

/-- From p on there are these numbers, side by side. -/
def RdN (W : World) (p : Option Addr) (zs : List Nat) : Prop := ∀ j x, zs[j]? = some x → ∃ g o, p = some ⟨g, o, none⟩ ∧ g < W.heap.size ∧ W.cell? ⟨g, o + j, none⟩ = some (.int .i64 (x : Nat))

theorem RdN.below {W W' : World} {p : Option Addr} {zs : List Nat} (h : RdN W p zs) (hb : Below W.heap.size W W') : RdN W' p zs := fun j x hx => by
  obtain ⟨g, o, h1, h2, h3⟩ := h j x hx
  exact ⟨g, o, h1, Nat.lt_of_lt_of_le h2 hb.size, (hb.cell (p := ⟨g, o + j, none⟩) h2).trans h3⟩

theorem RdN.nil (W : World) (p : Option Addr) : RdN W p [] := fun j x h => by simp at h

theorem els_mem {N : Nat} {f : Nat → Bool} {j y : Nat} (h : (els N f)[j]? = some y) : y < N ∧ f y = true := by
  have := List.mem_of_getElem? h
  unfold els at this
  rw [List.mem_filter, List.mem_range] at this
  exact this

set_option maxHeartbeats 4000000 in
set_option maxRecDepth 100000 in
theorem sameS_in (n : Nat) (hn : 6 ≤ n) {b N : Nat} {f : Nat → Bool} {p : Option Addr} {len c : Nat} (w : World) (hS : SetAt w b N f) (hR : RdN w p (els N f)) (hlen : (els N f).length = len) :
    CallsIn Fence.wide n Try.prog 33 #[.pointer (some ⟨b, 0, none⟩), .slice p len c] w fun e w' => e = .returned (.bool true) ∧ Below w.heap.size w w' := by
  have h1 : 1 ≤ n := by omega
  obtain ⟨S, hSz⟩ : ∃ S, S = w.heap.size := ⟨_, rfl⟩
  obtain ⟨WR, hWR⟩ : ∃ WR, WR = ((((w.alloc (.cells #[.pointer (some ⟨b, 0, none⟩)] 27)).alloc (.cells #[.slice p len c] 24)).alloc (.cells #[.bool false] 4)).alloc (.cells #[.int .i64 0] 3)).alloc (.cells #[.pointer (some ⟨b, 0, none⟩)] 27) := ⟨_, rfl⟩
  have hb : Below w.heap.size w WR := by rw [hWR]; exact (((((Below.refl _ _).alloc (Nat.le_refl _) _).alloc (by simp) _).alloc (by simp; omega) _).alloc (by simp; omega) _).alloc (by simp; omega) _
  have b0 : Boxed WR S 27 (.pointer (some ⟨b, 0, none⟩)) := by rw [hWR]; exact ((((boxed_at hSz.symm _ _).alloc _).alloc _).alloc _).alloc _
  have b1 : Boxed WR (S + 1) 24 (.slice p len c) := by rw [hWR]; exact (((boxed_at (by simp [hSz]) _ _).alloc _).alloc _).alloc _
  have b2 : Boxed WR (S + 1 + 1) 4 (.bool false) := by rw [hWR]; exact ((boxed_at (by simp [hSz]) _ _).alloc _).alloc _
  have b3 : Boxed WR (S + 1 + 1 + 1) 3 (.int .i64 0) := by rw [hWR]; exact (boxed_at (by simp [hSz]) _ _).alloc _
  have b4 : Boxed WR (S + 1 + 1 + 1 + 1) 27 (.pointer (some ⟨b, 0, none⟩)) := by rw [hWR]; exact boxed_at (by simp [hSz]) _ _
  have hsR : WR.heap.size = S + 1 + 1 + 1 + 1 + 1 := by rw [hWR, hSz]; simp
  have hseq := allSeqS (n - 1) (by omega) (S + 1 + 1 + 1 + 1) WR b4.cell (hS.below hb)
  have HSEQ := Lib.hid hseq
  have HSR := Lib.hid hsR
  have HB0 := Lib.hid b0
  have HB1 := Lib.hid b1
  have HB2 := Lib.hid b2
  have HB3 := Lib.hid b3
  have HB := Lib.hid hb
  have HSZ := Lib.hid hSz
  have HSW := Lib.hid hS
  have HRW := Lib.hid hR
  have HLN := Lib.hid hlen
  have hll := els_length_le N f
  have htop := hS.top
  have hlen40 : len ≤ 34 := by omega
  clear hseq hsR b0 b1 b2 b3 b4 hb hS hlen hR hll htop
  refine callsIn_of_wp_marks Try.func33 rfl trivial ?_ rfl
  simp only [Try.ntmps33, List.size_toArray, List.length_nil, Array.size_empty, List.length_cons, Nat.reduceAdd, Nat.reduceSub, Array.replicate_succ, Array.replicate_zero, List.push_toArray, List.append_toArray, List.nil_append, List.cons_append, Array.empty_append]
  gi_wp2_with fail
  refine ⟨trivial, (callsIn_wide.2 (allMakeS _ _)).mono ?_⟩
  rintro e V1 ⟨rfl, rfl⟩
  gi_wp2_with fail
  refine ⟨trivial, (callsIn_wide.2 (yieldsS _ _ _)).mono ?_⟩
  rintro e V1 ⟨rfl, rfl⟩
  gi_wp2_with fail
  rename_i Kd hKd
  rw [← hWR, ← hSz]
  clear hWR hSz
  obtain ⟨l, hl⟩ : ∃ l, l = els N f := ⟨_, rfl⟩
  have HL := Lib.hid hl
  have hseq := HSEQ.out
  have hln := HLN.out
  rw [← hl] at hseq hln
  have HSEQ2 := Lib.hid hseq
  have HLN2 := Lib.hid hln
  clear hl HSEQ hseq hln HLN
  refine rangeN (encs := fun i => #[Value.int .i64 (nth l i : Nat)]) (fun x T => ((T.setIfInBounds 10 (.int .i64 (nth l x : Nat))).setIfInBounds 6 (.int .i64 (nth l x : Nat)))) rfl h1 (gf := 50) (lb := #[.pointer (some ⟨S + 1 + 1 + 1 + 1, 0, none⟩)]) rfl trivial (enters_of Try.func50 (by kernel_rfl) rfl)
    HSEQ2.out (Below.refl _ _) (fun _ => rfl)
    (fun k W => Boxed W (S + 1 + 1 + 1) 3 (.int .i64 (k : Nat)) ∧ Below (S + 1 + 1 + 1) WR W)
    (fun _ _ _ => False)
    (fun s A C h ho => by
      have hz := HSR.out
      exact ⟨own_boxed h.1 ho (by omega), own_below h.2 ho (by omega) (by omega)⟩)
    (fun c s A C h ho => h)
    (fun A hA => by
      have hz := HSR.out
      exact ⟨boxed_below HB3.out hA (by omega), hA.mono (by omega)⟩) ?assign ?body ?done ?stop
  case assign =>
    intro lr x W K hK
    gi_wp2
    exact hK
  case body =>
    rintro lr x W ⟨hb3, hbW⟩ hlt hsz
    have hz := HSR.out
    have hzS := HSZ.out
    obtain ⟨y, hy⟩ : ∃ y, l[x]? = some y := ⟨_, List.getElem?_eq_getElem hlt⟩
    have hd : nth l x = y := nth_at hy
    rw [HL.out] at hy
    obtain ⟨hyN, hyf⟩ := els_mem hy
    have hwW : Below w.heap.size w W := HB.out.trans (hbW.mono (by omega))
    obtain ⟨g, o, rfl, hg, hc⟩ := (HRW.out.below hwW) x y hy
    have hhas := hasS (HSW.out.below hwW) y hyN
    rw [hyf] at hhas
    have HHAS := Lib.hid hhas
    have c0 := (boxed_below HB0.out hbW (by omega)).cell
    have c1 := (boxed_below HB1.out hbW (by omega)).cell
    have c3 := hb3.cell
    have f3 := hb3.frozen
    have hx0 : (0 : Int) ≤ (x : Int) := by omega
    have hx1 : (x : Int) < (len : Int) := by have := HLN2.out; omega
    have HB3W := Lib.hid hb3
    have HBW := Lib.hid hbW
    clear hb3 hbW hy hwW hhas hyf hyN hz hzS
    simp only [hd, List.setIfInBounds_toArray, List.set_cons_succ, List.set_cons_zero]
    clear hd
    gi_wp2_with fail
    refine ⟨trivial, (fun h => by cases h), (CallsIn.inRound lr (callsIn_wide.2 HHAS.out)).mono ?_⟩
    rintro e W2 ⟨rfl, m, rfl⟩
    have hb2 : Below W.heap.size W (W.drewN m) := Below.drewN' m (Below.refl _ _)
    have hb3' : Boxed (W.drewN m) (S + 1 + 1 + 1) 3 (.int .i64 (x : Nat)) := HB3W.out
    have c3 := hb3'.cell
    have f3 := hb3'.frozen
    gi_wp2_with fail
    have hz := HSR.out
    have hset := hb3'.set (.int .i64 (x + 1 : Int))
    exact ⟨(KeepsIn.of_below hb2).trans (keepsIn_set _ _ (.inl (by omega))), by simpa using hset, HBW.out.trans ((hb2.mono (by show S + 1 + 1 + 1 ≤ W.heap.size; have := HBW.out.size; omega)).setCell (p := ⟨S + 1 + 1 + 1, 0, none⟩) (Nat.le_refl _) _)⟩
  case done =>
    rintro D W hD ⟨hb3, hbW⟩ hK
    have hz := HSR.out
    have hzS := HSZ.out
    have hwW : Below w.heap.size w W := HB.out.trans (hbW.mono (by omega))
    have hlenq := lenS (HSW.out.below (hwW.trans (Below.drewSelf)))
    rw [← HL.out, HLN2.out] at hlenq
    rw [HLN2.out] at hb3
    have b0 := boxed_below HB0.out hbW (by omega)
    have b1 := boxed_below HB1.out hbW (by omega)
    have b2 := boxed_below HB2.out hbW (by omega)
    have c0 : W.drew.cell? _ = _ := b0.cell
    have c1 : W.drew.cell? _ = _ := b1.cell
    have c2 : W.drew.cell? _ = _ := b2.cell
    have f2 : W.drew.frozen? _ = _ := b2.frozen
    have c3 : W.drew.cell? _ = _ := hb3.cell
    have HB3W := Lib.hid hb3
    have HBW := Lib.hid hbW
    have HB2W := Lib.hid b2
    have HK := Lib.hid hK
    clear hb3 hbW hwW b0 b1 b2 hK hz hzS
    refine hKd _ _ ?_
    gi_wp2_with fail
    refine wpIn_wide.2 ?_
    refine wp_region_still_tail 10 (by kernel_rfl) (by kernel_rfl) ?_
    show wpStill _ _ W.drew _ _ _
    simp only [List.take_succ_cons, List.take_zero, List.drop_succ_cons, List.drop_zero]
    repeat (first | still_step | still_call hlenq)
    refine wpStill_nil ?_
    show wpList _ _ _ _ _ W.drew
    go_wp2_with fail
    gi_wp2_with fail
    have hz := HSR.out
    have hS := HSZ.out
    have hK : W.drew.heap[D]? = some (.deferred (some [])) := HK.out
    have hKlt := (Array.getElem?_eq_some_iff.1 hK).1
    obtain ⟨X, hX⟩ : ∃ X, X = (W.setCell ⟨S + 1 + 1, 0, none⟩ (.bool true)).drew := ⟨_, rfl⟩
    have hb2' : Boxed X (S + 1 + 1) 4 (.bool true) := by rw [hX]; exact HB2W.out.set (.bool true)
    have hbX : Below S W X := by rw [hX]; exact ((Below.refl S W).setCell (p := ⟨S + 1 + 1, 0, none⟩) (by show S ≤ S + 1 + 1; omega) _).drew
    have hKX : X.heap[D]? = some (.deferred (some [])) := by
      rw [hX]; exact (Below.heap_setCell _ _ _ _ (by show D ≠ S + 1 + 1; omega)).trans hK
    rw [← hX]
    have r2 := (boxed_put (D := D) (.deferred none) hb2' (by omega)).cell
    refine ⟨by simp, .inl ⟨_, _, rfl, run_takeDeferred hKX, ?_⟩⟩
    refine ⟨.bool true, ?_, rfl, ?_⟩
    · simp [results, Try.f33, go_sem, r2]
    · rw [← hS]
      have hb := (((hS ▸ HB.out : Below S w WR).trans (HBW.out.mono (by omega))).trans hbX)
      exact hb.trans ⟨rfl, rfl, rfl, by simp, fun k hk => World.putObj_heap_other (by omega)⟩
  case stop =>
    rintro D c k W hD hk h hK
    exact h.elim

theorem sameS {b N : Nat} {f : Nat → Bool} {p : Option Addr} {len c : Nat} (w : World) (hS : SetAt w b N f) (hR : RdN w p (els N f)) (hlen : (els N f).length = len) :
    Calls Try.prog 33 #[.pointer (some ⟨b, 0, none⟩), .slice p len c] w fun e w' => e = .returned (.bool true) ∧ Below w.heap.size w w' := callsIn_wide.1 (sameS_in 6 (by omega) w hS hR hlen)
end Go.Proofs.Ytejkbanecbjdoaa
