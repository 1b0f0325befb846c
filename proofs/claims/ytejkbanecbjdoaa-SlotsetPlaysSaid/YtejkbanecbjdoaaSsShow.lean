/- What a set and the document's set show. -/
import Derived.Test.YtejkbanecbjdoaaSsPair
import Derived.Deep.QuietTactic
import Derived.StillTailTactics
import Derived.BigQuiet
namespace Go.Proofs.Ytejkbanecbjdoaa
open Go Go.RowKit

attribute [local go_sem] Oper.semAt_some

set_option maxHeartbeats 4000000 in
set_option maxRecDepth 100000 in
theorem sameW_in (n : Nat) (hn : 6 ≤ n) {v : Option Addr} (p : Option Addr) (c : Nat) (w : World) (hS : Void w v) :
    CallsIn Fence.wide n Try.prog 33 #[.pointer v, .slice p 0 c] w fun e w' => e = .returned (.bool true) ∧ Below w.heap.size w w' := by
  have h1 : 1 ≤ n := by omega
  obtain ⟨S, hSz⟩ : ∃ S, S = w.heap.size := ⟨_, rfl⟩
  obtain ⟨WR, hWR⟩ : ∃ WR, WR = ((((w.alloc (.cells #[.pointer v] 27)).alloc (.cells #[.slice p 0 c] 24)).alloc (.cells #[.bool false] 4)).alloc (.cells #[.int .i64 0] 3)).alloc (.cells #[.pointer v] 27) := ⟨_, rfl⟩
  have hb : Below w.heap.size w WR := by rw [hWR]; exact (((((Below.refl _ _).alloc (Nat.le_refl _) _).alloc (by simp) _).alloc (by simp; omega) _).alloc (by simp; omega) _).alloc (by simp; omega) _
  have b0 : Boxed WR S 27 (.pointer v) := by rw [hWR]; exact ((((boxed_at hSz.symm _ _).alloc _).alloc _).alloc _).alloc _
  have b1 : Boxed WR (S + 1) 24 (.slice p 0 c) := by rw [hWR]; exact (((boxed_at (by simp [hSz]) _ _).alloc _).alloc _).alloc _
  have b2 : Boxed WR (S + 1 + 1) 4 (.bool false) := by rw [hWR]; exact ((boxed_at (by simp [hSz]) _ _).alloc _).alloc _
  have b3 : Boxed WR (S + 1 + 1 + 1) 3 (.int .i64 0) := by rw [hWR]; exact (boxed_at (by simp [hSz]) _ _).alloc _
  have b4 : Boxed WR (S + 1 + 1 + 1 + 1) 27 (.pointer v) := by rw [hWR]; exact boxed_at (by simp [hSz]) _ _
  have hsR : WR.heap.size = S + 1 + 1 + 1 + 1 + 1 := by rw [hWR, hSz]; simp
  have hseq := allSeqV (n - 1) (by omega) (S + 1 + 1 + 1 + 1) WR b4.cell (hS.below hb) (fun i => #[Value.int .i64 (nth [] i : Nat)])
  have HSEQ := Lib.hid hseq
  have HSR := Lib.hid hsR
  have HB0 := Lib.hid b0
  have HB1 := Lib.hid b1
  have HB2 := Lib.hid b2
  have HB3 := Lib.hid b3
  have HB := Lib.hid hb
  have HSZ := Lib.hid hSz
  have HSW := Lib.hid hS
  clear hseq hsR b0 b1 b2 b3 b4 hb hS
  refine callsIn_of_wp_marks Try.func33 rfl trivial ?_ rfl
  simp only [Try.ntmps33, List.size_toArray, List.length_nil, Array.size_empty, List.length_cons, Nat.reduceAdd, Nat.reduceSub, Array.replicate_succ, Array.replicate_zero, List.push_toArray, List.append_toArray, List.nil_append, List.cons_append, Array.empty_append]
  gi_wp2_with fail
  refine ⟨trivial, (callsIn_wide.2 (allMakeS _ _)).mono ?_⟩
  rintro e V1 ⟨rfl, rfl⟩
  gi_wp2_with fail
  refine ⟨trivial, (callsIn_wide.2 (yieldsS _ _ _)).mono ?_⟩
  rintro e V1 ⟨rfl, rfl⟩
  gi_wp2_with fail
  rename_i Kd hKd
  rw [← hWR, ← hSz]
  clear hWR hSz
  refine rangeN (encs := fun i => #[Value.int .i64 (nth [] i : Nat)]) (fun x T => ((T.setIfInBounds 10 (.int .i64 (nth [] x : Nat))).setIfInBounds 6 (.int .i64 (nth [] x : Nat)))) rfl h1 (gf := 50) (lb := #[.pointer (some ⟨S + 1 + 1 + 1 + 1, 0, none⟩)]) rfl trivial (enters_of Try.func50 (by kernel_rfl) rfl)
    HSEQ.out (Below.refl _ _) (fun _ => rfl)
    (fun k W => Boxed W (S + 1 + 1 + 1) 3 (.int .i64 (k : Nat)) ∧ Below (S + 1 + 1 + 1) WR W)
    (fun _ _ _ => False)
    (fun s A C h ho => by
      have hz := HSR.out
      exact ⟨own_boxed h.1 ho (by omega), own_below h.2 ho (by omega) (by omega)⟩)
    (fun c s A C h ho => h)
    (fun A hA => by
      have hz := HSR.out
      exact ⟨boxed_below HB3.out hA (by omega), hA.mono (by omega)⟩) ?assign ?body ?done ?stop
  case assign =>
    intro lr x W K hK
    gi_wp2
    exact hK
  case body =>
    rintro lr x W _ hlt _
    exact absurd hlt (by omega)
  case done =>
    rintro D W hD ⟨hb3, hbW⟩ hK
    have hz := HSR.out
    have hzS := HSZ.out
    have hwW : Below w.heap.size w W := HB.out.trans (hbW.mono (by omega))
    have hlenq := lenV (HSW.out.below (hwW.trans (Below.drewSelf)))
    replace hb3 : Boxed W (S + 1 + 1 + 1) 3 (.int .i64 0) := hb3
    have b0 := boxed_below HB0.out hbW (by omega)
    have b1 := boxed_below HB1.out hbW (by omega)
    have b2 := boxed_below HB2.out hbW (by omega)
    have c0 : W.drew.cell? _ = _ := b0.cell
    have c1 : W.drew.cell? _ = _ := b1.cell
    have c2 : W.drew.cell? _ = _ := b2.cell
    have f2 : W.drew.frozen? _ = _ := b2.frozen
    have c3 : W.drew.cell? _ = _ := hb3.cell
    have HB3W := Lib.hid hb3
    have HBW := Lib.hid hbW
    have HB2W := Lib.hid b2
    have HK := Lib.hid hK
    clear hb3 hbW hwW b0 b1 b2 hK hz hzS
    refine hKd _ _ ?_
    gi_wp2_with fail
    refine wpIn_wide.2 ?_
    refine wp_region_still_tail 10 (by kernel_rfl) (by kernel_rfl) ?_
    show wpStill _ _ W.drew _ _ _
    simp only [List.take_succ_cons, List.take_zero, List.drop_succ_cons, List.drop_zero]
    repeat (first | still_step | still_call hlenq)
    refine wpStill_nil ?_
    show wpList _ _ _ _ _ W.drew
    go_wp2_with fail
    gi_wp2_with fail
    have hz := HSR.out
    have hS := HSZ.out
    have hK : W.drew.heap[D]? = some (.deferred (some [])) := HK.out
    have hKlt := (Array.getElem?_eq_some_iff.1 hK).1
    obtain ⟨X, hX⟩ : ∃ X, X = (W.setCell ⟨S + 1 + 1, 0, none⟩ (.bool true)).drew := ⟨_, rfl⟩
    have hb2' : Boxed X (S + 1 + 1) 4 (.bool true) := by rw [hX]; exact HB2W.out.set (.bool true)
    have hbX : Below S W X := by rw [hX]; exact ((Below.refl S W).setCell (p := ⟨S + 1 + 1, 0, none⟩) (by show S ≤ S + 1 + 1; omega) _).drew
    have hKX : X.heap[D]? = some (.deferred (some [])) := by
      rw [hX]; exact (Below.heap_setCell _ _ _ _ (by show D ≠ S + 1 + 1; omega)).trans hK
    rw [← hX]
    have r2 := (boxed_put (D := D) (.deferred none) hb2' (by omega)).cell
    refine ⟨by simp, .inl ⟨_, _, rfl, run_takeDeferred hKX, ?_⟩⟩
    refine ⟨.bool true, ?_, rfl, ?_⟩
    · simp [results, Try.f33, go_sem, r2]
    · rw [← hS]
      have hb := (((hS ▸ HB.out : Below S w WR).trans (HBW.out.mono (by omega))).trans hbX)
      exact hb.trans ⟨rfl, rfl, rfl, by simp, fun k hk => World.putObj_heap_other (by omega)⟩
  case stop =>
    rintro D c k W hD hk h hK
    exact h.elim

theorem sameW {v : Option Addr} (p : Option Addr) (c : Nat) (w : World) (hS : Void w v) :
    Calls Try.prog 33 #[.pointer v, .slice p 0 c] w fun e w' => e = .returned (.bool true) ∧ Below w.heap.size w w' := callsIn_wide.1 (sameW_in 6 (by omega) p c w hS)

/-- A pointer compared with nil. -/
theorem run_eql_ptr_none2 {P : Program} (w : World) {tp te : TypeId} (hp : P.underlying tp = some (.pointer te)) (hte : (P.info? te).isSome = true) (v : Option Addr) :
    (binOp .eql tp (.pointer v) (.pointer none)).run P w = .ok (.bool v.isNone) w := by
  obtain ⟨j, hj⟩ := Option.isSome_iff_exists.1 hte
  have h : ∀ d : Nat, (Op.equalIn (d + 1) tp (.pointer v) (.pointer none)).run P w = .ok v.isNone w := fun d => by
    cases v <;> by_cases hz : j.size = 0 <;> simp [Op.equalIn, run_underlying hp, sizeOf, typeInfo, hj, hz]
  simp only [binOp]
  simp [Op.equal, Op.maxDepth, h 9999]

/-- What both answer from a world on. -/
structure Shw (U : World) (v r : Option Addr) (i fr : Int) (hv : Bool) (sz nv : Int) (nb : Bool) (lv : Int) (lb : Bool) (L : Nat) (l : List Nat) : Prop where
  has : ∀ X, Hid (Below U.heap.size U X) → Calls Try.prog 29 #[.pointer v, .int .i64 i] X fun e w' => e = .returned (.bool hv) ∧ Hid (Below U.heap.size U w')
  rhas : ∀ X, Hid (Below U.heap.size U X) → Calls Try.prog 30 #[.pointer r, .int .i64 i] X fun e w' => e = .returned (.bool hv) ∧ Hid (Below U.heap.size U w')
  size : ∀ X, Hid (Below U.heap.size U X) → Calls Try.prog 31 #[.pointer v] X fun e w' => e = .returned (.int .i64 sz) ∧ Hid (Below U.heap.size U w')
  rsize : ∀ X, Hid (Below U.heap.size U X) → Calls Try.prog 32 #[.pointer r] X fun e w' => e = .returned (.int .i64 sz) ∧ Hid (Below U.heap.size U w')
  next : ∀ X, Hid (Below U.heap.size U X) → Calls Try.prog 25 #[.pointer v, .int .i64 fr] X fun e w' => e = .returned (.tuple #[.int .i64 nv, .bool nb]) ∧ Hid (Below U.heap.size U w')
  rnext : ∀ X, Hid (Below U.heap.size U X) → Calls Try.prog 26 #[.pointer r, .int .i64 fr] X fun e w' => e = .returned (.tuple #[.int .i64 nv, .bool nb]) ∧ Hid (Below U.heap.size U w')
  low : ∀ X, Hid (Below U.heap.size U X) → Calls Try.prog 27 #[.pointer v] X fun e w' => e = .returned (.tuple #[.int .i64 lv, .bool lb]) ∧ Hid (Below U.heap.size U w')
  rlow : ∀ X, Hid (Below U.heap.size U X) → Calls Try.prog 28 #[.pointer r] X fun e w' => e = .returned (.tuple #[.int .i64 lv, .bool lb]) ∧ Hid (Below U.heap.size U w')
  rall : ∀ X, Hid (Below U.heap.size U X) → Calls Try.prog 34 #[.pointer r] X fun e w' => (∃ p c, e = .returned (.slice p L c) ∧ Hid (RdN w' p l)) ∧ Hid (Below U.heap.size U w')
  same : ∀ X p c, Hid (Below U.heap.size U X) → Hid (RdN X p l) → Calls Try.prog 33 #[.pointer v, .slice p L c] X fun e w' => e = .returned (.bool true) ∧ Hid (Below U.heap.size U w')

section
variable {F : Nat → Prop} {U : World} {v r : Option Addr}

theorem hb_then {X w' : World} (hX : Hid (Below U.heap.size U X)) (hb : Below X.heap.size X w') : Hid (Below U.heap.size U w') := Lib.hid (hX.out.trans (hb.mono hX.out.size))

theorem Pair.shows (h : Pair U v r F) (i fr : Int) : ∃ hv sz nv nb lv lb L l, Shw U v r i fr hv sz nv nb lv lb L l := by
  rcases h with ⟨rfl, rfl⟩ | ⟨b, rb, bi, c, n, f, rfl, rfl, hS, hR, h3, h4, h5, h6, h7⟩
  · have hnx : ∀ q X, Calls Try.prog 26 #[.pointer none, .int .i64 q] X fun e w' => e = .returned (.tuple #[.int .i64 ((nxt [] q).getD 0 : Nat), .bool (nxt [] q).isSome]) ∧ Below X.heap.size X w' := fun q X =>
      rnext q (by simp) ((rallN X).mono fun e w' ⟨he, hw⟩ => ⟨⟨none, 0, he, RdN.nil _ _⟩, same_below hw⟩)
    refine ⟨false, 0, 0, false, 0, false, 0, [], ⟨fun X hX => ?_, fun X hX => ?_, fun X hX => ?_, fun X hX => ?_, fun X hX => ?_, fun X hX => ?_, fun X hX => ?_, fun X hX => ?_, fun X hX => ?_, fun X p c hX hr => ?_⟩⟩
    · exact (hasV (void_nil X) i).mono fun e w' ⟨he, m, hw⟩ => ⟨he, hb_then hX (by subst hw; exact Below.drewN' m (Below.refl _ _))⟩
    · exact (rhasN i X).mono fun e w' ⟨he, hw⟩ => ⟨he, hb_then hX (same_below hw)⟩
    · exact (sizeV (void_nil X)).mono fun e w' ⟨he, hw⟩ => ⟨he, hb_then hX (same_below hw)⟩
    · exact (rsizeN X).mono fun e w' ⟨he, hw⟩ => ⟨he, hb_then hX (same_below hw)⟩
    · exact (nextV fr X (void_nil X)).mono fun e w' ⟨he, hw⟩ => ⟨he, hb_then hX hw⟩
    · exact (hnx fr X).mono fun e w' ⟨he, hw⟩ => ⟨he, hb_then hX hw⟩
    · exact (lowestV X (void_nil X)).mono fun e w' ⟨he, hw⟩ => ⟨he, hb_then hX hw⟩
    · exact (rlowest (hnx 0 X)).mono fun e w' ⟨he, hw⟩ => ⟨he, hb_then hX hw⟩
    · exact (rallN X).mono fun e w' ⟨he, hw⟩ => ⟨⟨none, 0, he, Lib.hid (RdN.nil _ _)⟩, hb_then hX (same_below hw)⟩
    · exact (sameW p c X (void_nil X)).mono fun e w' ⟨he, hw⟩ => ⟨he, hb_then hX hw⟩
  · have hl34 : (els n f).length ≤ 34 := by have := els_length_le n f; have := hS.top; omega
    have hal : ∀ X, Hid (Below U.heap.size U X) → Calls Try.prog 34 #[.pointer (some ⟨rb, 0, none⟩)] X fun e w' => (∃ p c, e = .returned (.slice p (els n f).length c) ∧ RdN w' p (els n f)) ∧ Below X.heap.size X w' := fun X hX =>
      (rall (hR.below hX.out)).mono fun e w' ⟨⟨p, c, he, hr, _⟩, hb⟩ => ⟨⟨p, c, he, hr⟩, hb⟩
    have hnx : ∀ q X, Hid (Below U.heap.size U X) → Calls Try.prog 26 #[.pointer (some ⟨rb, 0, none⟩), .int .i64 q] X fun e w' => e = .returned (.tuple #[.int .i64 ((nxt (els n f) q).getD 0 : Nat), .bool (nxt (els n f) q).isSome]) ∧ Below X.heap.size X w' := fun q X hX =>
      rnext q hl34 (hal X hX)
    obtain ⟨hv, hhas, hrhas⟩ : ∃ hv, (∀ X, Hid (Below U.heap.size U X) → Calls Try.prog 29 #[.pointer (some ⟨b, 0, none⟩), .int .i64 i] X fun e w' => e = .returned (.bool hv) ∧ Hid (Below U.heap.size U w')) ∧
        (∀ X, Hid (Below U.heap.size U X) → Calls Try.prog 30 #[.pointer (some ⟨rb, 0, none⟩), .int .i64 i] X fun e w' => e = .returned (.bool hv) ∧ Hid (Below U.heap.size U w')) := by
      by_cases hi : i < 0 ∨ (n : Int) ≤ i
      · exact ⟨false, fun X hX => (hasOutS (hS.below hX.out) i hi).mono fun e w' ⟨he, m, hw⟩ => ⟨he, hb_then hX (by subst hw; exact Below.drewN' m (Below.refl _ _))⟩,
          fun X hX => (rhasOut (hR.below hX.out) i hi).mono fun e w' ⟨he, hw⟩ => ⟨he, hb_then hX (same_below hw)⟩⟩
      · obtain ⟨k, rfl⟩ : ∃ k : Nat, i = k := ⟨i.toNat, by omega⟩
        have hk : k < n := by omega
        exact ⟨f k, fun X hX => (hasS (hS.below hX.out) k hk).mono fun e w' ⟨he, m, hw⟩ => ⟨he, hb_then hX (by subst hw; exact Below.drewN' m (Below.refl _ _))⟩,
          fun X hX => (rhas (hR.below hX.out) k hk).mono fun e w' ⟨he, hw⟩ => ⟨he, hb_then hX (same_below hw)⟩⟩
    refine ⟨hv, n, ((nxt (els n f) fr).getD 0 : Nat), (nxt (els n f) fr).isSome, ((nxt (els n f) 0).getD 0 : Nat), (nxt (els n f) 0).isSome, (els n f).length, els n f, ⟨hhas, hrhas, fun X hX => ?_, fun X hX => ?_, fun X hX => ?_, fun X hX => ?_, fun X hX => ?_, fun X hX => ?_, fun X hX => ?_, fun X p c hX hr => ?_⟩⟩
    · exact (sizeS (hS.below hX.out)).mono fun e w' ⟨he, hw⟩ => ⟨he, hb_then hX (same_below hw)⟩
    · exact (rsize (hR.below hX.out)).mono fun e w' ⟨he, hw⟩ => ⟨he, hb_then hX (same_below hw)⟩
    · exact (nextS fr X (hS.below hX.out)).mono fun e w' ⟨he, hw⟩ => ⟨he, hb_then hX hw⟩
    · exact (hnx fr X hX).mono fun e w' ⟨he, hw⟩ => ⟨he, hb_then hX hw⟩
    · exact (lowestS X (hS.below hX.out)).mono fun e w' ⟨he, hw⟩ => ⟨he, hb_then hX hw⟩
    · exact (rlowest (hnx 0 X hX)).mono fun e w' ⟨he, hw⟩ => ⟨he, hb_then hX hw⟩
    · exact (hal X hX).mono fun e w' ⟨⟨p, c, he, hr⟩, hw⟩ => ⟨⟨p, c, he, Lib.hid hr⟩, hb_then hX hw⟩
    · exact (sameS X (hS.below hX.out) hr.out rfl).mono fun e w' ⟨he, hw⟩ => ⟨he, hb_then hX hw⟩
end
end Go.Proofs.Ytejkbanecbjdoaa
