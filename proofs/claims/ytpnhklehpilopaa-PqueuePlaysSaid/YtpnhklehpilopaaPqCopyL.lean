/- A queue copied. -/
import Derived.Test.YtpnhklehpilopaaPqHL
import Derived.Test.YtpnhklehpilopaaPqNilEq
import Derived.Test.YtpnhklehpilopaaPqPl
import Derived.Deep.RegionHeld3
import Derived.OwnWalk
namespace Go.Proofs.Ytpnhklehpilopaa
open Go Go.RowKit

set_option maxHeartbeats 1600000 in
set_option maxRecDepth 100000 in
/-- slices.Clone of items: a row of its own, behind all that there was. -/
theorem cloneL (base : Nat) (v : Value) (es : List (List Value)) (w : World) (h : RowIs w base 213 2 v es) (hn : es.length ≤ 1000000) :
    Calls Try.prog 158 #[v] w fun e w' => ∃ v', e = .returned v' ∧ RowIs w' w.heap.size 213 2 v' es ∧ Below w.heap.size w w' := by
  obtain ⟨i0, hi, hz0, hz1, hz2⟩ := info_parts infoEL
  have hq0 := run_eql_slice_nil4 (P := Try.prog) w Try.underlying117 none 0 0
  rcases h.parts with ⟨rfl, rfl⟩ | ⟨g, cap, cur, rfl, hbg, hg, hnc, hcm, hcs, htake⟩
  · clear hi hz0 hz1 hz2 h
    go_enter Try.func158, Try.ntmps158
    go_wp2_with fail
    go_ret
    exact ⟨_, rfl, ⟨World.ownsRow_nil _ _ _ _, (fun e he => by simp at he)⟩, Below.refl _ _⟩
  · have hq1 := run_eql_slice_nil4 (P := Try.prog) w Try.underlying117 (some ⟨g, 0, none⟩) es.length cap
    have hgl : g < w.heap.size := (Array.getElem?_eq_some_iff.1 hg).1
    obtain ⟨v', w', hr, hrow, hb⟩ := run_append_fresh (P := Try.prog) (w.alloc (.cells #[] 213)) w.heap.size 2 16 117 117 213 i0 _ Try.underlying117 hi hz0 hz1 hz2 rfl w.heap.size g es.length cap es h.2 rfl (fun j u hj => by
      rw [Addr.add_lit]
      rw [← htake] at hj
      have := part_cells (w.alloc (.cells #[] 213)) (g := g) (E := 213) (cur := cur) (by rw [Below.heap_alloc _ _ _ hgl]; exact hg) (o := 0) (n := es.length * 2) (by rw [hcs]; omega) j u (by simpa using hj)
      simpa using this) (heap_alloc_new w _) (Nat.le_refl _) (by simp) hn (by decide)
    have HR := Lib.hid hr
    have HX := Lib.hid (And.intro hrow (((Below.refl w.heap.size w).alloc (Nat.le_refl _) (.cells #[] 213)).trans (hb.mono (by simp))))
    clear hq0 hi hz0 hz1 hz2 h hr hrow hb hg htake hcs hcm
    generalize es.length = n at *
    go_enter Try.func158, Try.ntmps158
    go_wp2_with (at_builtin; refine wpList_append_run _ rfl _ _ 117 117 rfl _ _ rfl rfl HR.out ?_)
    go_ret
    exact ⟨_, rfl, HX.out⟩

set_option maxRecDepth 100000 in
theorem builtQL (parts : List (Nat × Value)) : Try.prog.built 120 parts = Instr.fill (fun i => #[(0, 1), (1, 1), (2, 1), (3, 1024)][i]?) zQL parts := by kernel_rfl

theorem buildL (S : Nat) (p : Option Addr) (n c : Nat) (T : Nat → Nat) (w : World) : (Instr.build 120 #[(1, .int .i64 (S : Nat)), (2, .slice p n c), (3, .agg (plL T).toArray)]).run Try.prog w = .ok (.agg (Value.pointer none :: Value.int .i64 (S : Nat) :: Value.slice p n c :: plL T).toArray) w :=
  run_build w 120 _ _ (by
    rw [builtQL]
    exact fill_queue (List.replicate 1024 (Value.int .i64 0)) _ _ _ _ _ (plL T) (List.length_replicate ..) (plL_length T) rfl rfl)

theorem cellsQL (S : Nat) (p : Option Addr) (n c : Nat) (L : List Value) (hL : L.length = 1024) :
    List.foldl (fun (cs : Array Value) (x : Value × Nat) => cs.setIfInBounds (3 + x.snd) x.fst) ((Try.zeroCells120.setIfInBounds 1 (Value.int .i64 (S : Nat))).setIfInBounds 2 (Value.slice p n c)) L.zipIdx = (Value.pointer none :: Value.int .i64 (S : Nat) :: Value.slice p n c :: L).toArray := by
  rw [zcQL]
  exact cells_queue _ _ _ _ _ L _ (List.length_replicate ..) hL

set_option maxHeartbeats 1600000 in
set_option maxRecDepth 100000 in
/-- The region in which the copy is made. -/
theorem copyRegionL (b S n c : Nat) (p : Option Addr) (l : List (Nat × Int)) (L : List Value) (W1 : World)
    (hua : Try.prog.underlying 118 = some (.array 1024 3)) (hpl : L.length = 1024) (hia : (Try.prog.info? 118).map (·.size) = some L.length) (HB : Hid (Below W1.heap.size W1 W1))
    (HC : Hid (∀ w', Hid (Below W1.heap.size W1 w') → Calls Try.prog 158 #[.slice p n c] w' fun e w2 => ∃ p' c', e = .returned (.slice p' n c') ∧ Hid (RowIs w2 W1.heap.size 213 2 (.slice p' n c') (l.map celL)) ∧ Hid (Below W1.heap.size W1 w2)))
    (HK : Hid (∀ w', Hid (Below W1.heap.size W1 w') → w'.cell? ⟨b, 1, none⟩ = some (.int .i64 (S : Nat)) ∧ w'.cell? ⟨b, 2, none⟩ = some (.slice p n c) ∧ w'.rangeAt b 3 L ∧ Hid (Below W1.heap.size W1 w')))
    (k1 : W1.cell? ⟨b, 1, none⟩ = some (.int .i64 (S : Nat))) (k2 : W1.cell? ⟨b, 2, none⟩ = some (.slice p n c)) (k3 : W1.rangeAt b 3 L)
    (Q : Exit → Act → World → Prop)
    (hQ : ∀ p' c' w2, Hid (RowIs w2 W1.heap.size 213 2 (.slice p' n c') (l.map celL)) → Hid (Below W1.heap.size W1 w2) → Q .normal { tmps := #[.pointer (some ⟨b, 0, none⟩), undef, .pointer none, .pointer (some ⟨w2.heap.size, 0, none⟩), .pointer (some ⟨b, 0, none⟩), .bool true, .bool false, .pointer (some ⟨b, 0, none⟩), .pointer (some ⟨b, 0, none⟩), .pointer (some ⟨b, 1, none⟩), .int .i64 (S : Nat), .pointer (some ⟨b, 0, none⟩), .pointer (some ⟨b, 0, none⟩), .pointer (some ⟨b, 2, none⟩), .slice p n c, .slice p' n c', .pointer (some ⟨b, 0, none⟩), .pointer (some ⟨b, 0, none⟩), .pointer (some ⟨b, 3, none⟩), .agg L.toArray, .agg (List.foldl (fun (cs : Array Value) (x : Value × Nat) => cs.setIfInBounds (3 + x.snd) x.fst) ((Try.zeroCells120.setIfInBounds 1 (Value.int .i64 (S : Nat))).setIfInBounds 2 (Value.slice p' n c')) L.zipIdx), .pointer (some ⟨w2.heap.size, 0, none⟩), undef, undef, undef, undef, undef], defers := [] } (w2.alloc (.cells (List.foldl (fun (cs : Array Value) (x : Value × Nat) => cs.setIfInBounds (3 + x.snd) x.fst) ((Try.zeroCells120.setIfInBounds 1 (Value.int .i64 (S : Nat))).setIfInBounds 2 (Value.slice p' n c')) L.zipIdx) 120))) :
    (Code.region 3 #[{ dst := some 7, op := Op.move (Operand.tmp 0), type := 93, pos := "pqueue.go:141", after := #[], guard := none }, { dst := some 8, op := Op.nilCheck (Operand.tmp 7), type := 0, pos := "pqueue.go:141", after := #[{ on := 0, ground := Ground.data }], guard := none }, { dst := some 9, op := Op.fieldAddr 120 (Operand.tmp 8) 1, type := 0, pos := "pqueue.go:141", after := #[{ on := 1, ground := Ground.data }], guard := none }, { dst := some 10, op := Op.load 3 (Operand.tmp 9), type := 3, pos := "pqueue.go:141", after := #[{ on := 2, ground := Ground.data }], guard := none }, { dst := some 11, op := Op.move (Operand.tmp 0), type := 93, pos := "pqueue.go:141", after := #[], guard := none }, { dst := some 12, op := Op.nilCheck (Operand.tmp 11), type := 0, pos := "pqueue.go:141", after := #[{ on := 4, ground := Ground.data }], guard := none }, { dst := some 13, op := Op.fieldAddr 120 (Operand.tmp 12) 2, type := 0, pos := "pqueue.go:141", after := #[{ on := 5, ground := Ground.data }], guard := none }, { dst := some 14, op := Op.load 117 (Operand.tmp 13), type := 117, pos := "pqueue.go:141", after := #[{ on := 6, ground := Ground.data }], guard := none }, { dst := some 15, op := Op.call { callee := Callee.value (Operand.func 158), args := #[Operand.tmp 14], argTypes := #[117] }, type := 117, pos := "pqueue.go:141", after := #[{ on := 7, ground := Ground.data }], guard := none }, { dst := some 16, op := Op.move (Operand.tmp 0), type := 93, pos := "pqueue.go:141", after := #[], guard := none }, { dst := some 17, op := Op.nilCheck (Operand.tmp 16), type := 0, pos := "pqueue.go:141", after := #[{ on := 9, ground := Ground.data }], guard := none }, { dst := some 18, op := Op.fieldAddr 120 (Operand.tmp 17) 3, type := 0, pos := "pqueue.go:141", after := #[{ on := 10, ground := Ground.data }], guard := none }, { dst := some 19, op := Op.load 118 (Operand.tmp 18), type := 118, pos := "pqueue.go:141", after := #[{ on := 11, ground := Ground.data }], guard := none }, { dst := some 20, op := Op.build 120 #[(1, Operand.tmp 10), (2, Operand.tmp 15), (3, Operand.tmp 19)], type := 120, pos := "pqueue.go:141", after := #[{ on := 3, ground := Ground.data }, { on := 8, ground := Ground.data }, { on := 12, ground := Ground.data }], guard := none }, { dst := some 21, op := Op.box 120 (Operand.tmp 20), type := 93, pos := "pqueue.go:141", after := #[{ on := 13, ground := Ground.data }], guard := none }, { dst := some 3, op := Op.assign (Operand.tmp 21), type := 93, pos := "pqueue.go:141", after := #[{ on := 14, ground := Ground.data }, { on := 8, ground := Ground.chain }, { on := 0, ground := Ground.phase }, { on := 1, ground := Ground.phase }, { on := 2, ground := Ground.phase }, { on := 3, ground := Ground.phase }, { on := 4, ground := Ground.phase }, { on := 5, ground := Ground.phase }, { on := 6, ground := Ground.phase }, { on := 7, ground := Ground.phase }, { on := 8, ground := Ground.phase }, { on := 9, ground := Ground.phase }, { on := 10, ground := Ground.phase }, { on := 11, ground := Ground.phase }, { on := 12, ground := Ground.phase }, { on := 13, ground := Ground.phase }, { on := 14, ground := Ground.phase }], guard := none }] true).wp Try.prog Q { tmps := #[.pointer (some ⟨b, 0, none⟩), undef, .pointer none, undef, .pointer (some ⟨b, 0, none⟩), .bool true, .bool false, undef, undef, undef, undef, undef, undef, undef, undef, undef, undef, undef, undef, undef, undef, undef, undef, undef, undef, undef, undef], defers := [] } W1 := by
  go_region_held3 (fun w' => w'.cell? ⟨b, 1, none⟩ = some (.int .i64 (S : Nat)) ∧ w'.cell? ⟨b, 2, none⟩ = some (.slice p n c) ∧ w'.rangeAt b 3 L ∧ Hid (Below W1.heap.size W1 w'))
    (first | exact HK.out _ (Lib.hid (HB.out.drew)) | exact HK.out _ ‹_› | exact HK.out _ (Lib.hid (HB2.out.alloc HB2.out.size _)) | go_keep)
    ((go_at_call 158; refine (HC.out _ (Lib.hid (HB.out.drew))).mono ?_; rintro e w2 ⟨p', c', rfl, HROW, HB2⟩))
  exact hQ p' c' w2 HROW HB2

set_option maxHeartbeats 1600000 in
set_option maxRecDepth 100000 in
theorem copyL {W : World} {base b : Nat} {p : Option Addr} {S : Nat} {m : Nat → Option Int} (h : PQL W base b p S m) :
    Calls Try.prog 59 #[.pointer (some ⟨b, 0, none⟩)] W fun e w' => ∃ c p', e = .returned (.pointer (some ⟨c, 0, none⟩)) ∧ PQL w' 0 c p' S m ∧ Below W.heap.size W w' ∧ W.heap.size ≤ c ∧ ∀ a, p' = some a → W.heap.size ≤ a.block := by
  obtain ⟨c, l, T, hQ, hP, hH, hM⟩ := h
  have hv := validL hQ
  have HC : Hid (∀ w', Hid (Below W.heap.size W w') → Calls Try.prog 158 #[.slice p l.length c] w' fun e w2 => ∃ p' c', e = .returned (.slice p' l.length c') ∧ Hid (RowIs w2 W.heap.size 213 2 (.slice p' l.length c') (l.map celL)) ∧ Hid (Below W.heap.size W w2)) := Lib.hid fun w' hb => by
    refine (cloneL base _ _ w' (hQ.below hb.out).row (by have := hQ.sm; rw [List.length_map]; omega)).mono ?_
    rintro e w2 ⟨v', rfl, h1, h2⟩
    have h3 : RowIs w2 W.heap.size 213 2 v' (l.map celL) := by
      refine ⟨⟨h1.1.1, ?_⟩, h1.2⟩
      rcases h1.1.2 with k | ⟨g, cap, cur, k1, k2, k3⟩
      · exact .inl k
      · exact .inr ⟨g, cap, cur, k1, Nat.le_trans hb.out.size k2, k3⟩
    obtain ⟨p', c', rfl⟩ : ∃ p' c', v' = .slice p' l.length c' := by
      rcases h3.parts with ⟨q1, q2⟩ | ⟨g, cap, cur, q1, _⟩
      · have : l = [] := by simpa using q2
        rw [this]
        exact ⟨none, 0, q1⟩
      · exact ⟨some ⟨g, 0, none⟩, cap, by rw [q1, List.length_map]⟩
    exact ⟨p', c', rfl, Lib.hid h3, Lib.hid (hb.out.trans (h2.mono hb.out.size))⟩
  have HPQ : Hid (∀ (w2 : World) (p' : Option Addr) (c' : Nat) (C : Array Value), C = (Value.pointer none :: Value.int .i64 (S : Nat) :: Value.slice p' l.length c' :: plL T).toArray → RowIs w2 W.heap.size 213 2 (.slice p' l.length c') (l.map celL) → Below W.heap.size W w2 →
      PQL (w2.alloc (.cells (C.setIfInBounds 0 (Value.pointer (some ⟨w2.heap.size, 0, none⟩))) 120)) 0 w2.heap.size p' S m ∧ Below W.heap.size W (w2.alloc (.cells (C.setIfInBounds 0 (Value.pointer (some ⟨w2.heap.size, 0, none⟩))) 120)) ∧ W.heap.size ≤ w2.heap.size ∧ ∀ a, p' = some a → W.heap.size ≤ a.block) := Lib.hid fun w2 p' c' C hC hrow hb => by
    have hlt : ∀ a, p' = some a → W.heap.size ≤ a.block ∧ a.block < w2.heap.size := fun a ha => by subst ha; exact hrow.lt a.block rfl
    refine ⟨⟨c', l, T, ⟨?_, Nat.zero_le _, ?_, fun a ha => by have := hlt a ha; omega, hQ.s1, hQ.s2, hQ.sm⟩, hP, hH, hM⟩, hb.alloc hb.size _, hb.size, fun a ha => (hlt a ha).1⟩
    · rw [heap_alloc_new]
      rw [hC, hdQ_plL]
    · refine RowIs.lower ?_ (Nat.zero_le W.heap.size)
      exact hrow.kept (row := none) (World.grownBy_alloc w2 _ none) (by cases p' <;> simp [Value.ownBlock])
  have HK : Hid (∀ w', Hid (Below W.heap.size W w') → w'.cell? ⟨b, 1, none⟩ = some (.int .i64 (S : Nat)) ∧ w'.cell? ⟨b, 2, none⟩ = some (.slice p l.length c) ∧ w'.rangeAt b 3 (plL T) ∧ Hid (Below W.heap.size W w')) := Lib.hid fun w' hb =>
    ⟨(hQ.below hb.out).size, (hQ.below hb.out).heap, range_plL (hQ.below hb.out).head, hb⟩
  obtain ⟨k1, k2, k3, -⟩ := HK.out W (Lib.hid (Below.refl _ _))
  have HB := Lib.hid (Below.refl W.heap.size W)
  have hpl := plL_length T
  have hua := Try.underlying118
  have hia : (Try.prog.info? 118).map (·.size) = some (plL T).length := by rw [plL_length]; kernel_rfl
  clear hQ hP hH hM
  generalize l.length = n at *
  generalize hL : plL T = L at *
  have HL := Lib.hid hL
  clear hL
  go_enter Try.func59, Try.ntmps59
  go_wp2_with fail
  refine hv.mono ?_
  rintro e W1 ⟨rfl, rfl⟩
  go_wp2_with fail
  refine copyRegionL b S n c p l L W1 hua hpl hia HB HC HK k1 k2 k3 _ ?_
  intro p' c' w2 HROW HB2
  have hC := cellsQL S p' n c' L hpl
  obtain ⟨C, hCe⟩ : ∃ C, C = (List.foldl (fun (cs : Array Value) (x : Value × Nat) => cs.setIfInBounds (3 + x.snd) x.fst) ((Try.zeroCells120.setIfInBounds 1 (Value.int .i64 (S : Nat))).setIfInBounds 2 (Value.slice p' n c')) L.zipIdx) := ⟨_, rfl⟩
  rw [← hCe] at hC ⊢
  have hC0 : C[0]? = some (Value.pointer none) := by rw [hC]; rfl
  have HFIN := Lib.hid (HPQ.out w2 p' c' C hC HROW.out HB2.out)
  clear hC hCe hua hia hpl k1 k2 k3 HK HC hv HROW HPQ
  go_wp2_with fail
  go_ret
  exact ⟨_, p', rfl, HFIN.out⟩
end Go.Proofs.Ytpnhklehpilopaa
