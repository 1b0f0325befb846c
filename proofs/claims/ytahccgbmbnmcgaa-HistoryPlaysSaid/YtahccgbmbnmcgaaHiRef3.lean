/- The document's own history (drumlinref07): Add and Cut. -/
import Derived.Test.YtahccgbmbnmcgaaHiRef2
namespace Go.Proofs.Ytahccgbmbnmcgaa
open Go Go.RowKit

section
variable {W W' : World} {b : Nat} {p : Option Addr} {c lim m : Nat} {l : List ByteArray}

theorem radd_mem (h : RL W b p c lim m l) (hlt : l.length < lim) (x : ByteArray) (V : World) (hV : Below W.heap.size W V) (hVs : V.heap.size = W.heap.size) :
    ∃ q1 d1 w2 p' c' w4, (Builtin.append_ #[39, 39] 39 #[.slice (some ⟨W.heap.size, 0, none⟩) 0 0, .slice p l.length c]).run Try.prog (V.alloc (.cells #[] 9)) = .ok (.slice q1 l.length d1) w2 ∧
      (Builtin.append_ #[39, 39] 39 #[.slice q1 l.length d1, .slice (some ⟨w2.heap.size, 0, none⟩) 1 1]).run Try.prog (w2.alloc (.cells #[.string x] 9)) = .ok (.slice p' (l.length + 1) c') w4 ∧
      w4.cell? ⟨b, 1, none⟩ = some (.slice p l.length c) ∧ w4.frozen? ⟨b, 1, none⟩ = false ∧ Hid (RL (w4.setCell ⟨b, 1, none⟩ (.slice p' (l.length + 1) c')) b p' c' lim m (l ++ [x]) ∧ Touch b none W (w4.setCell ⟨b, 1, none⟩ (.slice p' (l.length + 1) c')) ∧ ∀ a, p' = some a → W.heap.size ≤ a.block) := by
  have hlm := h.lm
  have hb1 : Below W.heap.size W (V.alloc (.cells #[] 9)) := hV.alloc (by omega) _
  obtain ⟨q1, d1, w2, hr, hrow, hb, hq⟩ := app_new (V.alloc (.cells #[] 9)) W.heap.size p l.length c l rfl (by omega) (h.below hb1).rd (fun a ha => (row_spot h.row a ha).1) (by rw [← hVs]; exact heap_alloc_new V _)
  have hb2 : Below W.heap.size W w2 := hb1.trans (hb.mono hb1.size)
  obtain ⟨i, hi, hz, hsize, hby⟩ := info_parts infoS
  have hrow3 : RowIs (w2.alloc (.cells #[.string x] 9)) W.heap.size 9 1 (.slice q1 l.length d1) (l.map celS) := by
    have h3 := hrow.kept (row := none) (World.grownBy_alloc w2 (.cells #[.string x] 9) none) (by cases q1 <;> simp [Value.ownBlock])
    refine ⟨⟨h3.1.1, ?_⟩, h3.2⟩
    rcases h3.1.2 with k | ⟨g, cap, cur, k1, k2, k3⟩
    · exact .inl k
    · refine .inr ⟨g, cap, cur, k1, ?_, k3⟩
      injection k1 with k1
      rcases hq _ k1 with e | e
      · show W.heap.size ≤ g; have e' : g = W.heap.size := e; omega
      · have e' : (V.alloc (.cells #[] 9)).heap.size ≤ g := e
        have := hb1.size
        omega
  obtain ⟨v', w4, hr4, hrow4, hg4, hh4⟩ := run_append_elem (P := Try.prog) (w2.alloc (.cells #[.string x] 9)) W.heap.size 1 16 w2.heap.size 39 39 9 i _ Try.underlying39 hi hz hsize hby rfl (.slice q1 l.length d1) (l.map celS) (celS x) hrow3 (celS_ok x) (heap_alloc_new w2 _) (by rw [List.length_map]; omega) (by decide) (by have := hb2.size; simp; omega)
  rw [show l.map celS ++ [celS x] = (l ++ [x]).map celS by simp] at hrow4
  obtain ⟨p', c', rfl⟩ : ∃ p' c', v' = .slice p' (l.length + 1) c' := by
    rcases hrow4.parts with ⟨h1, h2⟩ | ⟨g, cap, cur, h1, _⟩
    · simp at h2
    · exact ⟨some ⟨g, 0, none⟩, cap, by rw [h1, List.length_map, List.length_append, List.length_singleton]⟩
  have hb3 : Below W.heap.size W (w2.alloc (.cells #[.string x] 9)) := hb2.alloc hb2.size _
  have hb4 : Below W.heap.size W w4 := hb3.grown hg4 hb3.size (fun k hk => (hrow3.lt k hk).1)
  have hp4 : ∀ a, p' = some a → W.heap.size ≤ a.block := fun a ha => (hrow4.lt a.block (by subst ha; rfl)).1
  have hll : (l ++ [x]).length = l.length + 1 := by simp
  have hrow5 : RowIs w4 0 9 1 (.slice p' (l ++ [x]).length c') ((l ++ [x]).map celS) := by rw [hll]; exact rowLowS hrow4 (Nat.zero_le _)
  have hfin := h.newRow hb4 hrow5 hp4 (by have := h.ml; omega) (by omega)
  rw [hll] at hfin
  have h4 := h.below hb4
  exact ⟨q1, d1, w2, p', c', w4, hr, hr4, h4.els, h4.frozen 1, Lib.hid ⟨hfin.1, hfin.2, hp4⟩⟩

set_option maxHeartbeats 1600000 in
set_option maxRecDepth 100000 in
theorem radd (h : RL W b p c lim m l) (hlt : l.length < lim) (x : ByteArray) :
    Calls Try.prog 14 #[.pointer (some ⟨b, 0, none⟩), .string x] W fun e w' => e = .returned (.int .i64 0) ∧ ∃ p' c', RL w' b p' c' lim m (l ++ [x]) ∧ Touch b none W w' ∧ ∀ a, p' = some a → W.heap.size ≤ a.block := by
  have hv := rvalid h
  have hp := h.els
  have hlim := h.limit
  have HR : Hid (∀ q, ∃ q1 d1 w2 p' c' w4, (Builtin.append_ #[39, 39] 39 #[.slice (some ⟨W.heap.size, 0, none⟩) 0 0, .slice p l.length c]).run Try.prog ((W.drewN q).alloc (.cells #[] 9)) = .ok (.slice q1 l.length d1) w2 ∧
      (Builtin.append_ #[39, 39] 39 #[.slice q1 l.length d1, .slice (some ⟨w2.heap.size, 0, none⟩) 1 1]).run Try.prog (w2.alloc (.cells #[.string x] 9)) = .ok (.slice p' (l.length + 1) c') w4 ∧
      w4.cell? ⟨b, 1, none⟩ = some (.slice p l.length c) ∧ w4.frozen? ⟨b, 1, none⟩ = false ∧ Hid (RL (w4.setCell ⟨b, 1, none⟩ (.slice p' (l.length + 1) c')) b p' c' lim m (l ++ [x]) ∧ Touch b none W (w4.setCell ⟨b, 1, none⟩ (.slice p' (l.length + 1) c')) ∧ ∀ a, p' = some a → W.heap.size ≤ a.block)) := Lib.hid fun q => radd_mem h hlt x (W.drewN q) (Below.drewN' q (Below.refl _ _)) rfl
  have hd : decide ((lim : Int) ≤ (l.length : Int)) = false := by simp; omega
  have hd2 : ¬ lim ≤ l.length := by omega
  have hpA : ∀ q o, ((W.drewN q).alloc o).cell? ⟨b, 1, none⟩ = some (.slice p l.length c) := fun q o => (h.below ((Below.drewN' q (Below.refl _ _)).alloc (Nat.le_refl _) o)).els
  clear h
  generalize hn : l.length = n at *
  clear hn
  go_enter Try.func14, Try.ntmps14
  go_wp2_with fail
  refine hv.mono ?_
  rintro e W1 ⟨rfl, rfl⟩
  go_wp2_with fail
  go_quiet (fail)
  obtain ⟨q1, d1, w2, p', c', w4, hr1, hr2, hc1, hf1, HF⟩ := HR.out nq
  go_wp2_with (at_builtin; first | refine wpList_append_run _ rfl _ _ 39 39 rfl _ _ rfl rfl hr1 ?_ | refine wpList_append_run _ rfl _ _ 39 39 rfl _ _ rfl rfl hr2 ?_)
  go_ret
  exact ⟨rfl, p', c', HF.out⟩

set_option maxHeartbeats 1600000 in
set_option maxRecDepth 100000 in
theorem raddFull (h : RL W b p c lim m l) (hlt : l.length = lim) (x : ByteArray) :
    Calls Try.prog 14 #[.pointer (some ⟨b, 0, none⟩), .string x] W fun e w' => e = .returned (.int .i64 4) ∧ Below W.heap.size W w' := by
  have hv := rvalid h
  have hp := h.els
  have hlim := h.limit
  subst hlt
  clear h
  generalize l.length = n at *
  go_enter Try.func14, Try.ntmps14
  go_wp2_with fail
  refine hv.mono ?_
  rintro e W1 ⟨rfl, rfl⟩
  go_wp2_with fail
  go_quiet (fail)
  go_wp2
  go_ret
  exact ⟨rfl, Below.drewN' _ (Below.refl _ _)⟩

set_option maxHeartbeats 1600000 in
set_option maxRecDepth 100000 in
theorem rcut (h : RL W b p c lim m l) (k : Nat) (h1 : m ≤ k) (h2 : k ≤ l.length) :
    Calls Try.prog 18 #[.pointer (some ⟨b, 0, none⟩), .int .i64 k] W fun e w' => e = .returned (.int .i64 0) ∧ ∃ p' c', RL w' b p' c' lim m (l.take k) ∧ Touch b none W w' ∧ ∀ a, p' = some a → W.heap.size ≤ a.block := by
  have hv := rvalid h
  have hp := h.els
  have hk := h.mrk
  have hlm := h.lm
  have hll := h.ll
  have hb1 : Below W.heap.size W (W.alloc (.cells #[] 9)) := (Below.refl _ _).alloc (Nat.le_refl _) _
  have hkl : (l.take k).length = k := by rw [List.length_take, Nat.min_eq_left h2]
  obtain ⟨q1, d1, w2, hr, hrow, hb, hq⟩ := app_new (W.alloc (.cells #[] 9)) W.heap.size p k c (l.take k) hkl (by omega) ((h.below hb1).rd.take k) (fun a ha => (row_spot h.row a ha).1) (heap_alloc_new W _)
  have hb2 : Below W.heap.size W w2 := hb1.trans (hb.mono hb1.size)
  have hq1 : ∀ a, q1 = some a → W.heap.size ≤ a.block := fun a ha => by
    rcases hq a ha with e | e
    · omega
    · have := hb1.size; omega
  have hfin := h.newRow (p' := q1) (c' := d1) (l' := l.take k) hb2 (by rw [hkl]; exact hrow) hq1 (by omega) (by omega)
  rw [hkl] at hfin
  have h4 := h.below hb2
  have c1 := h4.els
  have f1 := h4.frozen 1
  have hpA : ∀ o, (W.alloc o).cell? ⟨b, 1, none⟩ = some (.slice p l.length c) := fun o => (h.below ((Below.refl _ _).alloc (Nat.le_refl _) o)).els
  have hkc : k ≤ c := by
    rcases row_parts h.row with ⟨-, -, h3⟩ | ⟨g, -, h3, -⟩
    · subst h3; simp at h2; omega
    · omega
  have hd1 : decide ((k : Int) < (m : Int)) = false := by simp; omega
  have hd2 : decide ((l.length : Int) < (k : Int)) = false := by simp; omega
  have HF := Lib.hid (And.intro hfin hq1)
  have HR := Lib.hid hr
  clear h h4 hrow hb hb1 hb2 hq hq1 hr hfin
  generalize hn : l.length = n at *
  clear hn hkl
  go_enter Try.func18, Try.ntmps18
  go_wp2_with fail
  refine hv.mono ?_
  rintro e W1 ⟨rfl, rfl⟩
  go_wp2_with (at_builtin; refine wpList_append_run _ rfl _ _ 39 39 rfl _ _ rfl rfl HR.out ?_)
  go_ret
  exact ⟨rfl, q1, d1, HF.out.1.1, HF.out.1.2, HF.out.2⟩

set_option maxHeartbeats 800000 in
set_option maxRecDepth 100000 in
theorem rcutBad (h : RL W b p c lim m l) (k : Int) (hk0 : k < (m : Int) ∨ (l.length : Int) < k) :
    Calls Try.prog 18 #[.pointer (some ⟨b, 0, none⟩), .int .i64 k] W fun e w' => e = .returned (.int .i64 3) ∧ w' = W := by
  have hv := rvalid h
  have hp := h.els
  have hk := h.mrk
  clear h
  generalize l.length = n at *
  by_cases h0 : k < (m : Int)
  · have hd : decide (k < (m : Int)) = true := by simpa using h0
    clear hk0
    go_enter Try.func18, Try.ntmps18
    go_wp2_with (go_at_call 46; refine hv.mono ?_; rintro e w' ⟨rfl, rfl⟩)
    go_ret
    exact ⟨rfl, rfl⟩
  · have hd : decide (k < (m : Int)) = false := by simpa using h0
    have h1 : (n : Int) < k := by omega
    have hd2 : decide ((n : Int) < k) = true := by simpa using h1
    clear hk0
    go_enter Try.func18, Try.ntmps18
    go_wp2_with (go_at_call 46; refine hv.mono ?_; rintro e w' ⟨rfl, rfl⟩)
    go_ret
    exact ⟨rfl, rfl⟩
end
end Go.Proofs.Ytahccgbmbnmcgaa
