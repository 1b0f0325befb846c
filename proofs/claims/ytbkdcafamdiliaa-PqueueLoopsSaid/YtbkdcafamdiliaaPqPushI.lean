/- An id pushed. -/
import Derived.Test.YtbkdcafamdiliaaPqNewI
import Derived.Test.YtbkdcafamdiliaaPqDelI
namespace Go.Proofs.Ytbkdcafamdiliaa
open Go Go.RowKit

/-- The same queue with other items in another row. -/
theorem QuI.newRow {W w' : World} {base b n c S : Nat} {p : Option Addr} {l l' : List (Nat × Int)} {T : Nat → Nat} {v' : Value} (h : QuI W base b p c S l T) (hg : W.grownBy w' (Value.slice p n c).ownBlock)
    (hrow : RowIs w' base 261 2 v' (l'.map celI)) (hh : v'.ownBlock = (Value.slice p n c).ownBlock ∨ ∃ r, v'.ownBlock = some r ∧ W.heap.size ≤ r) (hs : l'.length ≤ 1024) :
    ∃ p' c', v' = .slice p' l'.length c' ∧ w'.cell? ⟨b, 2, none⟩ = some (.slice p l.length c) ∧ w'.frozen? ⟨b, 2, none⟩ = false ∧ QuI (w'.setCell ⟨b, 2, none⟩ v') base b p' c' S l' T ∧ Touch b p W (w'.setCell ⟨b, 2, none⟩ v') ∧ Head p p' W.heap.size := by
  have hob : some b ≠ (Value.slice p n c).ownBlock := by
    cases p with
    | none => simp [Value.ownBlock]
    | some a => simp only [Value.ownBlock]; intro e; injection e with e; exact h.apart a rfl e.symm
  have hb' : w'.heap[b]? = some (.cells (hdQ b S (.slice p l.length c) T) 259 (0, 0)) := (hg.block b h.lt hob).trans h.head
  have hvb : v'.ownBlock ≠ some b := by
    rcases hh with e | ⟨r, e, hr⟩
    · rw [e]; exact fun e2 => hob e2.symm
    · rw [e]; intro e2; injection e2 with e2; have := h.lt; omega
  have hrow2 := hrow
  obtain ⟨p', c', rfl⟩ : ∃ p' c', v' = .slice p' l'.length c' := by
    rcases hrow.parts with ⟨h1, h2⟩ | ⟨g, cap, cur, h1, _⟩
    · have : l' = [] := by simpa using h2
      subst this
      exact ⟨none, 0, h1⟩
    · exact ⟨some ⟨g, 0, none⟩, cap, by rw [h1, List.length_map]⟩
  have hset : (w'.setCell ⟨b, 2, none⟩ (.slice p' l'.length c')).heap[b]? = some (.cells (hdQ b S (.slice p' l'.length c') T) 259 (0, 0)) := by
    rw [setCell_eq_setRow w' b 2 _ _ (0, 0) _ hb', hdQ_setV]
    exact setRow_heap w' b _ _ _ _ hb'
  refine ⟨p', c', rfl, by simp [World.cell?, hb', hdQ], by simp [World.frozen?, hb'], ⟨hset, h.low, hrow.kept (row := some b) ⟨rfl, rfl, rfl, by simp [World.setCell], fun k _ hk => Below.heap_setCell _ _ _ _ (fun e => hk (by rw [e]))⟩ (.inr hvb), fun a ha => ?_, h.s1, h.s2, hs⟩, (Touch.of_grown hg).set _ _, fun a' ha' => ?_⟩
  · subst ha; intro e; exact hvb (by simp only [Value.ownBlock]; rw [e])
  · subst ha'
    rcases hh with e | ⟨r, e, hr⟩
    · cases p with
      | none => simp [Value.ownBlock] at e
      | some a => simp only [Value.ownBlock] at e; injection e with e; exact .inl ⟨a, rfl, e.symm⟩
    · simp only [Value.ownBlock] at e; injection e with e; exact .inr (by omega)

set_option maxHeartbeats 1600000 in
set_option maxRecDepth 100000 in
theorem pushI {W : World} {base b : Nat} {p : Option Addr} {S : Nat} {m : Nat → Option Int} (h : PQI W base b p S m) (hbase : base ≤ W.heap.size) {k : Nat} (hk : k < S) (hm : m k = none) (v : Int) :
    Calls Try.prog 142 #[.pointer (some ⟨b, 0, none⟩), .int .i64 (k : Nat), Value.int .i64 v] W fun e w' => e = .returned (.int .i64 0) ∧ ∃ p', PQI w' base b p' S (mSet m k (some v)) ∧ Touch b p W w' ∧ Head p p' W.heap.size := by
  obtain ⟨c, l, T, hQ, hP, hH, hM⟩ := h
  have hT := hM.absent hP hm
  have hck := checkI hQ k hk
  have hfd := findNoI hQ hk hT
  have hP2 := hP.push (x := (k, v)) hk hT
  have hlen := hP2.len
  have hS := hQ.s2
  rw [List.length_append, List.length_singleton] at hlen
  have hp := hQ.heap
  have hA : Below W.heap.size W (W.alloc (.cells #[Value.int .i64 (k : Nat), Value.int .i64 v] 261)) := (Below.refl _ _).alloc (Nat.le_refl _) _
  have hQA := hQ.below hA
  obtain ⟨i0, hi, hz0, hz1, hz2⟩ := info_parts infoEI
  obtain ⟨v', w', hr, hrow, hgrow, hhead⟩ := run_append_elem (P := Try.prog) (W.alloc (.cells #[Value.int .i64 (k : Nat), Value.int .i64 v] 261)) base 2 16 W.heap.size 257 257 261 i0 _ Try.underlying257 hi hz0 hz1 hz2 rfl (.slice p l.length c) (l.map celI) (celI (k, v)) hQA.row (celI_ok _) (heap_alloc_new W _) (by rw [List.length_map]; omega) (by decide) (by simp; omega)
  rw [show l.map celI ++ [celI (k, v)] = (l ++ [(k, v)]).map celI by simp] at hrow
  obtain ⟨p', c', rfl, hc1, hf1, hQ2, hT2, hH2⟩ := hQA.newRow hgrow hrow hhead (by simp; omega)
  have hq2 := hQ2.heap
  have hll : (l ++ [(k, v)]).length = l.length + 1 := by simp
  have hpl2 := hQ2.place (k := k) (by omega)
  have hfr2 := hQ2.frozen (3 + k)
  have hQ3 := hQ2.setT k (l.length + 1)
  have hT3 := hT2.set (3 + k) (.int .i64 ((l.length + 1 : Nat) : Int))
  have hup := upI hQ3 hP2 (hH.push (k, v)).wide (by omega)
  rw [show ((l.length + 1 : Nat) : Int) = (l.length : Int) + 1 by omega] at hup hT3
  rw [hll] at hr hq2 hup
  have HR := Lib.hid hr
  have HUP := Lib.hid hup
  have HW : Hid (∀ w3 l' T', SiftI (((w'.setCell ⟨b, 2, none⟩ (.slice p' (l.length + 1) c')).setCell ⟨b, 3 + k, none⟩ (.int .i64 ((l.length : Int) + 1)))) w3 base b p' c' S (l ++ [(k, v)]) l' T' → HpD (befQ ltI) l' l.length → PQI w3 base b p' S (mSet m k (some v)) ∧ Touch b p W w3) := Lib.hid fun w3 l' T' hs hd => by
    refine ⟨⟨c', l', T', hs.qu, hs.pl, hd.last (by rw [hs.len, hll]; exact Nat.le_refl _), hM.push (x := (k, v)) hm hs.mem⟩, ?_⟩
    refine (Touch.of_below hA).trans ?_
    rw [hll] at hT3
    exact hT3.head hs.tch hH2 (Nat.le_refl _)
  have HH : Hid (Head p p' W.heap.size) := Lib.hid (hH2.mono (by simp))
  have hn1 : ((l.length + 1 : Nat) : Int) - 1 = (l.length : Int) := by omega
  have hn2 : ((l.length : Int) + 1) - 1 = (l.length : Int) := by omega
  have h0 : (0 : Int) ≤ (k : Int) := by omega
  have h1 : (k : Int) < 1024 := by omega
  have hl1 : l.length ≤ 1024 := by omega
  rw [hll] at hpl2 hfr2
  clear hr hup hQ hP hH hM hP2 hA hQA hrow hgrow hhead hQ2 hT2 hH2 hQ3 hT3 hll hm hT hi hz0 hz1 hz2
  generalize l.length = n at *
  go_enter Try.func142, Try.ntmps142
  go_wp2_with fail
  refine hck.mono ?_
  rintro e W1 ⟨rfl, rfl⟩
  go_wp2_with fail
  refine hfd.mono ?_
  rintro e W2 ⟨rfl, rfl⟩
  go_wp2_with (at_builtin; refine wpList_append_run _ rfl _ _ 257 257 rfl _ _ rfl rfl HR.out ?_)
  refine HUP.out.mono ?_
  rintro e w3 ⟨rfl, l', T', hs, hd⟩
  have HX := Lib.hid (HW.out w3 l' T' hs hd)
  clear hs hd hq2 hpl2 hfr2 hc1 hf1
  go_wp2_with fail
  go_ret
  exact ⟨rfl, p', HX.out.1, HX.out.2, HH.out⟩

set_option maxHeartbeats 800000 in
set_option maxRecDepth 100000 in
theorem pushHaveI {W : World} {base b : Nat} {p : Option Addr} {S : Nat} {m : Nat → Option Int} (h : PQI W base b p S m) {k : Nat} {u : Int} (hm : m k = some u) (v : Int) :
    Calls Try.prog 142 #[.pointer (some ⟨b, 0, none⟩), .int .i64 (k : Nat), Value.int .i64 v] W fun e w' => e = .returned (.int .i64 6) ∧ w' = W := by
  obtain ⟨c, l, T, hQ, hP, hH, hM⟩ := h
  obtain ⟨ht, hkS, hx⟩ := hM.get hP hm
  obtain ⟨t, ht'⟩ : ∃ t, T k = t + 1 := ⟨T k - 1, by omega⟩
  rw [ht', Nat.add_sub_cancel] at hx
  have htl : t < l.length := (List.getElem?_eq_some_iff.1 hx).1
  have hsm := hQ.sm
  have hf := findI hQ hkS ht' (by omega)
  have hck := checkI hQ k hkS
  clear hQ hP hH hM hx ht ht' hm
  go_enter Try.func142, Try.ntmps142
  go_wp2_with fail
  refine hck.mono ?_
  rintro e W1 ⟨rfl, rfl⟩
  go_wp2_with fail
  refine hf.mono ?_
  rintro e W2 ⟨rfl, rfl⟩
  go_wp2_with fail
  go_ret
  exact ⟨rfl, rfl⟩

set_option maxHeartbeats 800000 in
set_option maxRecDepth 100000 in
theorem pushBadI {W : World} {base b : Nat} {p : Option Addr} {S : Nat} {m : Nat → Option Int} (h : PQI W base b p S m) {k : Int} (hk : k < 0 ∨ (S : Int) ≤ k) (v : Int) :
    Calls Try.prog 142 #[.pointer (some ⟨b, 0, none⟩), .int .i64 k, Value.int .i64 v] W fun e w' => e = .returned (.int .i64 3) ∧ w' = W := by
  obtain ⟨c, l, T, hQ, hP, hH, hM⟩ := h
  have hck := checkBadI hQ k hk
  clear hQ hP hH hM hk
  go_enter Try.func142, Try.ntmps142
  go_wp2_with fail
  refine hck.mono ?_
  rintro e W1 ⟨rfl, rfl⟩
  go_wp2_with fail
  go_ret
  exact ⟨rfl, rfl⟩
end Go.Proofs.Ytbkdcafamdiliaa
