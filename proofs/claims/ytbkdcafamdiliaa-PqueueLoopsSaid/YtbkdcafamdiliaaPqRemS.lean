/- An id changed, removed, popped. -/
import Derived.Test.YtbkdcafamdiliaaPqPushS
import Derived.Test.YtbkdcafamdiliaaPqAbs2
namespace Go.Proofs.Ytbkdcafamdiliaa
open Go Go.RowKit

/-- The priority of an item written over. -/
theorem QuS.setPrio {W : World} {base b c S g r : Nat} {p : Option Addr} {l : List (Nat × ByteArray)} {T : Nat → Nat} (h : QuS W base b p c S l T) (hp : p = some ⟨g, 0, none⟩) {k : Nat} {u : ByteArray} (v : ByteArray) (hx : l[r]? = some (k, u)) :
    QuS (W.setCell ⟨g, r * 2 + 1, none⟩ (Value.string v)) base b p c S (l.set r (k, v)) T := by
  subst hp
  have hne : b ≠ g := fun e => h.apart _ rfl e.symm
  have hr : r < l.length := (List.getElem?_eq_some_iff.1 hx).1
  have hm : (l.map celS)[r]? = some [Value.int .i64 (k : Nat), Value.string u] := by simp [hx, celS]
  have he : (l.set r (k, v)).map celS = (l.map celS).set r [Value.int .i64 (k : Nat), Value.string v] := by rw [List.map_set]; rfl
  obtain ⟨g', cur, e1, h2, h4, h5, h3, h6, h7⟩ := h.items hx
  injection e1 with e1
  injection e1 with e1
  subst e1
  refine ⟨?_, h.low, ?_, h.apart, h.s1, h.s2, by simpa using h.sm⟩
  · rw [Below.heap_setCell _ _ _ _ hne, List.length_set]; exact h.head
  · rw [setCell_eq_setRow W g (r * 2 + 1) cur 225 (0, 0) _ h3, List.length_set, he]
    refine rowIs_mk (cur := (cur.setIfInBounds (r * 2 + 1) (Value.string v)).toList) (by simp) h2 (by rw [Array.toArray_toList]; exact setRow_heap W g cur _ 225 _ h3) h4 h5 (by simpa using h6) ?_ ?_
    · intro e hel
      rcases List.mem_or_eq_of_mem_set hel with h8 | rfl
      · exact h.row.2 e h8
      · exact celS_ok (k, v)
    · rw [Array.toList_setIfInBounds, List.take_set, h7, flat_set h.row.2 hm]

set_option maxHeartbeats 1600000 in
set_option maxRecDepth 100000 in
theorem changeS {W : World} {base b : Nat} {p : Option Addr} {S : Nat} {m : Nat → Option ByteArray} (h : PQS W base b p S m) {k : Nat} {u : ByteArray} (hm : m k = some u) (v : ByteArray) :
    Calls Try.prog 76 #[.pointer (some ⟨b, 0, none⟩), .int .i64 (k : Nat), Value.string v] W fun e w' => e = .returned (.int .i64 0) ∧ PQS w' base b p S (mSet m k (some v)) ∧ Touch b p W w' := by
  obtain ⟨c, l, T, hQ, hP, hH, hM⟩ := h
  obtain ⟨ht, hkS, hx⟩ := hM.get hP hm
  obtain ⟨t, ht'⟩ : ∃ t, T k = t + 1 := ⟨T k - 1, by omega⟩
  rw [ht', Nat.add_sub_cancel] at hx
  have htl : t < l.length := (List.getElem?_eq_some_iff.1 hx).1
  have hsm := hQ.sm
  have hfd := findS hQ hkS ht' (by omega)
  have hck := checkS hQ k hkS
  obtain ⟨g, hpg, hc, _, hv⟩ := hQ.at hx
  have hp := hQ.heap
  have hfz : W.frozen? ⟨g, t * 2 + 1, none⟩ = false := by
    obtain ⟨g2, cur, e1, _, _, _, h3, _, _⟩ := hQ.items hx
    rw [hpg] at e1
    injection e1 with e1
    injection e1 with e1
    subst e1
    exact row_frozen h3 _
  have hst := settleS (hQ.setPrio hpg v hx) (hP.other hx v) (hH.other (befQ_ord ordS) t (k, v)) (by simpa using htl)
  have HT : Hid (Touch b p W (W.setCell ⟨g, t * 2 + 1, none⟩ (Value.string v))) := Lib.hid ((Touch.of_below (Below.refl _ _)).rowAt hpg _ _)
  have HM : Hid (∀ w3 l' T', SiftS (W.setCell ⟨g, t * 2 + 1, none⟩ (Value.string v)) w3 base b p c S (l.set t (k, v)) l' T' → Hp (befQ ltS) l' → PQS w3 base b p S (mSet m k (some v)) ∧ Touch b p W w3) := Lib.hid fun w3 l' T' hs hh =>
    ⟨⟨c, l', T', hs.qu, hs.pl, hh, hM.change fun y => (hs.mem y).trans (mem_set_other hP hx v y)⟩, HT.out.trans hs.tch⟩
  have HST := Lib.hid hst
  have h0 : (0 : Int) ≤ (t : Int) := by omega
  have h1 : (t : Int) < (l.length : Int) := by omega
  subst hpg
  clear hst hQ hP hH hM hx ht ht' hm
  generalize l.length = n at *
  go_enter Try.func76, Try.ntmps76
  go_wp2_with fail
  refine hck.mono ?_
  rintro e W1 ⟨rfl, rfl⟩
  go_wp2_with fail
  refine hfd.mono ?_
  rintro e W2 ⟨rfl, rfl⟩
  go_wp2_with fail
  refine HST.out.mono ?_
  rintro e w3 ⟨rfl, l', T', hs, hd⟩
  have HX := Lib.hid (HM.out w3 l' T' hs hd)
  clear hs hd hp hv hfz
  go_wp2_with fail
  go_ret
  exact ⟨rfl, HX.out.1, HX.out.2⟩

set_option maxHeartbeats 800000 in
set_option maxRecDepth 100000 in
theorem changeNoS {W : World} {base b : Nat} {p : Option Addr} {S : Nat} {m : Nat → Option ByteArray} (h : PQS W base b p S m) {k : Nat} (hk : k < S) (hm : m k = none) (v : ByteArray) :
    Calls Try.prog 76 #[.pointer (some ⟨b, 0, none⟩), .int .i64 (k : Nat), Value.string v] W fun e w' => e = .returned (.int .i64 5) ∧ w' = W := by
  obtain ⟨c, l, T, hQ, hP, hH, hM⟩ := h
  have hfd := findNoS hQ hk (hM.absent hP hm)
  have hck := checkS hQ k hk
  clear hQ hP hH hM hm
  go_enter Try.func76, Try.ntmps76
  go_wp2_with fail
  refine hck.mono ?_
  rintro e W1 ⟨rfl, rfl⟩
  go_wp2_with fail
  refine hfd.mono ?_
  rintro e W2 ⟨rfl, rfl⟩
  go_wp2_with fail
  go_ret
  exact ⟨rfl, rfl⟩

set_option maxHeartbeats 800000 in
set_option maxRecDepth 100000 in
theorem changeBadS {W : World} {base b : Nat} {p : Option Addr} {S : Nat} {m : Nat → Option ByteArray} (h : PQS W base b p S m) {k : Int} (hk : k < 0 ∨ (S : Int) ≤ k) (v : ByteArray) :
    Calls Try.prog 76 #[.pointer (some ⟨b, 0, none⟩), .int .i64 k, Value.string v] W fun e w' => e = .returned (.int .i64 3) ∧ w' = W := by
  obtain ⟨c, l, T, hQ, hP, hH, hM⟩ := h
  have hck := checkBadS hQ k hk
  clear hQ hP hH hM hk
  go_enter Try.func76, Try.ntmps76
  go_wp2_with fail
  refine hck.mono ?_
  rintro e W1 ⟨rfl, rfl⟩
  go_wp2_with fail
  go_ret
  exact ⟨rfl, rfl⟩
end Go.Proofs.Ytbkdcafamdiliaa
