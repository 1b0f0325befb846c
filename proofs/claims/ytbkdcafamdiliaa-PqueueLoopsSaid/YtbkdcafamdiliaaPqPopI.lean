/- An id removed, popped. -/
import Derived.Test.YtbkdcafamdiliaaPqRemI
namespace Go.Proofs.Ytbkdcafamdiliaa
open Go Go.RowKit

set_option maxHeartbeats 1600000 in
set_option maxRecDepth 100000 in
theorem removeI {W : World} {base b : Nat} {p : Option Addr} {S : Nat} {m : Nat → Option Int} (h : PQI W base b p S m) {k : Nat} {v : Int} (hm : m k = some v) :
    Calls Try.prog 145 #[.pointer (some ⟨b, 0, none⟩), .int .i64 (k : Nat)] W fun e w' => e = .returned (.tuple #[Value.int .i64 v, .bool true]) ∧ PQI w' base b p S (mSet m k none) ∧ Touch b p W w' := by
  have hpr := priorityI h hm
  obtain ⟨c, l, T, hQ, hP, hH, hM⟩ := h
  obtain ⟨ht, hkS, hx⟩ := hM.get hP hm
  obtain ⟨t, ht'⟩ : ∃ t, T k = t + 1 := ⟨T k - 1, by omega⟩
  rw [ht', Nat.add_sub_cancel] at hx
  have htl : t < l.length := (List.getElem?_eq_some_iff.1 hx).1
  have hsm := hQ.sm
  have hS2 := hQ.s2
  have hfd := findI hQ hkS ht' (by omega)
  obtain ⟨y, hy⟩ : ∃ y, l[l.length - 1]? = some y := ⟨_, List.getElem?_eq_getElem (by omega)⟩
  have hp := hQ.heap
  have hsw := swapI hQ hx hy (by show k < 1024; omega) (by have := (hP.fwd _ _ hy).1; omega)
  have hP1 := hP.swap hx hy
  have hl1 : (swp l t (l.length - 1))[(swp l t (l.length - 1)).length - 1]? = some (k, v) := by rw [swp_len, swp_at hx hy, if_pos rfl]
  have hP2 := hP1.pop hl1
  rw [swp_len] at hP2
  have hW2 := hH.drop (befQ_ord ordI) hx hy
  have hM2 : QM ((swp l t (l.length - 1)).take (l.length - 1)) (mSet m k none) := hM.pop fun z => by
    have := mem_take_last hP1 hl1 z
    rw [swp_len, swp_mem] at this
    exact this
  have hself : t = l.length - 1 → (swp l t (l.length - 1)).take (l.length - 1) = l.take (l.length - 1) := fun e => by
    rw [← e, swp_self hx]
  have hH2 : t = l.length - 1 → Hp (befQ ltI) ((swp l t (l.length - 1)).take (l.length - 1)) := fun e => by rw [hself e]; exact hH.cut _
  have hlen2 : ((swp l t (l.length - 1)).take (l.length - 1)).length = l.length - 1 := by rw [List.length_take, swp_len]; omega
  have hes : ((swp l t (l.length - 1)).map celI).take (l.length - 1) ++ ((swp l t (l.length - 1)).map celI).drop (l.length - 1 + 1) = ((swp l t (l.length - 1)).take (l.length - 1)).map celI := by
    rw [List.drop_eq_nil_of_le (by rw [List.length_map, swp_len]; omega), List.append_nil, List.map_take]
  have hll := swp_len l t (l.length - 1)
  obtain ⟨j, hj⟩ : ∃ j, l.length = j + 1 := ⟨l.length - 1, by omega⟩
  rw [hj, Nat.add_sub_cancel] at hsw hP2 hW2 hM2 hH2 hlen2 hes hll
  rw [hj] at hp htl hsm
  have HSW := Lib.hid hsw
  have HP2 := Lib.hid hP2
  have HW2 := Lib.hid hW2
  have HM2 := Lib.hid hM2
  have HH2 := Lib.hid hH2
  have HES := Lib.hid (And.intro hes (And.intro hll hlen2))
  clear hsw hP2 hW2 hM2 hH2 hes hll hlen2 hQ hP hH hM hx hy hP1 hl1 hself ht ht' hj hm
  go_enter Try.func145, Try.ntmps145
  go_wp2_with fail
  refine hpr.mono ?_
  rintro e W1 ⟨rfl, rfl⟩
  go_wp2_with fail
  refine hfd.mono ?_
  rintro e W2 ⟨rfl, rfl⟩
  go_wp2_with fail
  refine HSW.out.mono ?_
  rintro e w2 ⟨rfl, hQ2, hT2⟩
  have hp2 := hQ2.heap
  rw [HES.out.2.1] at hp2
  have hrow := hQ2.row
  rw [HES.out.2.1] at hrow
  have hdel := delI base (.slice p (j + 1) c) ((swp l t j).map celI) j w2 hrow (by rw [List.length_map, HES.out.2.1]; omega) (by rw [List.length_map, HES.out.2.1]; omega)
  rw [HES.out.1] at hdel
  have HQ2 := Lib.hid hQ2
  have HT2 := Lib.hid hT2
  clear hQ2 hT2 hrow
  go_wp2_with fail
  refine hdel.mono ?_
  rintro e w3 ⟨v', rfl, hr3, hg3, hh3⟩
  obtain ⟨p', c', rfl, hc1, hf1, hQ4, hT4, hH4⟩ := HQ2.out.newRow (n := j + 1) (l' := (swp l t j).take j) hg3 hr3 (.inl hh3) (by rw [HES.out.2.2]; omega)
  obtain rfl : p = p' := by
    symm
    have hpq := HQ2.out.row.parts
    have hpr := hQ4.row.parts
    rw [List.length_map] at hpq
    simp only [Value.ownBlock] at hh3
    rcases hpr with ⟨h1, _⟩ | ⟨g1, c1, _, h1, _⟩
    · injection h1 with h1
      subst h1
      rcases hpq with ⟨h2, _⟩ | ⟨g2, c2, _, h2, _⟩
      · injection h2 with h2; exact h2.symm
      · injection h2 with h2; subst h2; simp at hh3
    · injection h1 with h1
      subst h1
      rcases hpq with ⟨h2, _⟩ | ⟨g2, c2, _, h2, _⟩
      · injection h2 with h2; subst h2; simp at hh3
      · injection h2 with h2; subst h2; simp at hh3; rw [hh3]
  have hpl := hQ4.place (k := k) (by omega)
  have hfr := hQ4.frozen (3 + k)
  have hQ5 := hQ4.setT k 0
  have hT5 := (HT2.out.trans hT4).set (3 + k) (.int .i64 ((0 : Nat) : Int))
  rw [show ((0 : Nat) : Int) = 0 from rfl] at hQ5 hT5
  have HQ5 := Lib.hid hQ5
  have HT5 := Lib.hid hT5
  have h0 : (0 : Int) ≤ (k : Int) := by omega
  have h1 : (k : Int) < 1024 := by omega
  have hk2 := HES.out.2.2
  rw [hk2] at hpl hfr
  have HK2 := Lib.hid hk2
  clear hr3 hg3 hh3 hQ4 hT4 hH4 hQ5 hT5 hdel hp2 hp hk2
  by_cases htj : t < j
  · have hst := settleI HQ5.out HP2.out HW2.out (by rw [HK2.out]; exact htj)
    rw [HK2.out] at hst
    have HST := Lib.hid hst
    have HM3 : Hid (∀ w6 l' T', SiftI ((w3.setCell ⟨b, 2, none⟩ (.slice p j c')).setCell ⟨b, 3 + k, none⟩ (.int .i64 0)) w6 base b p c' S ((swp l t j).take j) l' T' → Hp (befQ ltI) l' → PQI w6 base b p S (mSet m k none) ∧ Touch b p W2 w6) := Lib.hid fun w6 l' T' hs hh =>
      ⟨⟨c', l', T', hs.qu, hs.pl, hh, fun x => (hs.mem x).trans (HM2.out x)⟩, by
        have := HT5.out
        rw [HK2.out] at this
        exact this.trans hs.tch⟩
    have hd : decide ((t : Int) < (j : Int)) = true := by simpa using htj
    clear hst
    rw [HK2.out] at *
    go_wp2_with fail
    refine HST.out.mono ?_
    rintro e w6 ⟨rfl, l', T', hs, hh⟩
    have HX := Lib.hid (HM3.out w6 l' T' hs hh)
    clear hs hh hpl hfr hc1 hf1
    go_wp2_with fail
    go_ret2
    exact ⟨rfl, HX.out.1, HX.out.2⟩
  · have HX : Hid (PQI ((w3.setCell ⟨b, 2, none⟩ (.slice p j c')).setCell ⟨b, 3 + k, none⟩ (.int .i64 0)) base b p S (mSet m k none) ∧ Touch b p W2 ((w3.setCell ⟨b, 2, none⟩ (.slice p j c')).setCell ⟨b, 3 + k, none⟩ (.int .i64 0))) := Lib.hid (by
      have h5 := HQ5.out
      have h6 := HT5.out
      have h7 := HK2.out
      rw [h7] at h6
      refine ⟨⟨c', (swp l t j).take j, _, ?_, HP2.out, HH2.out (by omega), HM2.out⟩, h6⟩
      rw [h7] at h5
      exact h5)
    have hd : decide ((t : Int) < (j : Int)) = false := by simp; omega
    rw [HK2.out] at *
    go_wp2_with fail
    go_ret2
    exact ⟨rfl, HX.out.1, HX.out.2⟩

set_option maxHeartbeats 800000 in
set_option maxRecDepth 100000 in
theorem removeNoI {W : World} {base b : Nat} {p : Option Addr} {S : Nat} {m : Nat → Option Int} (h : PQI W base b p S m) (k : Int) (hk : 0 ≤ k → m k.toNat = none) :
    Calls Try.prog 145 #[.pointer (some ⟨b, 0, none⟩), .int .i64 k] W fun e w' => e = .returned (.tuple #[.int .i64 0, .bool false]) ∧ w' = W := by
  have hpr := priorityNoI h k hk
  obtain ⟨c, l, T, hQ, hP, hH, hM⟩ := h
  have hf : Calls Try.prog 208 #[.pointer (some ⟨b, 0, none⟩), .int .i64 k] W fun e w' => e = .returned (.tuple #[.int .i64 0, .bool false]) ∧ w' = W := by
    by_cases hr : k < 0 ∨ (S : Int) ≤ k
    · exact findBadI hQ hr
    · obtain ⟨k', rfl⟩ : ∃ k' : Nat, k = k' := ⟨k.toNat, by omega⟩
      exact findNoI hQ (by omega) (hM.absent hP (by simpa using hk (by omega)))
  clear hQ hP hH hM hk
  go_enter Try.func145, Try.ntmps145
  go_wp2_with fail
  refine hpr.mono ?_
  rintro e W1 ⟨rfl, rfl⟩
  go_wp2_with fail
  refine hf.mono ?_
  rintro e W2 ⟨rfl, rfl⟩
  go_wp2_with fail
  go_ret2
  exact ⟨rfl, rfl⟩

set_option maxHeartbeats 800000 in
set_option maxRecDepth 100000 in
theorem popI {W : World} {base b : Nat} {p : Option Addr} {S : Nat} {m : Nat → Option Int} (h : PQI W base b p S m) {x : Nat × Int} (hx : FstI m x) :
    Calls Try.prog 146 #[.pointer (some ⟨b, 0, none⟩)] W fun e w' => e = .returned (.tuple #[.int .i64 (x.1 : Nat), Value.int .i64 x.2, .bool true]) ∧ PQI w' base b p S (mSet m x.1 none) ∧ Touch b p W w' := by
  have hpk := peekI h hx
  have HRM : Hid (∀ w', Below W.heap.size W w' → Calls Try.prog 145 #[.pointer (some ⟨b, 0, none⟩), .int .i64 (x.1 : Nat)] w' fun e w' => e = .returned (.tuple #[Value.int .i64 x.2, .bool true]) ∧ PQI w' base b p S (mSet m x.1 none) ∧ Touch b p W w') := Lib.hid fun w' hb => by
    refine (removeI (h.below hb) hx.1).mono ?_
    rintro e w2 ⟨he, h1, h2⟩
    exact ⟨he, h1, (Touch.of_below hb).trans h2⟩
  clear h hx
  obtain ⟨xi, xp⟩ := x
  go_enter Try.func146, Try.ntmps146
  go_wp2_with fail
  refine hpk.mono ?_
  rintro e w1 ⟨rfl, hb⟩
  go_wp2_with fail
  refine (HRM.out w1 hb).mono ?_
  rintro e w2 ⟨rfl, h1, h2⟩
  have HX := Lib.hid (And.intro h1 h2)
  clear h1 h2 hpk
  go_wp2_with fail
  go_ret3
  exact ⟨rfl, HX.out⟩

set_option maxHeartbeats 800000 in
set_option maxRecDepth 100000 in
theorem popNoI {W : World} {base b : Nat} {p : Option Addr} {S : Nat} {m : Nat → Option Int} (h : PQI W base b p S m) (hx : ∀ k, m k = none) :
    Calls Try.prog 146 #[.pointer (some ⟨b, 0, none⟩)] W fun e w' => e = .returned (.tuple #[.int .i64 0, .int .i64 0, .bool false]) ∧ Below W.heap.size W w' := by
  have hpk := peekNoI h hx
  clear h hx
  go_enter Try.func146, Try.ntmps146
  go_wp2_with fail
  refine hpk.mono ?_
  rintro e w1 ⟨rfl, hb⟩
  go_wp2_with fail
  go_ret3
  exact ⟨rfl, hb⟩
end Go.Proofs.Ytbkdcafamdiliaa
