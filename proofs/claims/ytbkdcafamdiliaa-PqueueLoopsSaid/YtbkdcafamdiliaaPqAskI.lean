/- What a queue answers: whether an id is there, its priority, the first id, how many there are. -/
import Derived.Test.YtbkdcafamdiliaaPqDownI
namespace Go.Proofs.Ytbkdcafamdiliaa
open Go Go.RowKit

/-- At block b lies a queue for the ids below S that has just the ids of m, with their priorities; its row starts at p. -/
def PQI (W : World) (base b : Nat) (p : Option Addr) (S : Nat) (m : Nat → Option Int) : Prop :=
  ∃ c l T, QuI W base b p c S l T ∧ Pl S l T ∧ Hp (befQ ltI) l ∧ QM l m

theorem PQI.below {W W' : World} {base b : Nat} {p : Option Addr} {S : Nat} {m : Nat → Option Int} (h : PQI W base b p S m) (hb : Below W.heap.size W W') : PQI W' base b p S m := by
  obtain ⟨c, l, T, h1, h2⟩ := h
  exact ⟨c, l, T, h1.below hb, h2⟩
theorem PQI.lt {W : World} {base b : Nat} {p : Option Addr} {S : Nat} {m : Nat → Option Int} (h : PQI W base b p S m) : b < W.heap.size := by
  obtain ⟨c, l, T, h1, h2⟩ := h
  exact h1.lt
theorem PQI.own {W : World} {base b : Nat} {p : Option Addr} {S : Nat} {m : Nat → Option Int} (h : PQI W base b p S m) {a : Addr} (ha : p = some a) : base ≤ a.block ∧ a.block < W.heap.size ∧ a.block ≠ b := by
  obtain ⟨c, l, T, h1, h2⟩ := h
  exact ⟨(h1.own ha).1, (h1.own ha).2, h1.apart a ha⟩
theorem PQI.size {W : World} {base b : Nat} {p : Option Addr} {S : Nat} {m : Nat → Option Int} (h : PQI W base b p S m) : 1 ≤ S ∧ S ≤ 1024 := by
  obtain ⟨c, l, T, h1, h2⟩ := h
  exact ⟨h1.s1, h1.s2⟩
theorem PQI.low {W : World} {base b : Nat} {p : Option Addr} {S : Nat} {m : Nat → Option Int} (h : PQI W base b p S m) {k : Nat} (hk : S ≤ k) : m k = none := by
  obtain ⟨c, l, T, h1, h2, h3, h4⟩ := h
  exact h4.low h2 hk
theorem PQI.cnt {W : World} {base b : Nat} {p : Option Addr} {S : Nat} {m : Nat → Option Int} (h : PQI W base b p S m) : cntQ S m ≤ 1024 := by
  obtain ⟨c, l, T, h1, h2, h3, h4⟩ := h
  rw [← h4.cnt h2]; exact h1.sm
/-- What leaves the two blocks alone leaves the queue alone. -/
theorem PQI.same {W W' : World} {base b : Nat} {p : Option Addr} {S : Nat} {m : Nat → Option Int} (h : PQI W base b p S m) (hs : W.heap.size ≤ W'.heap.size)
    (hb : W'.heap[b]? = W.heap[b]?) (hr : ∀ a, p = some a → W'.heap[a.block]? = W.heap[a.block]?) : PQI W' base b p S m := by
  obtain ⟨c, l, T, h1, h2⟩ := h
  exact ⟨c, l, T, h1.same hs hb hr, h2⟩

set_option maxHeartbeats 800000 in
set_option maxRecDepth 100000 in
theorem findI {W : World} {base b : Nat} {p : Option Addr} {c S : Nat} {l : List (Nat × Int)} {T : Nat → Nat} (h : QuI W base b p c S l T) {k t : Nat} (hk : k < S) (ht : T k = t + 1) (hb : t < 1024) :
    Calls Try.prog 208 #[.pointer (some ⟨b, 0, none⟩), .int .i64 (k : Nat)] W fun e w' => e = .returned (.tuple #[.int .i64 (t : Nat), .bool true]) ∧ w' = W := by
  have hc := checkI h k hk
  have hS := h.s2
  have hpl := h.place (k := k) (by omega)
  rw [ht, show ((t + 1 : Nat) : Int) = (t : Int) + 1 by omega] at hpl
  have h0 : (0 : Int) ≤ (k : Int) := by omega
  have h1 : (k : Int) < 1024 := by omega
  have h2 : ((t : Int) + 1 == 0) = false := by simp; omega
  clear h ht
  go_enter Try.func208, Try.ntmps208
  go_wp2_with fail
  refine hc.mono ?_
  rintro e w' ⟨rfl, rfl⟩
  go_wp2_with fail
  go_ret2
  exact ⟨rfl, rfl⟩

set_option maxHeartbeats 800000 in
set_option maxRecDepth 100000 in
theorem findNoI {W : World} {base b : Nat} {p : Option Addr} {c S : Nat} {l : List (Nat × Int)} {T : Nat → Nat} (h : QuI W base b p c S l T) {k : Nat} (hk : k < S) (ht : T k = 0) :
    Calls Try.prog 208 #[.pointer (some ⟨b, 0, none⟩), .int .i64 (k : Nat)] W fun e w' => e = .returned (.tuple #[.int .i64 0, .bool false]) ∧ w' = W := by
  have hc := checkI h k hk
  have hS := h.s2
  have hpl := h.place (k := k) (by omega)
  rw [ht, show ((0 : Nat) : Int) = 0 from rfl] at hpl
  have h0 : (0 : Int) ≤ (k : Int) := by omega
  have h1 : (k : Int) < 1024 := by omega
  clear h ht
  go_enter Try.func208, Try.ntmps208
  go_wp2_with fail
  refine hc.mono ?_
  rintro e w' ⟨rfl, rfl⟩
  go_wp2_with fail
  go_ret2
  exact ⟨rfl, rfl⟩

set_option maxHeartbeats 800000 in
set_option maxRecDepth 100000 in
theorem findBadI {W : World} {base b : Nat} {p : Option Addr} {c S : Nat} {l : List (Nat × Int)} {T : Nat → Nat} (h : QuI W base b p c S l T) {k : Int} (hk : k < 0 ∨ (S : Int) ≤ k) :
    Calls Try.prog 208 #[.pointer (some ⟨b, 0, none⟩), .int .i64 k] W fun e w' => e = .returned (.tuple #[.int .i64 0, .bool false]) ∧ w' = W := by
  have hc := checkBadI h k hk
  clear h hk
  go_enter Try.func208, Try.ntmps208
  go_wp2_with fail
  refine hc.mono ?_
  rintro e w' ⟨rfl, rfl⟩
  go_wp2_with fail
  go_ret2
  exact ⟨rfl, rfl⟩

set_option maxHeartbeats 800000 in
set_option maxRecDepth 100000 in
theorem priorityI {W : World} {base b : Nat} {p : Option Addr} {S : Nat} {m : Nat → Option Int} (h : PQI W base b p S m) {k : Nat} {v : Int} (hk : m k = some v) :
    Calls Try.prog 211 #[.pointer (some ⟨b, 0, none⟩), .int .i64 (k : Nat)] W fun e w' => e = .returned (.tuple #[Value.int .i64 v, .bool true]) ∧ w' = W := by
  obtain ⟨c, l, T, hQ, hP, hH, hM⟩ := h
  obtain ⟨ht, hkS, hx⟩ := hM.get hP hk
  obtain ⟨t, ht'⟩ : ∃ t, T k = t + 1 := ⟨T k - 1, by omega⟩
  rw [ht', Nat.add_sub_cancel] at hx
  have htl : t < l.length := (List.getElem?_eq_some_iff.1 hx).1
  have hsm := hQ.sm
  have hf := findI hQ hkS ht' (by omega)
  obtain ⟨g, rfl, hc, _, hv⟩ := hQ.at hx
  have hp := hQ.heap
  have h0 : (0 : Int) ≤ (t : Int) := by omega
  have h1 : (t : Int) < (l.length : Int) := by omega
  generalize l.length = n at *
  clear hQ hP hH hM hx ht ht' hk
  go_enter Try.func211, Try.ntmps211
  go_wp2_with fail
  refine hf.mono ?_
  rintro e w' ⟨rfl, rfl⟩
  go_wp2_with fail
  go_ret2
  exact ⟨rfl, rfl⟩

set_option maxHeartbeats 800000 in
set_option maxRecDepth 100000 in
theorem priorityNoI {W : World} {base b : Nat} {p : Option Addr} {S : Nat} {m : Nat → Option Int} (h : PQI W base b p S m) (k : Int) (hk : 0 ≤ k → m k.toNat = none) :
    Calls Try.prog 211 #[.pointer (some ⟨b, 0, none⟩), .int .i64 k] W fun e w' => e = .returned (.tuple #[.int .i64 0, .bool false]) ∧ w' = W := by
  obtain ⟨c, l, T, hQ, hP, hH, hM⟩ := h
  have hf : Calls Try.prog 208 #[.pointer (some ⟨b, 0, none⟩), .int .i64 k] W fun e w' => e = .returned (.tuple #[.int .i64 0, .bool false]) ∧ w' = W := by
    by_cases hr : k < 0 ∨ (S : Int) ≤ k
    · exact findBadI hQ hr
    · obtain ⟨k', rfl⟩ : ∃ k' : Nat, k = k' := ⟨k.toNat, by omega⟩
      exact findNoI hQ (by omega) (hM.absent hP (by simpa using hk (by omega)))
  clear hQ hP hH hM hk
  go_enter Try.func211, Try.ntmps211
  go_wp2_with fail
  refine hf.mono ?_
  rintro e w' ⟨rfl, rfl⟩
  go_wp2_with fail
  go_ret2
  exact ⟨rfl, rfl⟩

set_option maxHeartbeats 800000 in
set_option maxRecDepth 100000 in
theorem lenLI {W : World} {base b : Nat} {p : Option Addr} {c S : Nat} {l : List (Nat × Int)} {T : Nat → Nat} (h : QuI W base b p c S l T) :
    Calls Try.prog 147 #[.pointer (some ⟨b, 0, none⟩)] W fun e w' => e = .returned (.int .i64 (l.length : Nat)) ∧ w' = W := by
  have hv := validI h
  have hp := h.heap
  clear h
  generalize l.length = n at *
  go_enter Try.func147, Try.ntmps147
  go_wp2_with fail
  refine hv.mono ?_
  rintro e w' ⟨rfl, rfl⟩
  go_wp2_with fail
  go_ret
  exact ⟨rfl, rfl⟩

theorem lenI {W : World} {base b : Nat} {p : Option Addr} {S : Nat} {m : Nat → Option Int} (h : PQI W base b p S m) :
    Calls Try.prog 147 #[.pointer (some ⟨b, 0, none⟩)] W fun e w' => e = .returned (.int .i64 (cntQ S m : Nat)) ∧ w' = W := by
  obtain ⟨c, l, T, hQ, hP, hH, hM⟩ := h
  have := lenLI hQ
  rwa [hM.cnt hP] at this

/-- The id that comes first. -/
def FstI (m : Nat → Option Int) (x : Nat × Int) : Prop := m x.1 = some x.2 ∧ ∀ k v, m k = some v → befQ ltI (k, v) x = false

theorem PQI.fst {W : World} {base b : Nat} {p : Option Addr} {S : Nat} {m : Nat → Option Int} (h : PQI W base b p S m) : (∃ x, FstI m x) ∨ ∀ k, m k = none := by
  obtain ⟨c, l, T, hQ, hP, hH, hM⟩ := h
  cases hl : l[0]? with
  | some x => exact .inl ⟨x, hM.first ordI hH hl⟩
  | none =>
    have : l = [] := by simpa using hl
    subst this
    refine .inr fun k => ?_
    cases hk : m k with
    | none => rfl
    | some v => have := (hM (k, v)).2 hk; cases this

theorem fst_headI {S : Nat} {l : List (Nat × Int)} {T : Nat → Nat} {m : Nat → Option Int} (hM : QM l m) (hH : Hp (befQ ltI) l) {x : Nat × Int} (hx : FstI m x) : l[0]? = some x := by
  cases hl : l[0]? with
  | some y => rw [first_one ordI (hM.first ordI hH hl) hx]
  | none =>
    have : l = [] := by simpa using hl
    subst this
    have := (hM x).2 hx.1; cases this

set_option maxHeartbeats 800000 in
set_option maxRecDepth 100000 in
theorem peekI {W : World} {base b : Nat} {p : Option Addr} {S : Nat} {m : Nat → Option Int} (h : PQI W base b p S m) {x : Nat × Int} (hx : FstI m x) :
    Calls Try.prog 143 #[.pointer (some ⟨b, 0, none⟩)] W fun e w' => e = .returned (.tuple #[.int .i64 (x.1 : Nat), Value.int .i64 x.2, .bool true]) ∧ Below W.heap.size W w' := by
  obtain ⟨c, l, T, hQ, hP, hH, hM⟩ := h
  have h0 := fst_headI (S := S) (T := T) hM hH hx
  have hln := lenLI hQ
  have hll : 0 < l.length := (List.getElem?_eq_some_iff.1 h0).1
  obtain ⟨g, rfl, hc, hi, hv⟩ := hQ.at h0
  rw [Nat.zero_mul] at hi hv
  rw [Nat.zero_add] at hv
  have hp := hQ.heap
  generalize l.length = n at *
  obtain ⟨xi, xp⟩ := x
  clear hQ hP hH hM hx h0
  have h1 : (0 : Int) < (n : Int) := by omega
  have h2 : ((n : Int) == 0) = false := by simp; omega
  go_enter Try.func143, Try.ntmps143
  go_wp2_with fail
  refine hln.mono ?_
  rintro e w' ⟨rfl, rfl⟩
  go_wp2_with fail
  go_quiet (fail)
  go_wp2_with fail
  go_ret3
  exact ⟨rfl, Below.drewN' _ (Below.refl _ _)⟩

set_option maxHeartbeats 800000 in
set_option maxRecDepth 100000 in
theorem peekNoI {W : World} {base b : Nat} {p : Option Addr} {S : Nat} {m : Nat → Option Int} (h : PQI W base b p S m) (hx : ∀ k, m k = none) :
    Calls Try.prog 143 #[.pointer (some ⟨b, 0, none⟩)] W fun e w' => e = .returned (.tuple #[.int .i64 0, .int .i64 0, .bool false]) ∧ Below W.heap.size W w' := by
  have hln := lenI h
  have hz : cntQ S m = 0 := by
    unfold cntQ
    rw [List.countP_eq_zero]
    intro k _
    rw [hx k]; simp
  rw [hz, show ((0 : Nat) : Int) = 0 from rfl] at hln
  clear h hx hz
  go_enter Try.func143, Try.ntmps143
  go_wp2_with fail
  refine hln.mono ?_
  rintro e w' ⟨rfl, rfl⟩
  go_wp2_with fail
  go_quiet (fail)
  go_wp2_with fail
  go_ret3
  exact ⟨rfl, Below.drewN' _ ((Below.refl _ _).alloc (Nat.le_refl _) _)⟩
end Go.Proofs.Ytbkdcafamdiliaa
