/- The iterator of a queue: it copies the queue, and pops the copy between the yields. -/
import Derived.Test.YtpnhklehpilopaaPqRange
import Derived.Test.YtpnhklehpilopaaPqDrn
import Derived.Test.YtpnhklehpilopaaPqCopyL
namespace Go.Proofs.Ytpnhklehpilopaa
open Go Go.RowKit

attribute [local go_sem] Oper.semAt_some

/-- What yield is called with. -/
def encPL (x : Nat × Int) : Array Value := #[.int .i64 (x.1 : Nat), Value.int .i64 x.2]

/-- What Pop gives at the place k of the order: its three results. -/
def popAtL (l : List (Nat × Int)) (k : Nat) : Value × Value × Value := match l[k]? with
  | some x => (.int .i64 (x.1 : Nat), Value.int .i64 x.2, .bool true)
  | none => (.int .i64 0, .int .i64 0, .bool false)

theorem popAtL_some {l : List (Nat × Int)} {k : Nat} {x : Nat × Int} (h : l[k]? = some x) : popAtL l k = (.int .i64 (x.1 : Nat), Value.int .i64 x.2, .bool true) := by unfold popAtL; rw [h]
theorem popAtL_none {l : List (Nat × Int)} {k : Nat} (h : l[k]? = none) : popAtL l k = (.int .i64 0, .int .i64 0, .bool false) := by unfold popAtL; rw [h]

/-- Pop, at a place of the order: only the queue's own two blocks are turned. -/
theorem popDrnL {W : World} {base b : Nat} {p : Option Addr} {S : Nat} {m : Nat → Option Int} {l : List (Nat × Int)} (hD : Drn ltI m l) {k : Nat} (hk : k ≤ l.length) (h : PQL W base b p S (mAt m l k)) :
    Calls Try.prog 57 #[.pointer (some ⟨b, 0, none⟩)] W fun e w' => e = .returned (.tuple #[(popAtL l k).1, (popAtL l k).2.1, (popAtL l k).2.2]) ∧ (k < l.length → PQL w' base b p S (mAt m l (k + 1))) ∧ Touch b p W w' ∧ (l.length = k → Below W.heap.size W w') := by
  rcases Nat.lt_or_ge k l.length with hlt | hge
  · have hx : l[k]? = some l[k] := List.getElem?_eq_getElem hlt
    refine (popL h (x := l[k]) (hD.fst hx)).mono ?_
    rintro e w' ⟨he, h1, h2⟩
    rw [popAtL_some hx, mAt_succ m hx]
    exact ⟨he, fun _ => h1, h2, fun e => by omega⟩
  · obtain rfl : k = l.length := by omega
    refine (popNoL h hD.done).mono ?_
    rintro e w' ⟨he, h1⟩
    rw [popAtL_none (List.getElem?_eq_none_iff.2 (Nat.le_refl _))]
    exact ⟨he, fun h => by omega, Touch.of_below h1, fun _ => h1⟩

/-- The length of a queue's heap, as memory has it. -/
def qLenL (W : World) (b : Nat) : Nat := match W.cell? ⟨b, 2, none⟩ with
  | some (.slice _ n _) => n
  | _ => 0

theorem PQL.qlen {W : World} {base b : Nat} {p : Option Addr} {S : Nat} {m : Nat → Option Int} (h : PQL W base b p S m) : qLenL W b = cntQ S m := by
  obtain ⟨c, l, T, h1, h2, h3, h4⟩ := h
  unfold qLenL
  rw [h1.heap]
  exact h4.cnt h2

theorem PQL.left {W : World} {base b : Nat} {p : Option Addr} {S : Nat} {m : Nat → Option Int} {l : List (Nat × Int)} (hD : Drn ltI m l) {i : Nat} (hi : i ≤ l.length) (h : PQL W base b p S (mAt m l i)) : qLenL W b = l.length - i := by
  rw [h.qlen, ← (hD.drop i hi).len (fun k hk => h.low hk), List.length_drop]

/-- How many ids are to come: those in the copy, and the one that was popped. -/
def toComeL (W : World) (b : Nat) (has : Value) : Nat := qLenL W b + (match has with | .bool true => 1 | _ => 0)

set_option maxRecDepth 100000 in
set_option maxHeartbeats 4000000 in
/-- All's iterator. -/
theorem all1L_in (n : Nat) (hn : 3 ≤ n) (lr bq : Nat) {base b : Nat} {p : Option Addr} {S : Nat} {m : Nat → Option Int} {l : List (Nat × Int)} (hD : Drn ltI m l) (J Jx : Nat → List (Nat × Int) → World → Prop) (W : World)
    (hbq : W.cell? ⟨bq, 0, none⟩ = some (.pointer (some ⟨b, 0, none⟩))) (hQ : PQL W base b p S m)
    (hJ : ∀ hi s A C, J hi s A → W.heap.size ≤ hi → OwnStep W.heap.size hi A C → J hi s C)
    (hY : ∀ (k hi : Nat) pre x A, W.heap.size ≤ hi → J hi pre A → l[pre.length]? = some x → YieldAt Fence.wide k Try.prog lr (encPL x) A fun e A' => (e = .returned (.bool true) ∧ J hi (pre ++ [x]) A' ∧ KeepsIn W.heap.size hi A A') ∨ (e = .returned (.bool false) ∧ Jx hi (pre ++ [x]) A'))
    (h0 : ∀ A, Below W.heap.size W A → J A.heap.size [] A) :
    CallsIn Fence.wide n Try.prog 162 #[.func (.yield lr) #[] #[], .pointer (some ⟨bq, 0, none⟩)] W fun e W' => (∃ v, e = .returned v) ∧ ∃ hi, W.heap.size ≤ hi ∧ (J hi l W' ∨ ∃ pre, pre <+: l ∧ Jx hi pre W') := by
  have hcp := copyL hQ
  have HY := Lib.hid hY
  have HJ := Lib.hid hJ
  have H0 := Lib.hid h0
  have hn1 : 1 ≤ n := by omega
  clear hY hJ h0 hQ
  refine callsIn_of_wp Try.func162 rfl trivial ?_ rfl
  simp only [Try.ntmps162, List.size_toArray, List.length_cons, List.length_nil, Nat.reduceAdd, Nat.reduceSub, Array.replicate_succ, Array.replicate_zero, List.push_toArray, List.append_toArray, List.nil_append, List.cons_append]
  gi_wp2_with fail
  refine ⟨trivial, (callsIn_wide.2 hcp).mono ?_⟩
  rintro e W1 ⟨c, p', rfl, hq1, hb1, hc1, hp1⟩
  obtain ⟨hi, hhi⟩ : ∃ hi, hi = W1.heap.size := ⟨_, rfl⟩
  have hclt : c < hi := by rw [hhi]; exact hq1.lt
  have hplt : ∀ a, p' = some a → a.block < hi := fun a ha => by rw [hhi]; exact (hq1.own ha).2.1
  have hWhi : W.heap.size ≤ hi := by rw [hhi]; exact hb1.size
  have hj0 := H0.out W1 hb1
  rw [← hhi] at hj0
  have hts : ∀ A B, Touch c p' A B → OwnStep W.heap.size hi A B := fun A B ht => ⟨ht.os, ht.tape, ht.output, ht.size, fun k hk hb => ht.block k hk (by omega) (fun a ha => by have := hp1 a ha; have := hplt a ha; omega)⟩
  have HTS := Lib.hid hts
  have hpop0 := popDrnL hD (Nat.zero_le _) (W := W1) (base := 0) (b := c) (p := p') (S := S) hq1
  have HQ1 := Lib.hid hq1
  have HJ0 := Lib.hid hj0
  clear hts hq1 hj0 hb1 hcp
  gi_wp2_with fail
  refine ⟨trivial, (callsIn_wide.2 hpop0).mono ?_⟩
  rintro e W2 ⟨rfl, hq2, ht2, hx2⟩
  have HJ2 := Lib.hid (HJ.out _ _ _ _ HJ0.out hWhi (HTS.out _ _ ht2))
  have HQ2 : Hid (PQL W2 0 c p' S (mAt m l (min (0 + 1) l.length))) := Lib.hid (by
    rcases Nat.lt_or_ge 0 l.length with h | h
    · rw [Nat.min_eq_left (by omega)]; exact hq2 h
    · have e : l.length = 0 := by omega
      rw [e]
      exact HQ1.out.same ht2.size (by
        have := hx2 e
        exact this.block _ HQ1.out.lt) (fun a ha => (hx2 e).block _ (HQ1.out.own ha).2.1))
  have HS2 : Hid (hi ≤ W2.heap.size) := Lib.hid (by rw [hhi]; exact ht2.size)
  clear hpop0 hq2 ht2 hx2 HQ1 HJ0 H0 hbq hhi
  gi_wp2_with fail
  gi_loopw [4, 5, 6] (fun a b h wr => ∃ k : Nat, k ≤ l.length ∧ a = (popAtL l k).1 ∧ b = (popAtL l k).2.1 ∧ h = (popAtL l k).2.2 ∧ Hid (PQL wr 0 c p' S (mAt m l (min (k + 1) l.length)) ∧ J hi (l.take k) wr ∧ hi ≤ wr.heap.size)) (fun _ _ h wr => toComeL wr c h)
  case atStart => exact ⟨0, Nat.zero_le _, rfl, rfl, rfl, HQ2.out, by simpa using HJ2.out, HS2.out⟩
  case round =>
    obtain ⟨k, hk, rfl, rfl, rfl, HR⟩ := hrel
    clear HQ2 HJ2 HS2
    by_cases hlt : k < l.length
    · obtain ⟨x, hx⟩ : ∃ x, l[k]? = some x := ⟨_, List.getElem?_eq_getElem hlt⟩
      have hpx := popAtL_some hx
      rw [hpx]
      obtain ⟨hq, hj, hs⟩ := HR.out
      rw [Nat.min_eq_left (by omega)] at hq
      have hln := hq.left hD (by omega)
      obtain ⟨fn, tmps, assign, body, hy, hRn⟩ := HY.out (n - 1) hi _ x _ hWhi hj (by rw [List.length_take, Nat.min_eq_left (by omega)]; exact hx)
      unfold encPL at hy
      rw [← takeSucc hx] at hRn
      have HQ := Lib.hid hq
      have HSZ := Lib.hid hs
      have HLN := Lib.hid hln
      clear hq hj hs hln HR hpx
      gi_wp2_with fail
      refine hRn.mono ?_
      rintro e W3 (⟨rfl, hJ3, hk3⟩ | ⟨rfl, hJx3⟩)
      · have hq3 : PQL W3 0 c p' S (mAt m l (k + 1)) := HQ.out.same hk3.size (hk3.block c hc1 hclt HQ.out.lt) (fun a ha => hk3.block _ (hp1 a ha) (hplt a ha) (HQ.out.own ha).2.1)
        have hpop := popDrnL hD (k := k + 1) (by omega) hq3
        have HJ3 := Lib.hid hJ3
        have HK3 := Lib.hid hk3.size
        have HQ3 := Lib.hid hq3
        clear hq3 hk3 hJ3
        gi_wp2_with fail
        refine ⟨trivial, (callsIn_wide.2 hpop).mono ?_⟩
        rintro e W4 ⟨rfl, hq4, ht4, hx4⟩
        have hq5 : PQL W4 0 c p' S (mAt m l (min (k + 1 + 1) l.length)) := by
          rcases Nat.lt_or_ge (k + 1) l.length with h | h
          · rw [Nat.min_eq_left (by omega)]; exact hq4 h
          · have e : l.length = k + 1 := by omega
            rw [Nat.min_eq_right (by omega), e]
            exact HQ3.out.below (hx4 e)
        have HM : Hid (toComeL W4 c (popAtL l (k + 1)).2.2 < toComeL wr c (.bool true)) := Lib.hid (by
          have h5 := hq5.left hD (by omega)
          unfold toComeL
          rw [HLN.out]
          rcases Nat.lt_or_ge (k + 1) l.length with h | h
          · rw [popAtL_some (List.getElem?_eq_getElem h), h5, Nat.min_eq_left (by omega)]
            show l.length - (k + 1 + 1) + 1 < l.length - (k + 1) + 1
            omega
          · have e : l.length = k + 1 := by omega
            rw [popAtL_none (List.getElem?_eq_none_iff.2 (by omega)), h5, Nat.min_eq_right (by omega)]
            show l.length - l.length + 0 < l.length - (k + 1) + 1
            omega)
        have HN : Hid (PQL W4 0 c p' S (mAt m l (min (k + 1 + 1) l.length)) ∧ J hi (l.take (k + 1)) W4 ∧ hi ≤ W4.heap.size) := Lib.hid ⟨hq5, HJ.out _ _ _ _ HJ3.out hWhi (HTS.out _ _ ht4), Nat.le_trans HSZ.out (Nat.le_trans HK3.out ht4.size)⟩
        clear hq4 ht4 hx4 hq5 hpop
        gi_wp2_with fail
        go_roundw
        case rel => exact ⟨k + 1, by omega, rfl, rfl, rfl, HN⟩
        case measure => exact HM.out
      · gi_wp2_with fail
        refine bodyPost_ret (results_none rfl _ _ _) rfl ?_
        exact ⟨⟨_, rfl⟩, hi, hWhi, .inr ⟨_, List.take_prefix _ _, hJx3⟩⟩
    · obtain rfl : k = l.length := by omega
      rw [popAtL_none (List.getElem?_eq_none_iff.2 (Nat.le_refl _))]
      have hj := HR.out.2.1
      rw [List.take_of_length_le (Nat.le_refl _)] at hj
      have HJE := Lib.hid hj
      clear hj HR
      gi_wp2_with fail
      go_end0
      exact ⟨⟨_, rfl⟩, hi, hWhi, .inl HJE.out⟩

/-- The place of an id in the order, and what lies there. -/
def pickL (l : List (Nat × Int)) (i : Nat) : Nat × Int := l.getD i (0, (0 : Int))
theorem pickL_at {l : List (Nat × Int)} {i : Nat} {x : Nat × Int} (h : l[i]? = some x) : pickL l i = x := by unfold pickL; rw [List.getD_eq_getElem?_getD, h]; rfl

/-- All's iterator, told by the places of what it yields. -/
theorem allOwnL (n : Nat) (hn : 3 ≤ n) (bq : Nat) {base b : Nat} {p : Option Addr} {S : Nat} {m : Nat → Option Int} {l : List (Nat × Int)} (hD : Drn ltI m l) (w : World)
    (hbq : w.cell? ⟨bq, 0, none⟩ = some (.pointer (some ⟨b, 0, none⟩))) (hQ : PQL w base b p S m) :
    SeqOwn Fence.wide n Try.prog 162 #[.pointer (some ⟨bq, 0, none⟩)] (fun i => encPL (pickL l i)) (fun ys => ys = List.range l.length) (fun pre => pre <+: List.range l.length) l.length w := fun lr J Jx W hW hJ hJx hY h0 => by
  have hbq' := (hW.cell (World.block_lt_of_cell? _ _ hbq)).trans hbq
  refine (all1L_in n hn lr bq hD (fun hi pre => J hi (List.range pre.length)) (fun hi pre => Jx hi (List.range pre.length)) W hbq' (hQ.below hW) (fun hi s A C h1 h2 h3 => hJ hi _ A C h1 h2 h3)
    (fun k hi pre x A hhi hj hx => by
      have := yieldDepth rfl k (hY hi (List.range pre.length) pre.length A hhi hj (by rw [List.length_range]; exact (List.getElem?_eq_some_iff.1 hx).1))
      simp only [pickL_at hx, ← List.range_succ] at this
      simp only [List.length_append, List.length_singleton]
      exact this) (fun A hA => h0 A hA)).mono ?_
  rintro e W' ⟨he, hi, hhi, hor⟩
  refine ⟨he, hi, hhi, ?_⟩
  rcases hor with h | ⟨pre, h1, h2⟩
  · exact .inl ⟨_, rfl, h⟩
  · exact .inr ⟨_, range_prefix h1.length_le, h2⟩
end Go.Proofs.Ytpnhklehpilopaa
