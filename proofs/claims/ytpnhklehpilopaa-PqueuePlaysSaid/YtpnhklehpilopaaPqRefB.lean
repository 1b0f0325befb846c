/- Several texts in one: PqRef9, PqRef10, PqRef11, PqRef12, PqRef15. -/
import Derived.Test.YtpnhklehpilopaaPqRefA
import Derived.Test.YtpnhklehpilopaaPqBadL
import Derived.Test.YtpnhklehpilopaaPqCopyL
import Derived.Test.YtpnhklehpilopaaPqAll2L
import Derived.Test.YtpnhklehpilopaaPqWorks
import Derived.Test.YtpnhklehpilopaaPqRow0
import Derived.Deep.QuietTactic
import Derived.BigQuiet
import Derived.Outline
import Derived.StillTailTactics
namespace Go.Proofs.Ytpnhklehpilopaa
open Go Go.RowKit

/-- The blocks of K are as they were in w0. -/
structure Kept (K : Nat → Prop) (w0 W : World) : Prop where
  os : W.os = w0.os
  tape : W.tape = w0.tape
  output : W.output = w0.output
  size : w0.heap.size ≤ W.heap.size
  block : ∀ k, K k → k < w0.heap.size ∧ W.heap[k]? = w0.heap[k]?

theorem Kept.trans {K : Nat → Prop} {A B C : World} (h : Kept K A B) (hb : Below B.heap.size B C) : Kept K A C :=
  ⟨hb.os.trans h.os, hb.tape.trans h.tape, hb.output.trans h.output, Nat.le_trans h.size hb.size, fun k hk => ⟨(h.block k hk).1, (hb.block k (Nat.lt_of_lt_of_le (h.block k hk).1 h.size)).trans (h.block k hk).2⟩⟩

theorem Kept.fresh {K : Nat → Prop} {A B : World} (h : Kept K A B) {k : Nat} (hk : B.heap.size ≤ k) : ¬ K k := fun hK => by
  have := (h.block k hK).1
  have := h.size
  omega

structure BV (K : Nat → Prop) (w0 W : World) (b : Nat) (p : Option Addr) (rb gi gp ci cp S : Nat) (f : Nat → Bool) (g : Nat → Int) (mq mr : Nat → Option Int) : Prop where
  q : PQL W 0 b p S mq
  r : RQ W rb gi gp ci cp S f g
  rm : RM S f g mr
  s0 : b ≠ rb ∧ b ≠ gi ∧ b ≠ gp
  s1 : ∀ a, p = some a → a.block ≠ rb ∧ a.block ≠ gi ∧ a.block ≠ gp ∧ ¬ K a.block
  lo : ¬ K b ∧ ¬ K rb ∧ ¬ K gi ∧ ¬ K gp
  bel : Kept K w0 W

section
variable {K : Nat → Prop} {w0 W W' : World} {b : Nat} {p p' : Option Addr} {rb gi gp ci cp S : Nat} {f f' : Nat → Bool} {g g' : Nat → Int} {mq mr m' : Nat → Option Int}

theorem BV.qs (h : BV K w0 W b p rb gi gp ci cp S f g mq mr) (hq : PQL W' 0 b p' S m') (ht : Touch b p W W') (hh : Head p p' W.heap.size) : BV K w0 W' b p' rb gi gp ci cp S f g m' mr := by
  obtain ⟨l0, l1, l2⟩ := h.r.lt
  obtain ⟨a0, a1, a2⟩ := h.s0
  obtain ⟨o0, o1, o2, o3⟩ := h.lo
  have hsz := h.bel.size
  refine ⟨hq, h.r.same (ht.block _ l0 (Ne.symm a0) (fun a ha => Ne.symm (h.s1 a ha).1)) (ht.block _ l1 (Ne.symm a1) (fun a ha => Ne.symm (h.s1 a ha).2.1)) (ht.block _ l2 (Ne.symm a2) (fun a ha => Ne.symm (h.s1 a ha).2.2.1)), h.rm, h.s0, fun a ha => ?_, h.lo, ?_⟩
  · rcases hh a ha with ⟨a3, e1, e2⟩ | e
    · rw [← e2]; exact h.s1 a3 e1
    · exact ⟨by omega, by omega, by omega, h.bel.fresh e⟩
  · refine ⟨ht.os.trans h.bel.os, ht.tape.trans h.bel.tape, ht.output.trans h.bel.output, Nat.le_trans hsz ht.size, fun k hk => ⟨(h.bel.block k hk).1, ?_⟩⟩
    rw [ht.block k (Nat.lt_of_lt_of_le (h.bel.block k hk).1 hsz) (fun e => o0 (e ▸ hk)) (fun a ha e => (h.s1 a ha).2.2.2 (e ▸ hk)), (h.bel.block k hk).2]

theorem BV.rs (h : BV K w0 W b p rb gi gp ci cp S f g mq mr) (hr : RQ W' rb gi gp ci cp S f' g') (hm : RM S f' g' m') (ht : RTch gi gp W W') : BV K w0 W' b p rb gi gp ci cp S f' g' mq m' := by
  obtain ⟨o0, o1, o2, o3⟩ := h.lo
  have hsz := h.bel.size
  refine ⟨h.q.same ht.size (ht.block _ h.q.lt h.s0.2.1 h.s0.2.2) (fun a ha => ht.block _ (h.q.own ha).2.1 (h.s1 a ha).2.1 (h.s1 a ha).2.2.1), hr, hm, h.s0, h.s1, h.lo, ?_⟩
  refine ⟨ht.os.trans h.bel.os, ht.tape.trans h.bel.tape, ht.output.trans h.bel.output, Nat.le_trans hsz ht.size, fun k hk => ⟨(h.bel.block k hk).1, ?_⟩⟩
  rw [ht.block k (Nat.lt_of_lt_of_le (h.bel.block k hk).1 hsz) (fun e => o2 (e ▸ hk)) (fun e => o3 (e ▸ hk)), (h.bel.block k hk).2]

theorem BV.below (h : BV K w0 W b p rb gi gp ci cp S f g mq mr) (hb : Below W.heap.size W W') : BV K w0 W' b p rb gi gp ci cp S f g mq mr :=
  ⟨h.q.below hb, h.r.below hb, h.rm, h.s0, h.s1, h.lo, h.bel.trans hb⟩
end

/-- Two queues, the program's and the document's, that hold the same, or neither. -/
def Two (K : Nat → Prop) (w0 W : World) (v r : Option Addr) : Prop :=
  (v = none ∧ r = none ∧ Kept K w0 W) ∨ ∃ b p rb gi gp ci cp S f g m, v = some ⟨b, 0, none⟩ ∧ r = some ⟨rb, 0, none⟩ ∧ BV K w0 W b p rb gi gp ci cp S f g m m

theorem Two.below {K : Nat → Prop} {w0 W W' : World} {v r : Option Addr} (h : Two K w0 W v r) (hb : Below W.heap.size W W') : Two K w0 W' v r := by
  rcases h with ⟨h1, h2, h3⟩ | ⟨b, p, rb, gi, gp, ci, cp, S, f, g, m, h1, h2, h3⟩
  · exact .inl ⟨h1, h2, h3.trans hb⟩
  · exact .inr ⟨b, p, rb, gi, gp, ci, cp, S, f, g, m, h1, h2, h3.below hb⟩

/-- The blocks kept may be said anew, and new ones beside them. -/
theorem Two.rebase {K K' : Nat → Prop} {w0 W W1 : World} {v r : Option Addr} (h : Two K w0 W v r) (hb : Below W.heap.size W W1) (hK : ∀ k, K' k → k < W1.heap.size ∧ (K k ∨ W.heap.size ≤ k)) : Two K' W1 W1 v r := by
  have hn : ∀ k, ¬ K k → k < W.heap.size → ¬ K' k := fun k hk hlt hk' => by
    obtain ⟨h1, h2 | h2⟩ := hK k hk'
    · exact hk h2
    · omega
  have hkept : Kept K' W1 W1 := ⟨rfl, rfl, rfl, Nat.le_refl _, fun k hk => ⟨(hK k hk).1, rfl⟩⟩
  rcases h with ⟨h1, h2, h3⟩ | ⟨b, p, rb, gi, gp, ci, cp, S, f, g, m, h1, h2, h3⟩
  · exact .inl ⟨h1, h2, hkept⟩
  · obtain ⟨l0, l1, l2⟩ := h3.r.lt
    exact .inr ⟨b, p, rb, gi, gp, ci, cp, S, f, g, m, h1, h2, h3.q.below hb, h3.r.below hb, h3.rm, h3.s0, fun a ha => ⟨(h3.s1 a ha).1, (h3.s1 a ha).2.1, (h3.s1 a ha).2.2.1, hn _ (h3.s1 a ha).2.2.2 (h3.q.own ha).2.1⟩, ⟨hn _ h3.lo.1 h3.q.lt, hn _ h3.lo.2.1 l0, hn _ h3.lo.2.2.1 l1, hn _ h3.lo.2.2.2 l2⟩, hkept⟩

/-- Fewer blocks kept, said of an earlier world. -/
theorem Two.mono {K K' : Nat → Prop} {w0 w1 W : World} {v r : Option Addr} (h : Two K' w1 W v r) (hK : ∀ k, K k → K' k) (hk : Kept K w0 w1) : Two K w0 W v r := by
  have ht : ∀ X, Kept K' w1 X → Kept K w0 X := fun X hX => ⟨hX.os.trans hk.os, hX.tape.trans hk.tape, hX.output.trans hk.output, Nat.le_trans hk.size hX.size, fun k hkk => ⟨(hk.block k hkk).1, (hX.block k (hK k hkk)).2.trans (hk.block k hkk).2⟩⟩
  rcases h with ⟨h1, h2, h3⟩ | ⟨b, p, rb, gi, gp, ci, cp, S, f, g, m, h1, h2, h3⟩
  · exact .inl ⟨h1, h2, ht _ h3⟩
  · exact .inr ⟨b, p, rb, gi, gp, ci, cp, S, f, g, m, h1, h2, h3.q, h3.r, h3.rm, h3.s0, fun a ha => ⟨(h3.s1 a ha).1, (h3.s1 a ha).2.1, (h3.s1 a ha).2.2.1, fun hh => (h3.s1 a ha).2.2.2 (hK _ hh)⟩, ⟨fun hh => h3.lo.1 (hK _ hh), fun hh => h3.lo.2.1 (hK _ hh), fun hh => h3.lo.2.2.1 (hK _ hh), fun hh => h3.lo.2.2.2 (hK _ hh)⟩, ht _ h3.bel⟩

theorem Two.kept {K : Nat → Prop} {w0 W : World} {v r : Option Addr} (h : Two K w0 W v r) : Kept K w0 W := by
  rcases h with ⟨h1, h2, h3⟩ | ⟨b, p, rb, gi, gp, ci, cp, S, f, g, m, h1, h2, h3⟩
  · exact h3
  · exact h3.bel

section
variable {K : Nat → Prop} {w0 W : World} {v r : Option Addr}

theorem push2 (h : Two K w0 W v r) (k x : Int) :
    Calls Try.prog 51 #[.pointer v, .int .i64 k, .int .i64 x] W fun e w1 => ∃ n : Int, e = .returned (.int .i64 n) ∧ Hid (Kept K w0 w1) ∧ Hid (Calls Try.prog 52 #[.pointer r, .int .i64 k, .int .i64 x] w1 fun e2 w2 => e2 = .returned (.int .i64 n) ∧ Hid (Two K w0 w2 v r)) := by
  rcases h with ⟨rfl, rfl, h3⟩ | ⟨b, p, rb, gi, gp, ci, cp, S, f, g, m, rfl, rfl, h3⟩
  · refine (pushNL (badNilL W) k x W (Below.refl _ _)).mono ?_
    rintro e w1 ⟨rfl, rfl⟩
    refine ⟨1, rfl, Lib.hid h3, Lib.hid ((rpushN k x w1).mono ?_)⟩
    rintro e w2 ⟨rfl, rfl⟩
    exact ⟨rfl, Lib.hid (.inl ⟨rfl, rfl, h3⟩)⟩
  · by_cases hr : k < 0 ∨ (S : Int) ≤ k
    · refine (pushBadL h3.q hr x).mono ?_
      rintro e w1 ⟨rfl, rfl⟩
      refine ⟨3, rfl, Lib.hid (h3.bel), Lib.hid ((rpushBad h3.r hr x).mono ?_)⟩
      rintro e w2 ⟨rfl, rfl⟩
      exact ⟨rfl, Lib.hid (.inr ⟨b, p, rb, gi, gp, ci, cp, S, f, g, m, rfl, rfl, h3⟩)⟩
    · obtain ⟨j, rfl⟩ : ∃ j : Nat, k = j := ⟨k.toNat, by omega⟩
      have hj : j < S := by omega
      have hf := h3.rm.isin j hj
      cases hm : m j with
      | none =>
        rw [hm] at hf
        refine (pushL h3.q (Nat.zero_le _) hj hm x).mono ?_
        rintro e w1 ⟨rfl, p1, h4, h5, h6⟩
        have h7 := h3.qs h4 h5 h6
        refine ⟨0, rfl, Lib.hid (h7.bel), Lib.hid ((rpush h7.r hj hf x).mono ?_)⟩
        rintro e w2 ⟨rfl, rfl⟩
        exact ⟨rfl, Lib.hid (.inr ⟨b, p1, rb, gi, gp, ci, cp, S, _, _, _, rfl, rfl, h7.rs ((h7.r.setIn hj true).setP hj x) (h7.rm.push hj x) (((RTch.of_below (Below.refl _ _)).set _ (.inl rfl)).set _ (.inr rfl))⟩)⟩
      | some u =>
        rw [hm] at hf
        refine (pushHaveL h3.q hm x).mono ?_
        rintro e w1 ⟨rfl, rfl⟩
        refine ⟨6, rfl, Lib.hid (h3.bel), Lib.hid ((rpushHave h3.r hj hf x).mono ?_)⟩
        rintro e w2 ⟨rfl, rfl⟩
        exact ⟨rfl, Lib.hid (.inr ⟨b, p, rb, gi, gp, ci, cp, S, f, g, m, rfl, rfl, h3⟩)⟩

theorem change2 (h : Two K w0 W v r) (k x : Int) :
    Calls Try.prog 53 #[.pointer v, .int .i64 k, .int .i64 x] W fun e w1 => ∃ n : Int, e = .returned (.int .i64 n) ∧ Hid (Kept K w0 w1) ∧ Hid (Calls Try.prog 54 #[.pointer r, .int .i64 k, .int .i64 x] w1 fun e2 w2 => e2 = .returned (.int .i64 n) ∧ Hid (Two K w0 w2 v r)) := by
  rcases h with ⟨rfl, rfl, h3⟩ | ⟨b, p, rb, gi, gp, ci, cp, S, f, g, m, rfl, rfl, h3⟩
  · refine (changeNL (badNilL W) k x W (Below.refl _ _)).mono ?_
    rintro e w1 ⟨rfl, rfl⟩
    refine ⟨1, rfl, Lib.hid h3, Lib.hid ((rchangeN k x w1).mono ?_)⟩
    rintro e w2 ⟨rfl, rfl⟩
    exact ⟨rfl, Lib.hid (.inl ⟨rfl, rfl, h3⟩)⟩
  · by_cases hr : k < 0 ∨ (S : Int) ≤ k
    · refine (changeBadL h3.q hr x).mono ?_
      rintro e w1 ⟨rfl, rfl⟩
      refine ⟨3, rfl, Lib.hid (h3.bel), Lib.hid ((rchangeBad h3.r hr x).mono ?_)⟩
      rintro e w2 ⟨rfl, rfl⟩
      exact ⟨rfl, Lib.hid (.inr ⟨b, p, rb, gi, gp, ci, cp, S, f, g, m, rfl, rfl, h3⟩)⟩
    · obtain ⟨j, rfl⟩ : ∃ j : Nat, k = j := ⟨k.toNat, by omega⟩
      have hj : j < S := by omega
      have hf := h3.rm.isin j hj
      cases hm : m j with
      | none =>
        rw [hm] at hf
        refine (changeNoL h3.q hj hm x).mono ?_
        rintro e w1 ⟨rfl, rfl⟩
        refine ⟨5, rfl, Lib.hid (h3.bel), Lib.hid ((rchangeNo h3.r hj hf x).mono ?_)⟩
        rintro e w2 ⟨rfl, rfl⟩
        exact ⟨rfl, Lib.hid (.inr ⟨b, p, rb, gi, gp, ci, cp, S, f, g, m, rfl, rfl, h3⟩)⟩
      | some u =>
        rw [hm] at hf
        refine (changeL h3.q hm x).mono ?_
        rintro e w1 ⟨rfl, h4, h5⟩
        have h7 := h3.qs h4 h5 (Head.refl _ _)
        refine ⟨0, rfl, Lib.hid (h7.bel), Lib.hid ((rchange h7.r hj hf x).mono ?_)⟩
        rintro e w2 ⟨rfl, rfl⟩
        exact ⟨rfl, Lib.hid (.inr ⟨b, p, rb, gi, gp, ci, cp, S, _, _, _, rfl, rfl, h7.rs (h7.r.setP hj x) (h7.rm.change hj hm x) ((RTch.of_below (Below.refl _ _)).set _ (.inr rfl))⟩)⟩

theorem remove2 (h : Two K w0 W v r) (k : Int) :
    Calls Try.prog 55 #[.pointer v, .int .i64 k] W fun e w1 => ∃ (n : Int) (o : Bool), e = .returned (.tuple #[.int .i64 n, .bool o]) ∧ Hid (Kept K w0 w1) ∧ Hid (Calls Try.prog 56 #[.pointer r, .int .i64 k] w1 fun e2 w2 => e2 = .returned (.tuple #[.int .i64 n, .bool o]) ∧ Hid (Two K w0 w2 v r)) := by
  rcases h with ⟨rfl, rfl, h3⟩ | ⟨b, p, rb, gi, gp, ci, cp, S, f, g, m, rfl, rfl, h3⟩
  · refine (removeNL (badNilL W) k W (Below.refl _ _)).mono ?_
    rintro e w1 ⟨rfl, rfl⟩
    refine ⟨0, false, rfl, Lib.hid h3, Lib.hid ((rremoveN k w1).mono ?_)⟩
    rintro e w2 ⟨rfl, rfl⟩
    exact ⟨rfl, Lib.hid (.inl ⟨rfl, rfl, h3⟩)⟩
  · by_cases hr : 0 ≤ k ∧ k < (S : Int) ∧ (m k.toNat).isSome = true
    · obtain ⟨j, rfl⟩ : ∃ j : Nat, k = j := ⟨k.toNat, by omega⟩
      have hj : j < S := by omega
      have hf := h3.rm.isin j hj
      obtain ⟨u, hm⟩ := Option.isSome_iff_exists.1 hr.2.2
      rw [Int.toNat_natCast] at hm
      rw [hm] at hf
      refine (removeL h3.q hm).mono ?_
      rintro e w1 ⟨rfl, h4, h5⟩
      have h7 := h3.qs h4 h5 (Head.refl _ _)
      refine ⟨u, true, rfl, Lib.hid (h7.bel), Lib.hid ((rremove h7.r hj hf).mono ?_)⟩
      rintro e w2 ⟨rfl, h8, h9⟩
      refine ⟨by rw [h3.rm.pri j u hm], Lib.hid (.inr ⟨b, p, rb, gi, gp, ci, cp, S, _, _, _, rfl, rfl, h7.rs h8 (h7.rm.remove hj) h9⟩)⟩
    · have hk : 0 ≤ k → m k.toNat = none := fun h0 => by
        cases hm : m k.toNat with
        | none => rfl
        | some u =>
          exfalso
          refine hr ⟨h0, ?_, by rw [hm]; rfl⟩
          rcases Int.lt_or_le k S with h1 | h1
          · exact h1
          · rw [h3.rm.low k.toNat (by omega)] at hm; cases hm
      refine (removeNoL h3.q k hk).mono ?_
      rintro e w1 ⟨rfl, rfl⟩
      refine ⟨0, false, rfl, Lib.hid (h3.bel), Lib.hid ((rremoveNo h3.r k (fun hh => hr ⟨hh.1, hh.2.1, by rw [← h3.rm.isin k.toNat (by omega)]; exact hh.2.2⟩)).mono ?_)⟩
      rintro e w2 ⟨rfl, q, rfl⟩
      exact ⟨rfl, Lib.hid (.inr ⟨b, p, rb, gi, gp, ci, cp, S, f, g, m, rfl, rfl, h3.below (Below.drewN' q (Below.refl _ _))⟩)⟩
end
end Go.Proofs.Ytpnhklehpilopaa

namespace Go.Proofs.Ytpnhklehpilopaa
open Go Go.RowKit

theorem peek_uniq {m : Nat → Option Int} {o : Option (Nat × Int)} {x : Nat × Int} (h : rPeek m o) (hx : FstL m x) : o = some x := by
  cases o with
  | none =>
    have : ∀ k, m k = none := h
    have h1 := hx.1
    rw [this] at h1
    cases h1
  | some y =>
    obtain ⟨y1, y2⟩ := h
    rw [(befQ_ord ordI).tot y x (hx.2 y.1 y.2 y1) (y2 x.1 x.2 hx.1)]

theorem peek_none {m : Nat → Option Int} {o : Option (Nat × Int)} (h : rPeek m o) (hx : ∀ k, m k = none) : o = none := by
  cases o with
  | none => rfl
  | some y => obtain ⟨y1, y2⟩ := h; rw [hx] at y1; cases y1

section
variable {K : Nat → Prop} {w0 W : World} {v r : Option Addr}

theorem pop2 (h : Two K w0 W v r) :
    Calls Try.prog 57 #[.pointer v] W fun e w1 => ∃ (i n : Int) (o : Bool), e = .returned (.tuple #[.int .i64 i, .int .i64 n, .bool o]) ∧ Hid (Calls Try.prog 58 #[.pointer r] w1 fun e2 w2 => e2 = .returned (.tuple #[.int .i64 i, .int .i64 n, .bool o]) ∧ Hid (Two K w0 w2 v r)) := by
  rcases h with ⟨rfl, rfl, h3⟩ | ⟨b, p, rb, gi, gp, ci, cp, S, f, g, m, rfl, rfl, h3⟩
  · refine (popNL (badNilL W) W (Below.refl _ _)).mono ?_
    rintro e w1 ⟨rfl, hb⟩
    refine ⟨0, 0, false, rfl, Lib.hid ((rpopN w1).mono ?_)⟩
    rintro e w2 ⟨rfl, rfl⟩
    exact ⟨rfl, Lib.hid (.inl ⟨rfl, rfl, h3.trans hb⟩)⟩
  · rcases h3.q.fst with ⟨x, hx⟩ | hno
    · refine (popL h3.q hx).mono ?_
      rintro e w1 ⟨rfl, h4, h5⟩
      have h7 := h3.qs h4 h5 (Head.refl _ _)
      refine ⟨x.1, x.2, true, rfl, Lib.hid ((rpop h7.r h7.rm).mono ?_)⟩
      rintro e w2 ⟨o, f', ho, rfl, h8, h9, h10⟩
      obtain rfl := peek_uniq ho hx
      exact ⟨rfl, Lib.hid (.inr ⟨b, p, rb, gi, gp, ci, cp, S, _, _, _, rfl, rfl, h7.rs h8 h9 h10⟩)⟩
    · refine (popNoL h3.q hno).mono ?_
      rintro e w1 ⟨rfl, hb⟩
      have h7 := h3.below hb
      refine ⟨0, 0, false, rfl, Lib.hid ((rpop h7.r h7.rm).mono ?_)⟩
      rintro e w2 ⟨o, f', ho, rfl, h8, h9, h10⟩
      obtain rfl := peek_none ho hno
      exact ⟨rfl, Lib.hid (.inr ⟨b, p, rb, gi, gp, ci, cp, S, _, _, _, rfl, rfl, h7.rs h8 h9 h10⟩)⟩

theorem peek2 (h : Two K w0 W v r) :
    Calls Try.prog 66 #[.pointer v] W fun e w1 => ∃ (i n : Int) (o : Bool), e = .returned (.tuple #[.int .i64 i, .int .i64 n, .bool o]) ∧ Hid (Calls Try.prog 156 #[.pointer r] w1 fun e2 w2 => e2 = .returned (.tuple #[.int .i64 i, .int .i64 n, .bool o]) ∧ Hid (Two K w0 w2 v r)) := by
  rcases h with ⟨rfl, rfl, h3⟩ | ⟨b, p, rb, gi, gp, ci, cp, S, f, g, m, rfl, rfl, h3⟩
  · refine (peekNL (badNilL W) W (Below.refl _ _)).mono ?_
    rintro e w1 ⟨rfl, hb⟩
    refine ⟨0, 0, false, rfl, Lib.hid ((rpeekN w1).mono ?_)⟩
    rintro e w2 ⟨rfl, rfl⟩
    exact ⟨rfl, Lib.hid (.inl ⟨rfl, rfl, h3.trans hb⟩)⟩
  · rcases h3.q.fst with ⟨x, hx⟩ | hno
    · refine (peekL h3.q hx).mono ?_
      rintro e w1 ⟨rfl, hb⟩
      have h7 := h3.below hb
      refine ⟨x.1, x.2, true, rfl, Lib.hid ((rpeek h7.r h7.rm).mono ?_)⟩
      rintro e w2 ⟨o, ho, rfl, q, rfl⟩
      obtain rfl := peek_uniq ho hx
      exact ⟨rfl, Lib.hid (.inr ⟨b, p, rb, gi, gp, ci, cp, S, _, _, _, rfl, rfl, h7.below (Below.drewN' q (Below.refl _ _))⟩)⟩
    · refine (peekNoL h3.q hno).mono ?_
      rintro e w1 ⟨rfl, hb⟩
      have h7 := h3.below hb
      refine ⟨0, 0, false, rfl, Lib.hid ((rpeek h7.r h7.rm).mono ?_)⟩
      rintro e w2 ⟨o, ho, rfl, q, rfl⟩
      obtain rfl := peek_none ho hno
      exact ⟨rfl, Lib.hid (.inr ⟨b, p, rb, gi, gp, ci, cp, S, _, _, _, rfl, rfl, h7.below (Below.drewN' q (Below.refl _ _))⟩)⟩

theorem priority2 (h : Two K w0 W v r) (k : Int) :
    Calls Try.prog 65 #[.pointer v, .int .i64 k] W fun e w1 => ∃ (n : Int) (o : Bool), e = .returned (.tuple #[.int .i64 n, .bool o]) ∧ Hid (Calls Try.prog 155 #[.pointer r, .int .i64 k] w1 fun e2 w2 => e2 = .returned (.tuple #[.int .i64 n, .bool o]) ∧ Hid (Two K w0 w2 v r)) := by
  rcases h with ⟨rfl, rfl, h3⟩ | ⟨b, p, rb, gi, gp, ci, cp, S, f, g, m, rfl, rfl, h3⟩
  · refine (priorityNL (badNilL W) k W (Below.refl _ _)).mono ?_
    rintro e w1 ⟨rfl, rfl⟩
    refine ⟨0, false, rfl, Lib.hid ((rpriorityN k w1).mono ?_)⟩
    rintro e w2 ⟨rfl, rfl⟩
    exact ⟨rfl, Lib.hid (.inl ⟨rfl, rfl, h3⟩)⟩
  · have hrp := rpriority h3.r k
    by_cases hr : 0 ≤ k ∧ k < (S : Int) ∧ (m k.toNat).isSome = true
    · obtain ⟨j, rfl⟩ : ∃ j : Nat, k = j := ⟨k.toNat, by omega⟩
      have hj : j < S := by omega
      have hf := h3.rm.isin j hj
      obtain ⟨u, hm⟩ := Option.isSome_iff_exists.1 hr.2.2
      rw [Int.toNat_natCast] at hm
      rw [hm] at hf
      have hpe : rPri S f g (j : Int) = (u, true) := by
        unfold rPri
        rw [if_pos ⟨hr.1, hr.2.1, by rw [Int.toNat_natCast]; exact hf⟩, Int.toNat_natCast, h3.rm.pri j u hm]
      rw [hpe] at hrp
      refine (priorityL h3.q hm).mono ?_
      rintro e w1 ⟨rfl, rfl⟩
      refine ⟨u, true, rfl, Lib.hid (hrp.mono ?_)⟩
      rintro e w2 ⟨rfl, q, rfl⟩
      exact ⟨rfl, Lib.hid (.inr ⟨b, p, rb, gi, gp, ci, cp, S, _, _, _, rfl, rfl, h3.below (Below.drewN' q (Below.refl _ _))⟩)⟩
    · have hk : 0 ≤ k → m k.toNat = none := fun h0 => by
        cases hm : m k.toNat with
        | none => rfl
        | some u =>
          exfalso
          refine hr ⟨h0, ?_, by rw [hm]; rfl⟩
          rcases Int.lt_or_le k S with h1 | h1
          · exact h1
          · rw [h3.rm.low k.toNat (by omega)] at hm; cases hm
      have hpe : rPri S f g k = (0, false) := by
        unfold rPri
        rw [if_neg (fun hh => hr ⟨hh.1, hh.2.1, by rw [← h3.rm.isin k.toNat (by omega)]; exact hh.2.2⟩)]
      rw [hpe] at hrp
      refine (priorityNoL h3.q k hk).mono ?_
      rintro e w1 ⟨rfl, rfl⟩
      refine ⟨0, false, rfl, Lib.hid (hrp.mono ?_)⟩
      rintro e w2 ⟨rfl, q, rfl⟩
      exact ⟨rfl, Lib.hid (.inr ⟨b, p, rb, gi, gp, ci, cp, S, f, g, m, rfl, rfl, h3.below (Below.drewN' q (Below.refl _ _))⟩)⟩

theorem len2 (h : Two K w0 W v r) : ∃ n : Nat, (Calls Try.prog 67 #[.pointer v] W fun e w1 => e = .returned (.int .i64 n) ∧ w1 = W) ∧ (Calls Try.prog 160 #[.pointer r] W fun e2 w2 => e2 = .returned (.int .i64 n) ∧ w2 = W) := by
  rcases h with ⟨rfl, rfl, h3⟩ | ⟨b, p, rb, gi, gp, ci, cp, S, f, g, m, rfl, rfl, h3⟩
  · exact ⟨0, lenNL (badNilL W) W (Below.refl _ _), rlenN W⟩
  · exact ⟨_, lenL h3.q, rlen h3.r h3.rm⟩

theorem copy2 (h : Two K w0 W v r) :
    Calls Try.prog 59 #[.pointer v] W fun e w1 => ∃ v', e = .returned (.pointer v') ∧ Hid (Calls Try.prog 60 #[.pointer r] w1 fun e2 w2 => ∃ r', e2 = .returned (.pointer r') ∧ Hid (Two K w0 w2 v' r')) := by
  rcases h with ⟨rfl, rfl, h3⟩ | ⟨b, p, rb, gi, gp, ci, cp, S, f, g, m, rfl, rfl, h3⟩
  · have hc : Calls Try.prog 59 #[.pointer none] W fun e w' => e = .returned (.pointer none) ∧ w' = W := by
      have hv := badNilL W W (Below.refl _ _)
      go_enter Try.func59, Try.ntmps59
      go_wp2_with fail
      refine hv.mono ?_
      rintro e w' ⟨rfl, rfl⟩
      go_wp2_with fail
      go_ret
      exact ⟨rfl, rfl⟩
    refine hc.mono ?_
    rintro e w1 ⟨rfl, rfl⟩
    refine ⟨none, rfl, Lib.hid ((rcopyN w1).mono ?_)⟩
    rintro e w2 ⟨rfl, rfl⟩
    exact ⟨none, rfl, Lib.hid (.inl ⟨rfl, rfl, h3⟩)⟩
  · refine (copyL h3.q).mono ?_
    rintro e w1 ⟨c, p', rfl, h4, h5, h6, h7⟩
    have h8 := h3.below h5
    refine ⟨_, rfl, Lib.hid ((rcopy h8.r).mono ?_)⟩
    rintro e w2 ⟨rb', gi', gp', ci', cp', rfl, k1, k2, k3, k4, k5⟩
    have hs := h8.bel.size
    have hs3 := h3.bel.size
    have hc := h4.lt
    refine ⟨_, rfl, Lib.hid (.inr ⟨c, p', rb', gi', gp', ci', cp', S, f, g, m, rfl, rfl, h4.below k2, k1, h8.rm, ⟨by omega, by omega, by omega⟩, fun a ha => ?_, ⟨h3.bel.fresh h6, h8.bel.fresh k3, h8.bel.fresh k4, h8.bel.fresh k5⟩, h8.bel.trans k2⟩)⟩
    have := h7 a ha
    have := (h4.own ha).2.1
    exact ⟨by omega, by omega, by omega, h3.bel.fresh (h7 a ha)⟩
end
end Go.Proofs.Ytpnhklehpilopaa

namespace Go.Proofs.Ytpnhklehpilopaa
open Go Go.RowKit

section
variable {K : Nat → Prop} {w0 W : World} {v r : Option Addr}

set_option maxHeartbeats 1600000 in
set_option maxRecDepth 100000 in
theorem alike2 (h : Two K w0 W v r) (id : Int) :
    Calls Try.prog 61 #[.pointer v, .pointer r, .int .i64 id] W fun e w' => e = .returned (.bool true) ∧ Hid (Two K w0 w' v r) := by
  have hp := peek2 h
  clear h
  go_enter Try.func61, Try.ntmps61
  go_wp2_with fail
  refine hp.mono ?_
  rintro e w1 ⟨i, n, o, rfl, h1⟩
  have h1' := h1.out
  clear hp h1
  go_wp2_with fail
  refine h1'.mono ?_
  rintro e w2 ⟨rfl, h2⟩
  have hq := priority2 h2.out id
  clear h1' h2
  go_wp2_with fail
  refine hq.mono ?_
  rintro e w3 ⟨y, s, rfl, h3⟩
  have h3' := h3.out
  clear hq h3
  go_wp2_with fail
  refine h3'.mono ?_
  rintro e w4 ⟨rfl, h4⟩
  obtain ⟨c, l1, l2⟩ := len2 h4.out
  have hii : (i == i) = true := by simp
  have hnn : (n == n) = true := by simp
  have hyy : (y == y) = true := by simp
  have hoo : (o == o) = true := by simp
  have hss : (s == s) = true := by simp
  clear h3'
  go_wp2_with fail
  refine l1.mono ?_
  rintro e w5 ⟨rfl, rfl⟩
  go_wp2_with fail
  refine l2.mono ?_
  rintro e w6 ⟨rfl, rfl⟩
  go_wp2_with fail
  go_ret
  exact ⟨rfl, h4⟩
end
end Go.Proofs.Ytpnhklehpilopaa

namespace Go.Proofs.Ytpnhklehpilopaa
open Go Go.RowKit

attribute [local go_sem] Oper.semAt_some

/-- The steps that the law is given. -/
def StepsAt (w : World) (a : Option Addr) (xs : List (Int × Int × Int)) : Prop :=
  ∀ j x, xs[j]? = some x → ∃ g o, a = some ⟨g, o, none⟩ ∧ g < w.heap.size ∧ w.cell? ⟨g, o + j * 3, none⟩ = some (.int .i64 x.1) ∧ w.cell? ⟨g, o + j * 3 + 1, none⟩ = some (.int .i64 x.2.1) ∧ w.cell? ⟨g, o + j * 3 + 2, none⟩ = some (.int .i64 x.2.2)

/-- A pointer compared with nil. -/
theorem run_eql_ptr_nil {P : Program} (w : World) {tp te : TypeId} (hp : P.underlying tp = some (.pointer te)) (hte : (P.info? te).isSome = true) (p : Option Addr) :
    (binOp .eql tp (.pointer p) (.pointer none)).run P w = .ok (.bool p.isNone) w := by
  obtain ⟨j, hj⟩ := Option.isSome_iff_exists.1 hte
  have h : ∀ d : Nat, (Op.equalIn (d + 1) tp (.pointer p) (.pointer none)).run P w = .ok p.isNone w := fun d => by
    cases p <;> by_cases hz : j.size = 0 <;> simp [Op.equalIn, run_underlying hp, sizeOf, typeInfo, hj, hz]
  simp only [binOp]
  simp [Op.equal, Op.maxDepth, h 9999]

/-- New of both. -/
theorem new2 (w0 : World) (K : Nat → Prop) (size : Int) (hsz : ¬ (40 < size ∧ size ≤ 1024)) (W : World) (hk : Kept K w0 W) :
    Calls Try.prog 49 #[.int .i64 size] W fun e w1 => ∃ (v : Option Addr) (n : Int), e = .returned (.tuple #[.pointer v, .int .i64 n]) ∧ Hid (Calls Try.prog 50 #[.int .i64 size] w1 fun e2 w2 => ∃ r : Option Addr, e2 = .returned (.tuple #[.pointer r, .int .i64 n]) ∧ Hid (Two K w0 w2 v r) ∧ ((v = none ∧ r = none) ∨ (∃ b, v = some ⟨b, 0, none⟩) ∧ ∃ b, r = some ⟨b, 0, none⟩)) := by
  by_cases hbad : size < 1 ∨ 1024 < size
  · refine (newBadL size hbad W).mono ?_
    rintro e w1 ⟨rfl, rfl⟩
    refine ⟨none, 2, rfl, Lib.hid ((rnewBad size hbad w1).mono ?_)⟩
    rintro e w2 ⟨rfl, rfl⟩
    exact ⟨none, rfl, Lib.hid (.inl ⟨rfl, rfl, hk⟩), .inl ⟨rfl, rfl⟩⟩
  · obtain ⟨S, rfl⟩ : ∃ S : Nat, size = S := ⟨size.toNat, by omega⟩
    refine (newL S (by omega) (by omega) W).mono ?_
    rintro e w1 ⟨rfl, h1, h2, h3⟩
    have hk1 := hk.trans h2
    refine ⟨_, 0, rfl, Lib.hid ((rnew S (by omega) (by omega) w1).mono ?_)⟩
    rintro e w2 ⟨rb, gi, gp, rfl, h4, h5, h6, h7, h8⟩
    have hb : W.heap.size < w1.heap.size := h1.lt
    exact ⟨_, rfl, Lib.hid (.inr ⟨_, none, rb, gi, gp, S, S, S, _, _, _, rfl, rfl, h1.below h5, h4, rm_none S, ⟨by omega, by omega, by omega⟩, (fun a ha => by cases ha), ⟨hk.fresh (Nat.le_refl _), hk1.fresh h6, hk1.fresh h7, hk1.fresh h8⟩, hk1.trans h5⟩), .inr ⟨⟨_, rfl⟩, _, rfl⟩⟩

end Go.Proofs.Ytpnhklehpilopaa

namespace Go.Proofs.Ytpnhklehpilopaa
open Go Go.RowKit

theorem copyNL15 (W : World) : Calls Try.prog 59 #[.pointer none] W fun e w' => e = .returned (.pointer none) ∧ w' = W := by
  have hv := badNilL W W (Below.refl _ _)
  go_enter Try.func59, Try.ntmps59
  go_wp2_with fail
  refine hv.mono ?_
  rintro e w' ⟨rfl, rfl⟩
  go_wp2_with fail
  go_ret
  exact ⟨rfl, rfl⟩

set_option maxHeartbeats 1600000 in
set_option maxRecDepth 100000 in
/-- The iterator over nil yields nothing. -/
theorem allAtN (n : Nat) (hn : 1 ≤ n) (bq : Nat) (w : World) (hq : w.cell? ⟨bq, 0, none⟩ = some (.pointer none)) :
    SeqOwnA Fence.wide n Try.prog 162 #[.pointer (some ⟨bq, 0, none⟩)] encPL (fun pre x => ([] : List (Nat × Int))[pre.length]? = some x) (fun ys => ys = []) (fun pre => pre <+: []) w := fun lr J Jx W hW hJ hJx hY h0 => by
  have hq' := (hW.cell (World.block_lt_of_cell? _ _ hq)).trans hq
  have hcp := copyNL15 W
  have hpp := popNL (badNilL W) W (Below.refl _ _)
  have HJ0 : Hid (∀ A, Below W.heap.size W A → J A.heap.size [] A ∧ W.heap.size ≤ A.heap.size) := fun A hA => ⟨h0 A hA, hA.size⟩
  clear hY hJx hJ hq hW h0
  refine callsIn_of_wp Try.func162 rfl trivial ?_ rfl
  simp only [Try.ntmps162, List.size_toArray, List.length_cons, List.length_nil, Nat.reduceAdd, Nat.reduceSub, Array.replicate_succ, Array.replicate_zero, List.push_toArray, List.append_toArray, List.nil_append, List.cons_append]
  gi_wp2_with fail
  refine ⟨trivial, (callsIn_wide.2 hcp).mono ?_⟩
  rintro e W1 ⟨rfl, rfl⟩
  gi_wp2_with fail
  refine ⟨trivial, (callsIn_wide.2 hpp).mono ?_⟩
  rintro e W2 ⟨rfl, hb2⟩
  have HJ2 := Lib.hid (HJ0.out W2 hb2)
  clear hpp hcp hb2 HJ0
  gi_wp2_with fail
  gi_loopw [6] (fun s wr => s = .bool false ∧ Hid (∃ hi, J hi [] wr ∧ W1.heap.size ≤ hi)) (fun _ _ => 0)
  case atStart => exact ⟨rfl, _, HJ2.out.1, HJ2.out.2⟩
  case round =>
    obtain ⟨rfl, hj⟩ := hrel
    gi_wp2
    go_end0
    obtain ⟨hi, h1, h2⟩ := hj.out
    exact ⟨⟨_, rfl⟩, hi, h2, .inl ⟨[], rfl, h1⟩⟩

/-- All of the document's queue, and what the program's then yields. -/
theorem all2 {K : Nat → Prop} {w0 W : World} {v r : Option Addr} (h : Two K w0 W v r) :
    Calls Try.prog 62 #[.pointer r] W fun e w' => ∃ (v1 v2 : Value) (l : List (Nat × Int)), e = .returned (.tuple #[v1, v2]) ∧ Hid (Below W.heap.size W w') ∧ Hid (w'.ownsRow W.heap.size 3 1 v1 l.length (l.map fun x => .int .i64 (x.1 : Nat)) ∧ w'.ownsRow W.heap.size 2 1 v2 l.length (l.map fun x => .int .i64 x.2)) ∧ l.length ≤ 1024 ∧
      Hid (∀ X bq n, Below W.heap.size W X → X.cell? ⟨bq, 0, none⟩ = some (.pointer v) → 3 ≤ n → SeqOwnA Fence.wide n Try.prog 162 #[.pointer (some ⟨bq, 0, none⟩)] encPL (fun pre x => l[pre.length]? = some x) (fun ys => ys = l) (fun pre => pre <+: l) X) := by
  rcases h with ⟨rfl, rfl, h3⟩ | ⟨b, p, rb, gi, gp, ci, cp, S, f, g, m, rfl, rfl, h3⟩
  · refine (rallN W).mono ?_
    rintro e w' ⟨rfl, rfl⟩
    exact ⟨_, _, [], rfl, Lib.hid (Below.refl _ _), Lib.hid ⟨World.ownsRow_nil _ _ _ _, World.ownsRow_nil _ _ _ _⟩, by decide, Lib.hid fun X bq n _ hc hn => allAtN n (by omega) bq X hc⟩
  · obtain ⟨l, hD⟩ := drn_ex ordI S _ m (fun k hk => h3.q.low hk) rfl
    have hlen := hD.len (fun k hk => h3.q.low hk)
    have hcl : l.length ≤ 1024 := by rw [hlen]; exact h3.q.cnt
    refine (rall h3.r h3.rm hD).mono ?_
    rintro e w' ⟨v1, v2, rfl, hb, r1, r2⟩
    exact ⟨v1, v2, l, rfl, Lib.hid hb, Lib.hid ⟨r1, r2⟩, hcl, Lib.hid fun X bq n hX hc hn => allAtL n hn bq hD X hc (h3.q.below hX)⟩
end Go.Proofs.Ytpnhklehpilopaa
