/- An item goes up, goes down: the heap is a heap again. -/
import Derived.Test.YtbkdcafamdiliaaPqSwpS
import Derived.Test.YtbkdcafamdiliaaPqAbs
namespace Go.Proofs.Ytbkdcafamdiliaa
open Go Go.RowKit

/-- The items have only changed their places. -/
structure SiftS (W wr : World) (base b : Nat) (p : Option Addr) (c S : Nat) (l0 l : List (Nat × ByteArray)) (T : Nat → Nat) : Prop where
  qu : QuS wr base b p c S l T
  pl : Pl S l T
  mem : ∀ x, x ∈ l ↔ x ∈ l0
  len : l.length = l0.length
  tch : Touch b p W wr

theorem SiftS.below {W wr w' : World} {base b : Nat} {p : Option Addr} {c S : Nat} {l0 l : List (Nat × ByteArray)} {T : Nat → Nat} (h : SiftS W wr base b p c S l0 l T) (hb : Below wr.heap.size wr w') : SiftS W w' base b p c S l0 l T :=
  ⟨h.qu.below hb, h.pl, h.mem, h.len, h.tch.trans (Touch.of_below hb)⟩

theorem SiftS.trans {W w1 w2 : World} {base b : Nat} {p : Option Addr} {c S : Nat} {l0 l1 l2 : List (Nat × ByteArray)} {T1 T2 : Nat → Nat} (h : SiftS W w1 base b p c S l0 l1 T1) (k : SiftS w1 w2 base b p c S l1 l2 T2) : SiftS W w2 base b p c S l0 l2 T2 :=
  ⟨k.qu, k.pl, fun x => (k.mem x).trans (h.mem x), k.len.trans h.len, h.tch.trans k.tch⟩

theorem swapSS {W wr : World} {base b : Nat} {p : Option Addr} {c S : Nat} {l0 l : List (Nat × ByteArray)} {T : Nat → Nat} (h : SiftS W wr base b p c S l0 l T) {i j : Nat} {x y : Nat × ByteArray} (hx : l[i]? = some x) (hy : l[j]? = some y) :
    Calls Try.prog 169 #[.pointer (some ⟨b, 0, none⟩), .int .i64 (i : Nat), .int .i64 (j : Nat)] wr fun e w' => e = .returned (.tuple #[]) ∧ ∃ T', SiftS W w' base b p c S l0 (swp l i j) T' := by
  have h2 := h.qu.s2
  refine (swapS h.qu hx hy (by have := (h.pl.fwd i x hx).1; omega) (by have := (h.pl.fwd j y hy).1; omega)).mono ?_
  rintro e w' ⟨rfl, hq, ht⟩
  exact ⟨rfl, _, hq, h.pl.swap hx hy, fun z => (swp_mem z).trans (h.mem z), (swp_len _ _ _).trans h.len, h.tch.trans ht⟩

/-- What stands while the item goes up from i and has come to k. -/
def UpRelS (W wr : World) (base b : Nat) (p : Option Addr) (c S : Nat) (l : List (Nat × ByteArray)) (i k : Nat) : Prop := ∃ l' T', SiftS W wr base b p c S l l' T' ∧ ((k = i ∧ HpW (befQ ltS) l' k) ∨ HpU (befQ ltS) l' k)

set_option maxHeartbeats 1600000 in
set_option maxRecDepth 100000 in
theorem upS {W : World} {base b : Nat} {p : Option Addr} {c S : Nat} {l : List (Nat × ByteArray)} {T : Nat → Nat} (h : QuS W base b p c S l T) (hp : Pl S l T) {i : Nat} (hw : HpW (befQ ltS) l i) (hi : i < l.length) :
    Calls Try.prog 167 #[.pointer (some ⟨b, 0, none⟩), .int .i64 (i : Nat)] W fun e w' => e = .returned (.tuple #[]) ∧ ∃ l' T', SiftS W w' base b p c S l l' T' ∧ HpD (befQ ltS) l' i := by
  have HS0 : Hid (UpRelS W W base b p c S l i i) := Lib.hid ⟨l, T, ⟨h, hp, fun _ => Iff.rfl, rfl, Touch.of_below (Below.refl _ _)⟩, .inl ⟨rfl, hw⟩⟩
  have hsm := h.sm
  have hO := befQ_ord ordS
  have HO := Lib.hid hO
  clear h hp hw hO
  go_enter Try.func167, Try.ntmps167
  go_wp2
  go_loopw [1] (fun s wr => ∃ i' : Nat, s = .int .i64 i' ∧ i' < l.length ∧ Hid (UpRelS W wr base b p c S l i i')) (fun s _ => (intOf s).toNat)
  case atStart => exact ⟨i, rfl, hi, HS0⟩
  case round =>
    obtain ⟨i', rfl, hi', HS⟩ := hrel
    obtain ⟨l', T', hS, hor⟩ := HS.out
    have hW : HpW (befQ ltS) l' i' := by
      rcases hor with ⟨_, h1⟩ | h1
      · exact h1
      · exact h1.wide
    have hil : i' < l'.length := by rw [hS.len]; exact hi'
    obtain ⟨x, hx⟩ : ∃ x, l'[i']? = some x := ⟨_, List.getElem?_eq_getElem hil⟩
    by_cases h0 : 0 < i'
    · obtain ⟨k, hk⟩ : ∃ k, (i' - 1) / 2 = k := ⟨_, rfl⟩
      obtain ⟨y, hy⟩ : ∃ y, l'[k]? = some y := ⟨_, List.getElem?_eq_getElem (by omega)⟩
      have hbf := beforeS hS.qu hx hy
      rw [show ((k : Nat) : Int) = ((i' : Int) - 1) / 2 by omega] at hbf
      have hsw : ∀ w', Below wr.heap.size wr w' → Calls Try.prog 169 #[.pointer (some ⟨b, 0, none⟩), .int .i64 (i' : Nat), .int .i64 (k : Nat)] w' fun e w' => e = .returned (.tuple #[]) ∧ ∃ T', SiftS W w' base b p c S l (swp l' i' k) T' := fun w' hb => swapSS (hS.below hb) hx hy
      rw [show ((k : Nat) : Int) = ((i' : Int) - 1) / 2 by omega] at hsw
      cases hlt : befQ ltS x y with
      | true =>
        rw [hlt] at hbf
        have HU : Hid (HpU (befQ ltS) (swp l' i' k) k) := Lib.hid (by
          have := hW.up HO.out h0 hx (by rw [hk]; exact hy) hlt
          rwa [hk] at this)
        have HSW := Lib.hid hsw
        clear hsw hS hor hW hx hy hlt HS
        have hkl : k < l.length := by omega
        have hki : k < i' := by omega
        have hik : ((i' : Int) - 1) / 2 = (k : Int) := by omega
        have HIK := Lib.hid hik
        clear hik hk
        go_wp2_with fail
        refine hbf.mono ?_
        rintro e w1 ⟨rfl, hb1⟩
        go_wp2_with fail
        refine (HSW.out w1 hb1).mono ?_
        rintro e w2 ⟨rfl, T2, hS2⟩
        have HS2 : Hid (UpRelS W w2 base b p c S l i k) := Lib.hid ⟨_, _, hS2, .inr HU.out⟩
        clear hS2 hbf
        go_wp2_with fail
        go_roundw
        case rel => exact ⟨k, by rw [HIK.out], hkl, HS2⟩
        case measure => simp only [intOf]; have := HIK.out; omega
      | false =>
        rw [hlt] at hbf
        have HD : Hid (HpD (befQ ltS) l' i) := Lib.hid (by
          have hup : 0 < i' → Up (befQ ltS) l' i' ((i' - 1) / 2) := fun _ u v hu hv => by
            rw [hk] at hv
            rw [hx] at hu; rw [hy] at hv; cases hu; cases hv; exact hlt
          rcases hor with ⟨rfl, h1⟩ | h1
          · exact h1.stay hup
          · exact (h1.stay hup).down HO.out i)
        have HSS := Lib.hid hS
        clear hsw hS hor hW hx hy hlt HS hk
        go_wp2_with fail
        refine hbf.mono ?_
        rintro e w1 ⟨rfl, hb1⟩
        go_wp2_with fail
        go_end0
        exact ⟨rfl, l', T', HSS.out.below hb1, HD.out⟩
    · obtain rfl : i' = 0 := by omega
      have HD : Hid (HpD (befQ ltS) l' i) := Lib.hid (by
        rcases hor with ⟨rfl, h1⟩ | h1
        · exact h1.stay (fun h => absurd h h0)
        · exact (h1.stay (fun h => absurd h h0)).down HO.out i)
      have HSS := Lib.hid hS
      clear hS hor hW hx HS hil
      go_wp2_with fail
      go_end0
      exact ⟨rfl, l', T', HSS.out, HD.out⟩
end Go.Proofs.Ytbkdcafamdiliaa
