/- An item goes down; an item that was changed finds its place. -/
import Derived.Test.YtbkdcafamdiliaaPqSiftS
namespace Go.Proofs.Ytbkdcafamdiliaa
open Go Go.RowKit

/-- What stands while the item goes down and has come to k. -/
def DnRelS (W wr : World) (base b : Nat) (p : Option Addr) (c S : Nat) (l : List (Nat × ByteArray)) (k : Nat) : Prop := ∃ l' T', SiftS W wr base b p c S l l' T' ∧ HpD (befQ ltS) l' k

/-- What stands while the items below k are looked at, as far as ch; f is the first one. -/
structure ChRelS (W wr : World) (base b : Nat) (p : Option Addr) (c S : Nat) (l l' : List (Nat × ByteArray)) (T' : Nat → Nat) (k f ch : Nat) : Prop where
  sift : SiftS W wr base b p c S l l' T'
  least : ∀ j, 0 < j → (j - 1) / 2 = k → j < ch → Up (befQ ltS) l' j f
  less : f ≠ k → ∃ x y, l'[k]? = some x ∧ l'[f]? = some y ∧ befQ ltS y x = true
  self : Up (befQ ltS) l' k f

set_option maxHeartbeats 3200000 in
set_option maxRecDepth 100000 in
theorem downS {W : World} {base b : Nat} {p : Option Addr} {c S : Nat} {l : List (Nat × ByteArray)} {T : Nat → Nat} (h : QuS W base b p c S l T) (hp : Pl S l T) {i : Nat} (hd : HpD (befQ ltS) l i) (hi : i < l.length) :
    Calls Try.prog 218 #[.pointer (some ⟨b, 0, none⟩), .int .i64 (i : Nat)] W fun e w' => e = .returned (.tuple #[]) ∧ ∃ l' T', SiftS W w' base b p c S l l' T' ∧ Hp (befQ ltS) l' := by
  have HS0 : Hid (DnRelS W W base b p c S l i) := Lib.hid ⟨l, T, ⟨h, hp, fun _ => Iff.rfl, rfl, Touch.of_below (Below.refl _ _)⟩, hd⟩
  have hsm := h.sm
  have hO := befQ_ord ordS
  have HO := Lib.hid hO
  clear h hp hd hO
  go_enter Try.func218, Try.ntmps218
  go_wp2
  go_loopw [1] (fun s wr => ∃ k : Nat, s = .int .i64 k ∧ k < l.length ∧ Hid (DnRelS W wr base b p c S l k)) (fun s _ => l.length - (intOf s).toNat)
  case atStart => exact ⟨i, rfl, hi, HS0⟩
  case round =>
    obtain ⟨k, rfl, hk, HS⟩ := hrel
    obtain ⟨l', T', hS, hD⟩ := HS.out
    have hll := hS.len
    have HC : Hid (ChRelS W wr base b p c S l l' T' k k (2 * k + 1)) := Lib.hid ⟨hS, fun j h0 h1 h2 => by omega, fun h => absurd rfl h, fun u v hu hv => by rw [hu] at hv; cases hv; exact HO.out.irr _⟩
    have HDD := Lib.hid hD
    have HLL := Lib.hid hll
    clear HS hS hD hll
    obtain ⟨w5, hw5⟩ : ∃ w5, w5 = wr := ⟨_, rfl⟩
    subst hw5
    go_wp2
    go_loopw [4, 5] (fun s t wq => ∃ f ch : Nat, s = .int .i64 f ∧ t = .int .i64 ch ∧ 2 * k + 1 ≤ ch ∧ ch ≤ 2 * k + 3 ∧ f < l.length ∧ Hid (f = k ∨ (0 < f ∧ (f - 1) / 2 = k)) ∧ Hid (ChRelS W wq base b p c S l l' T' k f ch)) (fun _ t _ => 2 * k + 3 - (intOf t).toNat)
    case atStart => exact ⟨k, 2 * k + 1, rfl, by go_num, by omega, by omega, hk, Lib.hid (.inl rfl), HC⟩
    case round =>
      obtain ⟨f, ch, rfl, rfl, h1, h2, hf, HF, HR⟩ := hrel
      clear HC
      obtain ⟨hS, hL, hM, hU⟩ := HR.out
      obtain ⟨y, hy⟩ : ∃ y, l'[f]? = some y := ⟨_, List.getElem?_eq_getElem (by rw [hS.len]; exact hf)⟩
      by_cases hin : ch ≤ 2 * k + 2 ∧ ch < l.length
      · obtain ⟨hc2, hcl⟩ := hin
        obtain ⟨x, hx⟩ : ∃ x, l'[ch]? = some x := ⟨_, List.getElem?_eq_getElem (by rw [hS.len]; exact hcl)⟩
        have hbf := beforeS hS.qu hx hy
        have hhp := hS.qu.heap
        rw [HLL.out] at hhp
        cases hlt : befQ ltS x y with
        | true =>
          rw [hlt] at hbf
          have HF2 : Hid (ch = k ∨ (0 < ch ∧ (ch - 1) / 2 = k)) := Lib.hid (.inr ⟨by omega, by omega⟩)
          have HR2 : Hid (∀ w', Below wr.heap.size wr w' → ChRelS W w' base b p c S l l' T' k ch (ch + 1)) := Lib.hid fun w' hb => ⟨hS.below hb, fun j j0 j1 j2 => by
              by_cases hj : j = ch
              · subst hj; exact fun u v hu hv => by rw [hu] at hv; cases hv; exact HO.out.irr _
              · intro u v hu hv
                rw [hx] at hv; cases hv
                exact HO.out.nle (HO.out.asym hlt) (hL j j0 j1 (by omega) u y hu hy), fun _ => by
              by_cases hfk : f = k
              · subst hfk; exact ⟨y, x, hy, hx, hlt⟩
              · obtain ⟨a, b', ha, hb', hab⟩ := hM hfk
                rw [hy] at hb'; cases hb'
                exact ⟨a, x, ha, hx, HO.out.tra _ _ _ hlt hab⟩, fun u v hu hv => by
              rw [hx] at hv; cases hv
              exact HO.out.nle (HO.out.asym hlt) (hU u y hu hy)⟩
          clear hS hL hM hU hx hy hlt HR HF
          go_wp2_with fail
          refine hbf.mono ?_
          rintro e w1 ⟨rfl, hb1⟩
          have HR3 := Lib.hid (HR2.out w1 hb1)
          clear hbf hhp HR2 hb1
          go_wp2_with fail
          go_roundw
          case rel => exact ⟨ch, ch + 1, rfl, by go_num, by omega, by omega, hcl, HF2, HR3⟩
          case measure => simp [intOf]; omega
        | false =>
          rw [hlt] at hbf
          have HR2 : Hid (∀ w', Below wr.heap.size wr w' → ChRelS W w' base b p c S l l' T' k f (ch + 1)) := Lib.hid fun w' hb => ⟨hS.below hb, fun j j0 j1 j2 => by
              by_cases hj : j = ch
              · subst hj; exact fun u v hu hv => by rw [hx] at hu; rw [hy] at hv; cases hu; cases hv; exact hlt
              · exact hL j j0 j1 (by omega), hM, hU⟩
          clear hS hL hM hU hx hy hlt HR
          go_wp2_with fail
          refine hbf.mono ?_
          rintro e w1 ⟨rfl, hb1⟩
          have HR3 := Lib.hid (HR2.out w1 hb1)
          clear hbf hhp HR2 hb1
          go_wp2_with fail
          go_roundw
          case rel => exact ⟨f, ch + 1, rfl, by go_num, by omega, by omega, hf, HF, HR3⟩
          case measure => simp [intOf]; omega
      · have hmin : ∀ j, 0 < j → (j - 1) / 2 = k → Up (befQ ltS) l' j f := fun j j0 j1 u v hu hv => by
          have hjl := (List.getElem?_eq_some_iff.1 hu).1
          rw [HLL.out] at hjl
          exact hL j j0 j1 (by omega) u v hu hv
        have hhp := hS.qu.heap
        rw [HLL.out] at hhp
        by_cases hfk : f = k
        · subst hfk
          have HX : Hid (∃ l' T', SiftS W wr base b p c S l l' T' ∧ Hp (befQ ltS) l') := Lib.hid ⟨l', T', hS, HDD.out.stay hmin⟩
          clear hS hL hM hU hy HR HF hmin
          rcases Nat.lt_or_ge (2 * f + 2) ch with hc | hc
          · have hc' : decide ((ch : Int) ≤ 2 * (f : Int) + 2) = false := decide_eq_false (by omega)
            clear hin
            go_wp2_with fail
            refine bodyPost_ret (results_none rfl _ _ _) rfl ?_
            exact ⟨rfl, HX.out⟩
          · have hc' : decide ((ch : Int) ≤ 2 * (f : Int) + 2) = true := decide_eq_true (by omega)
            have hcl : l.length ≤ ch := by omega
            clear hin
            go_wp2_with fail
            refine bodyPost_ret (results_none rfl _ _ _) rfl ?_
            exact ⟨rfl, HX.out⟩
        · obtain ⟨x, y', hx, hy', hxy⟩ := hM hfk
          rw [hy] at hy'; cases hy'
          have hkf : k < f := by rcases HF.out with h | h <;> omega
          have HN : Hid (HpD (befQ ltS) (swp l' k f) f) := Lib.hid (by
            rcases HF.out with h | h
            · exact absurd h hfk
            · exact HDD.out.down HO.out h.1 h.2 hx hy hxy hmin)
          have hsw := swapSS hS hx hy
          have hne : ((f : Int) == (k : Int)) = false := by simp; omega
          clear hS hL hM hU hy HR HF hmin hx
          rcases Nat.lt_or_ge (2 * k + 2) ch with hc | hc
          all_goals
            first
              | have hc' : decide ((ch : Int) ≤ 2 * (k : Int) + 2) = false := decide_eq_false (by omega)
              | have hc' : decide ((ch : Int) ≤ 2 * (k : Int) + 2) = true := decide_eq_true (by omega)
            have hcl : ch ≤ 2 * k + 2 → l.length ≤ ch := fun _ => by omega
            clear hin
            go_wp2_with fail
            refine hsw.mono ?_
            rintro e w1 ⟨rfl, T2, hS2⟩
            have HS2 : Hid (DnRelS W w1 base b p c S l f) := Lib.hid ⟨_, T2, hS2, HN.out⟩
            clear hS2 hsw hhp
            go_wp2_with fail
            go_roundw
            case rel => exact ⟨f, rfl, hf, HS2⟩
            case measure => simp [intOf]; omega

set_option maxHeartbeats 1600000 in
set_option maxRecDepth 100000 in
theorem settleS {W : World} {base b : Nat} {p : Option Addr} {c S : Nat} {l : List (Nat × ByteArray)} {T : Nat → Nat} (h : QuS W base b p c S l T) (hp : Pl S l T) {i : Nat} (hw : HpW (befQ ltS) l i) (hi : i < l.length) :
    Calls Try.prog 168 #[.pointer (some ⟨b, 0, none⟩), .int .i64 (i : Nat)] W fun e w' => e = .returned (.tuple #[]) ∧ ∃ l' T', SiftS W w' base b p c S l l' T' ∧ Hp (befQ ltS) l' := by
  have hu := upS h hp hw hi
  clear h hp hw
  go_enter Try.func168, Try.ntmps168
  go_wp2_with fail
  refine hu.mono ?_
  rintro e w1 ⟨rfl, l1, T1, hS, hD⟩
  have hdn := downS hS.qu hS.pl hD (by rw [hS.len]; exact hi)
  have HS := Lib.hid hS
  clear hS hD hu
  go_wp2_with fail
  refine hdn.mono ?_
  rintro e w2 ⟨rfl, l2, T2, hS2, hH⟩
  have HX := Lib.hid (And.intro (HS.out.trans hS2) hH)
  clear hS2 hH hdn HS
  go_wp2_with fail
  go_end0
  exact ⟨rfl, l2, T2, HX.out⟩
end Go.Proofs.Ytbkdcafamdiliaa
