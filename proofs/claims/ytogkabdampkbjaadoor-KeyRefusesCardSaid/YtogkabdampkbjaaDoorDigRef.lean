/- The document's own digit, Digits (drumlinref01). -/
import Derived.Test.YtogkabdampkbjaaDoorStr
import Derived.LoopTactic
import Derived.OwnWalk
import Derived.Test.YtogkabdampkbjaaDoorMath2
import Derived.Lib.ItoaLen
namespace Go.Proofs.YtogkabdampkbjaaDoor
open Go Go.RowKit

/-- A digit below 16, as a string. -/
def digS (d : Int) : ByteArray := ⟨#[UInt8.ofNat (dgI d).toNat]⟩

theorem digit_any (d : Int) (w : World) (h0 : 0 ≤ d) (h1 : d < 16) :
    Calls Tryd.prog 46 #[.int .i64 d] w fun e w' => e = .returned (.string (digS d)) ∧ w = w' := by
  have h : d = 0 ∨ d = 1 ∨ d = 2 ∨ d = 3 ∨ d = 4 ∨ d = 5 ∨ d = 6 ∨ d = 7 ∨ d = 8 ∨ d = 9 ∨ d = 10 ∨ d = 11 ∨ d = 12 ∨ d = 13 ∨ d = 14 ∨ d = 15 := by omega
  rcases h with rfl | rfl | rfl | rfl | rfl | rfl | rfl | rfl | rfl | rfl | rfl | rfl | rfl | rfl | rfl | rfl
  all_goals
    clear h0 h1
    go_enter Tryd.func46, Tryd.ntmps46
    go_wp2
    go_ret
    exact ⟨rfl, rfl⟩

theorem digS_dec (u : Nat) (h : u < 10) : digS (u : Int) = ⟨#[UInt8.ofNat (48 + u)]⟩ := by
  unfold digS dgI
  rw [if_pos (by omega)]
  rfl

theorem u64_div10 {q : Nat} (h1 : q ≤ 18446744073709551615) : IntKind.u64.wrap ((q : Int) / 10) = ((q / 10 : Nat) : Int) := by
  rw [IntKind.wrap_u64]
  omega

theorem rDigits_any (b : Nat) : ∀ (u : Nat) (w : World), u < 10 ^ b → u < 18446744073709551616 →
    Calls Tryd.prog 34 #[.int .u64 u] w fun e w' => e = .returned (.string ⟨(Lib.decDigits u).toArray⟩) ∧ w = w' := by
  induction b with
  | zero =>
    intro u w hb hu
    have : u = 0 := by simpa using hb
    subst this
    go_enter Tryd.func34, Tryd.ntmps34
    go_wp2_with (go_at_call 46; refine (digit_any 0 _ (by decide) (by decide)).mono ?_; rintro e w' ⟨rfl, rfl⟩)
    go_ret
    exact ⟨by rw [Lib.decDigits_one (by decide)]; rfl, rfl⟩
  | succ b ih =>
    intro u w hb hu
    by_cases h10 : u < 10
    · have hds := digS_dec u h10
      have HDs := Lib.hid hds
      clear hb hu hds ih
      go_enter Tryd.func34, Tryd.ntmps34
      go_wp2_with (go_at_call 46; refine (digit_any u _ (by omega) (by omega)).mono ?_; rintro e w' ⟨rfl, rfl⟩)
      go_ret
      exact ⟨by rw [Lib.decDigits_one h10, ← HDs.out]; rfl, rfl⟩
    · have hq : u / 10 < 10 ^ b := by rw [Nat.pow_succ] at hb; omega
      have hih := ih (u / 10) w hq (by omega)
      have hds := digS_dec (u % 10) (Nat.mod_lt _ (by decide))
      obtain ⟨t, ht⟩ : ∃ t : ByteArray, t = ⟨(Lib.decDigits (u / 10)).toArray⟩ := ⟨_, rfl⟩
      have hts : t.size ≤ 20 := by
        have : t.size = (Lib.decDigits (u / 10)).length := by rw [ht]; rfl
        rw [this, Lib.decDigits_length]
        exact Lib.nDigits_le20 _ (by omega)
      rw [← ht] at hih
      have hd : Lib.decDigits u = Lib.decDigits (u / 10) ++ [UInt8.ofNat (48 + u % 10)] := by
        rw [Lib.decDigits, dif_neg h10]
      have hfin : t ++ digS ((u % 10 : Nat) : Int) = ⟨(Lib.decDigits u).toArray⟩ := by
        rw [hds, hd, ht]
        apply ByteArray.ext
        simp [ByteArray.data_append]
      have hdiv := u64_div10 (q := u) (by omega)
      have hmod : ((u : Int) % 10) = ((u % 10 : Nat) : Int) := by omega
      have hm10 : u % 10 < 10 := Nat.mod_lt _ (by decide)
      generalize hq0 : u / 10 = q at *
      generalize hr0 : u % 10 = r at *
      have HIh := Lib.hid hih
      have HFin := Lib.hid hfin
      have hss : (digS (r : Int)).size ≤ 1 := Nat.le_refl 1
      have hdg := digit_any (r : Int) w (by omega) (by omega)
      generalize digS (r : Int) = ds at *
      have HDg := Lib.hid hdg
      clear hb hu hds ih hq hd hfin hih ht hdg hq0 hr0
      go_enter Tryd.func34, Tryd.ntmps34
      go_wp2_with fail
      refine HIh.out.mono ?_
      rintro e w1 ⟨rfl, rfl⟩
      go_wp2_with fail
      refine HDg.out.mono ?_
      rintro e w1 ⟨rfl, rfl⟩
      go_wp2_with fail
      go_ret
      exact ⟨by rw [← HFin.out]; rfl, rfl⟩

theorem rDigits_c (u : Nat) (w : World) (hu : u < 18446744073709551616) :
    Calls Tryd.prog 34 #[.int .u64 u] w fun e w' => e = .returned (.string ⟨(Lib.decDigits u).toArray⟩) ∧ w = w' :=
  rDigits_any 20 u w (Nat.lt_of_lt_of_le hu (by decide)) hu
end Go.Proofs.YtogkabdampkbjaaDoor
