/- codec.Uint -/
import Derived.Test.YtcafenmkcjlhgaaDoorAppend
namespace Go.Proofs.YtcafenmkcjlhgaaDoor
open Go Go.RowKit

set_option maxHeartbeats 1600000 in
theorem Uint_ok (p : Option Addr) (len cap : Nat) (xs : List Int) (at_ m : Nat) (w : World) (h : WTab w) (hw : isW m = true) (hl : len ≤ maxLen)
    (hx : xs.length = len) (hb : Lib.BytesIn w p len xs) (ha : at_ + m ≤ len) (hr : ∀ x ∈ xs, 0 ≤ x ∧ x < 256) :
    Calls Tryd.prog 12 #[.slice p len cap, .int .i64 at_, .int .i64 m] w fun e w' =>
      e = .returned (.tuple #[.int .u64 (val ((xs.drop at_).take m)), .int .i64 0]) ∧ w = w' := by
  have hm8 : m ≤ 8 := by rcases isW_cases hw with h | h | h | h <;> omega
  have hm1 : 1 ≤ m := by rcases isW_cases hw with h | h | h | h <;> omega
  obtain ⟨b, o, rfl, hc⟩ := hb (by omega)
  unfold maxLen at hl
  have HT := Lib.hid h
  have HW := Lib.hid hw
  have HX := Lib.hid hx
  have HC := Lib.hid hc
  have HR := Lib.hid hr
  clear h hw hx hb hc hr
  go_enter Tryd.func12, Tryd.ntmps12
  go_wp2_with (go_at_call 27; refine (isWidth_any m _ HT.out).mono ?_; rw [HW.out]; rintro e w' ⟨rfl, rfl⟩)
  go_loop [8, 22] (fun n i => ∃ k : Nat, k ≤ m ∧ i = .int .i64 k ∧ n = .int .u64 (val ((xs.drop at_).take k))) (fun _ i => m - (intOf i).toNat)
  case atStart => exact ⟨0, Nat.zero_le _, rfl, rfl⟩
  case round =>
    obtain ⟨k, hk, rfl, rfl⟩ := hrel
    by_cases hlt : k < m
    · have hcell : w.cell? ⟨b, o + (at_ + k), none⟩ = some (.int .u8 (xs.getD (at_ + k) 0)) := HC.out (at_ + k) (by omega)
      obtain ⟨y, hy⟩ : ∃ y, y = xs.getD (at_ + k) 0 := ⟨_, rfl⟩
      rw [← hy] at hcell
      have HY := Lib.hid hy
      clear hy
      have hy0 : 0 ≤ y ∧ y < 256 := by
        rw [HY.out]
        have : at_ + k < xs.length := by rw [HX.out]; omega
        simp only [List.getD_eq_getElem?_getD, List.getElem?_eq_getElem this, Option.getD_some]
        exact HR.out _ (List.getElem_mem _)
      obtain ⟨hy1, hy2⟩ := hy0
      go_wp2
      go_round
      case rel =>
        refine ⟨k + 1, by omega, by go_num, ?_⟩
        rw [HY.out, val_step xs at_ k (by rw [HX.out]; omega) (by omega) HR.out]
      case measure => simp [intOf]; omega
    · have hkm : k = m := by omega
      subst hkm
      go_wp2
      go_ret2
      exact ⟨rfl, rfl⟩

theorem Uint_arg (v : Value) (i m : Int) (w : World) (h : WTab w) (hw : isW m = false) :
    Calls Tryd.prog 12 #[v, .int .i64 i, .int .i64 m] w fun e w' => e = .returned (.tuple #[.int .u64 0, .int .i64 2]) ∧ w = w' := by
  have HT := Lib.hid h
  have HW := Lib.hid hw
  clear h hw
  go_enter Tryd.func12, Tryd.ntmps12
  go_wp2_with (go_at_call 27; refine (isWidth_any m _ HT.out).mono ?_; rw [HW.out]; rintro e w' ⟨rfl, rfl⟩)
  go_ret2
  exact ⟨rfl, rfl⟩

theorem Uint_range (v : Value) (i m : Int) (w : World) (h : WTab w) (hw : isW m = true) (hi : i < 0) :
    Calls Tryd.prog 12 #[v, .int .i64 i, .int .i64 m] w fun e w' => e = .returned (.tuple #[.int .u64 0, .int .i64 3]) ∧ w = w' := by
  have HT := Lib.hid h
  have HW := Lib.hid hw
  clear h hw
  go_enter Tryd.func12, Tryd.ntmps12
  go_wp2_with (go_at_call 27; refine (isWidth_any m _ HT.out).mono ?_; rw [HW.out]; rintro e w' ⟨rfl, rfl⟩)
  go_ret2
  exact ⟨rfl, rfl⟩

theorem Uint_torn (p : Option Addr) (len cap : Nat) (i m : Int) (w : World) (h : WTab w) (hw : isW m = true) (hl : len ≤ maxLen) (hi : 0 ≤ i) (hi2 : len < i + m) :
    Calls Tryd.prog 12 #[.slice p len cap, .int .i64 i, .int .i64 m] w fun e w' => e = .returned (.tuple #[.int .u64 0, .int .i64 14]) ∧ w = w' := by
  have hm8 : m ≤ 8 := by rcases isW_cases hw with h | h | h | h <;> omega
  have hm1 : 1 ≤ m := by rcases isW_cases hw with h | h | h | h <;> omega
  unfold maxLen at hl
  have HT := Lib.hid h
  have HW := Lib.hid hw
  clear h hw
  go_enter Tryd.func12, Tryd.ntmps12
  go_wp2_with (go_at_call 27; refine (isWidth_any m _ HT.out).mono ?_; rw [HW.out]; rintro e w' ⟨rfl, rfl⟩)
  go_ret2
  exact ⟨rfl, rfl⟩
end Go.Proofs.YtcafenmkcjlhgaaDoor
