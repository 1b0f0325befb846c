/- The document's own Uint (drumlinref01). -/
import Derived.Test.YtcafenmkcjlhgaaDoorRef1
namespace Go.Proofs.YtcafenmkcjlhgaaDoor
open Go Go.RowKit

/-- One byte more, from the most significant one down. -/
theorem val_down (D : List Int) (i : Nat) (h : i < D.length) : val (D.drop i) = val (D.drop (i + 1)) * 256 + D.getD i 0 := by
  rw [List.drop_eq_getElem_cons h]
  have e : D.getD i 0 = D[i] := by simp [List.getD, h]
  rw [e]
  simp only [val]
  omega

theorem val_small (D : List Int) (i : Nat) (hl : D.length ≤ 8) (h1 : 1 ≤ i) (hr : ∀ x ∈ D, 0 ≤ x ∧ x < 256) : 0 ≤ val (D.drop i) ∧ val (D.drop i) < 72057594037927936 := by
  have hb := val_bounds (D.drop i) (fun x hx => hr x (List.mem_of_mem_drop hx))
  have hlen : (D.drop i).length ≤ 7 := by rw [List.length_drop]; omega
  have hp : (256 : Int) ^ (D.drop i).length ≤ 256 ^ 7 := by
    have h2 : ((256 ^ (D.drop i).length : Nat) : Int) ≤ ((256 ^ 7 : Nat) : Int) := Int.ofNat_le.2 (Nat.pow_le_pow_right (by decide) hlen)
    rw [Int.natCast_pow, Int.natCast_pow] at h2
    exact h2
  have e : (256 : Int) ^ 7 = 72057594037927936 := by decide
  omega

set_option maxHeartbeats 1600000 in
theorem rUint_ok (p : Option Addr) (len cap : Nat) (xs : List Int) (at_ m : Nat) (w : World) (hw : isW m = true) (hl : len ≤ maxLen) (hS : Sl w p len cap xs) (ha : at_ + m ≤ len) :
    Calls Tryd.prog 13 #[.slice p len cap, .int .i64 at_, .int .i64 m] w fun e w' =>
      e = .returned (.tuple #[.int .u64 (val ((xs.drop at_).take m)), .int .i64 0]) ∧ w = w' := by
  have hm8 : m ≤ 8 := by rcases isW_cases hw with h | h | h | h <;> omega
  have hm1 : 1 ≤ m := by rcases isW_cases hw with h | h | h | h <;> omega
  obtain ⟨b, o, rfl, hc⟩ := hS.bytes (by omega)
  unfold maxLen at hl
  obtain ⟨D, hD⟩ : ∃ D, D = (xs.drop at_).take m := ⟨_, rfl⟩
  have hDl : D.length = m := by rw [hD, List.length_take, List.length_drop, hS.len]; omega
  have hDr : ∀ x ∈ D, 0 ≤ x ∧ x < 256 := by rw [hD]; exact fun x hx => hS.rng x (List.mem_of_mem_drop (List.mem_of_mem_take hx))
  have hDc : ∀ i, i < m → w.cell? ⟨b, o + (at_ + i), none⟩ = some (.int .u8 (D.getD i 0)) := by
    intro i hi
    rw [hc (at_ + i) (by omega), hD]
    simp [List.getD, hi]
  rw [← hD]
  have HW := Lib.hid hw
  have HDl := Lib.hid hDl
  have HDr := Lib.hid hDr
  have HDc := Lib.hid hDc
  clear hw hc hD hDl hDr hDc hS
  go_enter Tryd.func13, Tryd.ntmps13
  go_wp2_with (go_at_call 28; refine (rwidth_any m _).mono ?_; rw [HW.out]; rintro e w' ⟨rfl, rfl⟩)
  go_loop [8, 9] (fun n i => ∃ k : Nat, k ≤ m ∧ i = .int .i64 ((k : Int) - 1) ∧ n = .int .u64 (val (D.drop k))) (fun _ i => (intOf i + 1).toNat)
  case atStart => exact ⟨m, Nat.le_refl _, rfl, by rw [List.drop_of_length_le (by rw [HDl.out]; exact Nat.le_refl _)]; rfl⟩
  case round =>
    obtain ⟨k, hk, rfl, rfl⟩ := hrel
    by_cases hlt : 1 ≤ k
    · obtain ⟨i, rfl⟩ : ∃ i, k = i + 1 := ⟨k - 1, by omega⟩
      have hcell := HDc.out i (by omega)
      have hdn := val_down D i (by rw [HDl.out]; omega)
      have hsm := val_small D (i + 1) (by rw [HDl.out]; exact hm8) (by omega) HDr.out
      have hyr : 0 ≤ D.getD i 0 ∧ D.getD i 0 < 256 := by
        have : i < D.length := by rw [HDl.out]; omega
        simp only [List.getD_eq_getElem?_getD, List.getElem?_eq_getElem this, Option.getD_some]
        exact HDr.out _ (List.getElem_mem _)
      obtain ⟨y, hy⟩ : ∃ y, y = D.getD i 0 := ⟨_, rfl⟩
      obtain ⟨v, hv⟩ : ∃ v, v = val (D.drop (i + 1)) := ⟨_, rfl⟩
      rw [← hy] at hcell hdn hyr
      rw [← hv] at hdn hsm ⊢
      have e1 : (((i + 1 : Nat) : Int) - 1) = (i : Int) := by omega
      rw [e1]
      have hwr : IntKind.u64.wrap (IntKind.u64.wrap (v * 256) + y) = v * 256 + y := by
        rw [u64_wrap (q := v * 256) (by omega) (by omega), u64_wrap (by omega) (by omega)]
      rw [← hdn] at hwr
      have HWr := Lib.hid hwr
      obtain ⟨hv0, hv1⟩ := hsm
      obtain ⟨hy0, hy1⟩ := hyr
      clear hdn hwr e1 hy hv hv1
      go_wp2
      go_round
      case rel => exact ⟨i, by omega, by go_num, by rw [HWr.out]⟩
      case measure => simp [intOf]
    · have hk0 : k = 0 := by omega
      subst hk0
      go_wp2
      go_ret2
      exact ⟨by simp, rfl⟩

theorem rUint_arg (v : Value) (i m : Int) (w : World) (hw : isW m = false) :
    Calls Tryd.prog 13 #[v, .int .i64 i, .int .i64 m] w fun e w' => e = .returned (.tuple #[.int .u64 0, .int .i64 2]) ∧ w = w' := by
  have HW := Lib.hid hw
  clear hw
  go_enter Tryd.func13, Tryd.ntmps13
  go_wp2_with (go_at_call 28; refine (rwidth_any m _).mono ?_; rw [HW.out]; rintro e w' ⟨rfl, rfl⟩)
  go_ret2
  exact ⟨rfl, rfl⟩

theorem rUint_range (v : Value) (i m : Int) (w : World) (hw : isW m = true) (hi : i < 0) :
    Calls Tryd.prog 13 #[v, .int .i64 i, .int .i64 m] w fun e w' => e = .returned (.tuple #[.int .u64 0, .int .i64 3]) ∧ w = w' := by
  have HW := Lib.hid hw
  clear hw
  go_enter Tryd.func13, Tryd.ntmps13
  go_wp2_with (go_at_call 28; refine (rwidth_any m _).mono ?_; rw [HW.out]; rintro e w' ⟨rfl, rfl⟩)
  go_ret2
  exact ⟨rfl, rfl⟩

theorem rUint_torn (p : Option Addr) (len cap : Nat) (i m : Int) (w : World) (hw : isW m = true) (hl : len ≤ maxLen) (hi : 0 ≤ i) (hi2 : len < i + m) :
    Calls Tryd.prog 13 #[.slice p len cap, .int .i64 i, .int .i64 m] w fun e w' => e = .returned (.tuple #[.int .u64 0, .int .i64 14]) ∧ w = w' := by
  have hm8 : m ≤ 8 := by rcases isW_cases hw with h | h | h | h <;> omega
  have hm1 : 1 ≤ m := by rcases isW_cases hw with h | h | h | h <;> omega
  unfold maxLen at hl
  have HW := Lib.hid hw
  clear hw
  go_enter Tryd.func13, Tryd.ntmps13
  go_wp2_with (go_at_call 28; refine (rwidth_any m _).mono ?_; rw [HW.out]; rintro e w' ⟨rfl, rfl⟩)
  go_ret2
  exact ⟨rfl, rfl⟩
end Go.Proofs.YtcafenmkcjlhgaaDoor
