/- CodecTorn: the walk. -/
import Derived.Test.YtcafenmkcjlhgaaDoorBytesLaw
import Derived.Test.YtcafenmkcjlhgaaDoorFrame
import Derived.Test.YtcafenmkcjlhgaaDoorApi2
namespace Go.Proofs.YtcafenmkcjlhgaaDoor
open Go Go.RowKit

set_option maxHeartbeats 3200000 in
set_option maxRecDepth 100000 in
theorem torn_some (x : Addr) (len cap : Nat) (l : List Int) (k a : Nat) (w : World) (h : Laid w) (hS : Sl w (some x) len cap l) (hmin : min ((len : Nat) : Int) 300 = (k : Int)) (ha1 : a ≤ 65535) :
    Calls Tryd.prog 8 #[.slice (some x) len cap, .int .u16 a] w fun e w' => e = .returned (.bool true) ∧ Below w.heap.size w w' := by
  have hk : k ≤ len ∧ k ≤ 300 := by omega
  have hlc := hS.cap
  have hS2 := hS.take k hk.1
  have HL := Lib.hid h
  have HS := Lib.hid hS2
  obtain ⟨hk1, hk2⟩ := hk
  generalize l.take k = q at *
  have hb1 : Below w.heap.size w (w.alloc (.cells #[.int .i64 1, .int .i64 2, .int .i64 4, .int .i64 8] 3)) := (Below.refl _ _).alloc (Nat.le_refl _) _
  have HC1 : Hid (∀ k, k < 4 → (w.alloc (.cells #[.int .i64 1, .int .i64 2, .int .i64 4, .int .i64 8] 3)).cell? ⟨w.heap.size, k, none⟩ = some (.int .i64 (wAt k : Nat))) := by
    intro k hk
    rw [World.cell?_alloc_new]
    have : k = 0 ∨ k = 1 ∨ k = 2 ∨ k = 3 := by omega
    rcases this with rfl | rfl | rfl | rfl <;> rfl
  have hex : ∃ W1, W1 = w.alloc (.cells #[.int .i64 1, .int .i64 2, .int .i64 4, .int .i64 8] 3) := ⟨_, rfl⟩
  obtain ⟨W1, hW1⟩ := hex
  have HL1 := Lib.hid (HL.out.below hb1)
  have HS1 := Lib.hid (HS.out.below hb1)
  have HB1 := Lib.hid hb1
  rw [← hW1] at HC1 HL1 HS1 HB1
  have HW1 := Lib.hid hW1
  clear h hS hS2 hb1 hW1
  have ha320 : ((a : Int) % 320) = ((a % 320 : Nat) : Int) := by omega
  have hat : a % 320 < 320 := Nat.mod_lt _ (by decide)
  generalize a % 320 = at_ at *
  have HWid := Lib.hid (widths_any w)
  go_enter Tryd.func8, Tryd.ntmps8
  go_wp2_with (go_at_call 26; refine HWid.out.mono ?_; rw [← HW1.out]; rintro e w' ⟨rfl, rfl⟩)
  go_loop [22] (fun i => ∃ j : Nat, j ≤ 4 ∧ i = .int .i64 j) (fun i => 4 - (intOf i).toNat)
  case atStart => exact ⟨0, by omega, rfl⟩
  case round =>
    obtain ⟨j, hj, rfl⟩ := hrel
    by_cases hlt : j < 4
    · have hcell := HC1.out j hlt
      have hm8 : wAt j ≤ 8 := by rcases isW_cases (wAt_isW j) with h | h | h | h <;> omega
      have hm1 : 1 ≤ wAt j := by rcases isW_cases (wAt_isW j) with h | h | h | h <;> omega
      have HW := Lib.hid (wAt_isW j)
      generalize wAt j = m at *
      by_cases ht : k < at_ + m
      · go_wp2_with fail
        refine (Uint_torn _ k _ at_ m _ HL1.out.wt HW.out (by unfold maxLen; omega) (by omega) (by omega)).mono ?_
        rintro e w2 ⟨rfl, rfl⟩
        go_wp2_with fail
        go_round
        case rel => exact ⟨j + 1, by omega, by go_num⟩
        case measure => simp [intOf]; omega
      · have hqq : val ((((q.take (at_ + m)).drop at_)).take m) = val ((q.drop at_).take m) := by
          rw [List.drop_take, List.take_take]
          congr 2
          omega
        have HQ := Lib.hid hqq
        clear hqq
        go_wp2_with fail
        refine (Uint_c at_ m _ _ HL1.out HW.out HS1.out (by unfold maxLen; omega) (by omega) rfl).mono ?_
        rintro e w2 ⟨rfl, rfl⟩
        go_wp2_with fail
        refine (Uint_c at_ m _ _ HL1.out HW.out (HS1.out.take (at_ + m) (by omega)) (by unfold maxLen; omega) (by omega) HQ.out).mono ?_
        rintro e w2 ⟨rfl, rfl⟩
        clear HQ
        go_wp2_with fail
        go_round
        case rel => exact ⟨j + 1, by omega, by go_num⟩
        case measure => simp [intOf]; omega
    · go_wp2_with fail
      refine (works_any _ HL1.out).mono ?_
      rintro e w2 ⟨rfl, hb⟩
      go_wp2_with fail
      go_ret
      exact ⟨rfl, HB1.out.trans (hb.mono HB1.out.size)⟩
set_option maxHeartbeats 3200000 in
set_option maxRecDepth 100000 in
theorem torn_nil (a : Nat) (w : World) (h : Laid w) (ha1 : a ≤ 65535) :
    Calls Tryd.prog 8 #[.slice none 0 0, .int .u16 a] w fun e w' => e = .returned (.bool true) ∧ Below w.heap.size w w' := by
  have hmin0 : min (0 : Int) 300 = 0 := by decide
  have HL := Lib.hid h
  have hb1 : Below w.heap.size w (w.alloc (.cells #[.int .i64 1, .int .i64 2, .int .i64 4, .int .i64 8] 3)) := (Below.refl _ _).alloc (Nat.le_refl _) _
  have HC1 : Hid (∀ k, k < 4 → (w.alloc (.cells #[.int .i64 1, .int .i64 2, .int .i64 4, .int .i64 8] 3)).cell? ⟨w.heap.size, k, none⟩ = some (.int .i64 (wAt k : Nat))) := by
    intro k hk
    rw [World.cell?_alloc_new]
    have : k = 0 ∨ k = 1 ∨ k = 2 ∨ k = 3 := by omega
    rcases this with rfl | rfl | rfl | rfl <;> rfl
  have hex : ∃ W1, W1 = w.alloc (.cells #[.int .i64 1, .int .i64 2, .int .i64 4, .int .i64 8] 3) := ⟨_, rfl⟩
  obtain ⟨W1, hW1⟩ := hex
  have HL1 := Lib.hid (HL.out.below hb1)
  have HB1 := Lib.hid hb1
  rw [← hW1] at HC1 HL1 HB1
  have HW1 := Lib.hid hW1
  clear h hb1 hW1
  have ha320 : ((a : Int) % 320) = ((a % 320 : Nat) : Int) := by omega
  have hat : a % 320 < 320 := Nat.mod_lt _ (by decide)
  generalize a % 320 = at_ at *
  have HWid := Lib.hid (widths_any w)
  go_enter Tryd.func8, Tryd.ntmps8
  go_wp2_with (go_at_call 26; refine HWid.out.mono ?_; rw [← HW1.out]; rintro e w' ⟨rfl, rfl⟩)
  go_loop [22] (fun i => ∃ j : Nat, j ≤ 4 ∧ i = .int .i64 j) (fun i => 4 - (intOf i).toNat)
  case atStart => exact ⟨0, by omega, rfl⟩
  case round =>
    obtain ⟨j, hj, rfl⟩ := hrel
    by_cases hlt : j < 4
    · have hcell := HC1.out j hlt
      have hm8 : wAt j ≤ 8 := by rcases isW_cases (wAt_isW j) with h | h | h | h <;> omega
      have hm1 : 1 ≤ wAt j := by rcases isW_cases (wAt_isW j) with h | h | h | h <;> omega
      have HW := Lib.hid (wAt_isW j)
      generalize wAt j = m at *
      go_wp2_with fail
      refine (Uint_torn _ 0 _ at_ m _ HL1.out.wt HW.out (by unfold maxLen; omega) (by omega) (by omega)).mono ?_
      rintro e w2 ⟨rfl, rfl⟩
      go_wp2_with fail
      go_round
      case rel => exact ⟨j + 1, by omega, by go_num⟩
      case measure => simp [intOf]; omega
    · go_wp2_with fail
      refine (works_any _ HL1.out).mono ?_
      rintro e w2 ⟨rfl, hb⟩
      go_wp2_with fail
      go_ret
      exact ⟨rfl, HB1.out.trans (hb.mono HB1.out.size)⟩

theorem torn_law (b : Option Addr) (len cap : Nat) (zs : List Int) (a : Int) (w : World) (h : Laid w) (w0 : IsRow .u8 w b len cap zs) (w1 : (Lit.int .u16 a).wf = true) :
    Calls Tryd.prog 8 #[.slice b len cap, .int .u16 a] w fun e w' => e = .returned (.bool true) ∧ Below w.heap.size w w' := by
  have hS := isRow_sl w0
  have hb := bounds_u16 w1
  obtain ⟨n, rfl⟩ := Int.eq_ofNat_of_zero_le hb.1
  rcases w0 with ⟨rfl, rfl, rfl, rfl⟩ | ⟨x, rfl, _⟩
  · exact torn_nil n w h (by omega)
  · exact torn_some x len cap _ (min len 300) n w h hS.1 (by omega) (by omega)
end Go.Proofs.YtcafenmkcjlhgaaDoor
