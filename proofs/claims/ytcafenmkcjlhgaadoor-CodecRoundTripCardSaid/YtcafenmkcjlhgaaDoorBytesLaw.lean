/- CodecBytes: the walk. -/
import Derived.Test.YtcafenmkcjlhgaaDoorWorks
import Derived.OpenShut
namespace Go.Proofs.YtcafenmkcjlhgaaDoor
open Go Go.RowKit

/-- The widths by their places. -/
def wAt (k : Nat) : Nat := if k = 0 then 1 else if k = 1 then 2 else if k = 2 then 4 else 8

theorem widths_any (w : World) : Calls Tryd.prog 26 #[] w fun e w' => e = .returned (.slice (some ⟨w.heap.size, 0, none⟩) 4 4) ∧ w.alloc (.cells #[.int .i64 1, .int .i64 2, .int .i64 4, .int .i64 8] 3) = w' := by
  go_enter Tryd.func26, Tryd.ntmps26
  go_wp2
  go_ret
  exact ⟨rfl, rfl⟩

theorem wAt_isW (k : Nat) : isW (wAt k : Nat) = true := by
  unfold wAt; (repeat' split) <;> decide

set_option maxHeartbeats 3200000 in
set_option maxRecDepth 100000 in
theorem bytes_law (n : Int) (w : World) (h : Laid w) (wn : (Lit.int .u64 n).wf = true) :
    Calls Tryd.prog 7 #[.int .u64 n] w fun e w' => e = .returned (.bool true) ∧ Below w.heap.size w w' := by
  have hb := bounds_u64 wn
  have hn0 : 0 ≤ n := hb.1
  have HN := Lib.hid hb.2
  clear hb wn
  have HL := Lib.hid h
  clear h
  have hb1 : Below w.heap.size w (w.alloc (.cells #[.int .i64 1, .int .i64 2, .int .i64 4, .int .i64 8] 3)) := (Below.refl _ _).alloc (Nat.le_refl _) _
  have HB1 := Lib.hid hb1
  have HC1 : Hid (∀ k, k < 4 → (w.alloc (.cells #[.int .i64 1, .int .i64 2, .int .i64 4, .int .i64 8] 3)).cell? ⟨w.heap.size, k, none⟩ = some (.int .i64 (wAt k : Nat))) := by
    intro k hk
    rw [World.cell?_alloc_new]
    have : k = 0 ∨ k = 1 ∨ k = 2 ∨ k = 3 := by omega
    rcases this with rfl | rfl | rfl | rfl <;> rfl
  clear hb1
  go_enter Tryd.func7, Tryd.ntmps7
  go_wp2_with (go_at_call 26; refine (widths_any _).mono ?_; rintro e w' ⟨rfl, rfl⟩)
  go_loopw [12] (fun i wr => ∃ k : Nat, k ≤ 4 ∧ i = .int .i64 k ∧ Hid (Below w.heap.size w wr ∧ w.heap.size + 1 ≤ wr.heap.size ∧ ∀ j, j < 4 → wr.cell? ⟨w.heap.size, j, none⟩ = some (.int .i64 (wAt j : Nat))))
    (fun i _ => 4 - (intOf i).toNat)
  case atStart => exact ⟨0, by omega, rfl, HB1.out, by simp, HC1.out⟩
  case round =>
    obtain ⟨k, hk, rfl, HR⟩ := hrel
    by_cases hlt : k < 4
    · have hcell := HR.out.2.2 k hlt
      have hm8 : wAt k ≤ 8 := by rcases isW_cases (wAt_isW k) with h | h | h | h <;> omega
      have hm1 : 1 ≤ wAt k := by rcases isW_cases (wAt_isW k) with h | h | h | h <;> omega
      have HW := Lib.hid (wAt_isW k)
      generalize hm : wAt k = m at *
      clear hm
      have HLr := Lib.hid (HL.out.below HR.out.1)
      by_cases hf : fitsI n m = true
      · have key : (((m : Nat) : Int) == 8) = true ∨ ((((m : Nat) : Int) == 8) = false ∧ (n / 2 ^ (8 * m) == 0) = true) := by
          rw [fits_pow HW.out] at hf
          cases h8 : (((m : Nat) : Int) == 8)
          · exact Or.inr ⟨rfl, hf⟩
          · exact Or.inl rfl
        rcases key with h8 | ⟨h8, hq⟩
        · have HB := Lib.hid hf
          clear hf
          go_wp2_with fail
          refine (Append_c n m _ HLr.out HW.out HB.out (sl_nil _) (by decide)).mono ?_
          rintro e w1 ⟨p1, n1, c1, rfl, hs1, hb1⟩
          have hn1 : n1 = m := by have := hs1.len; rw [List.nil_append, le_length] at this; omega
          subst hn1
          obtain ⟨b, o, rfl, hc⟩ := hs1.bytes (by omega)
          have HC := Lib.hid hc
          have HBel1 := Lib.hid hb1
          have HL1 := Lib.hid (HLr.out.below hb1)
          have HR1 : Hid (Below w.heap.size w w1 ∧ w.heap.size + 1 ≤ w1.heap.size ∧ ∀ j, j < 4 → w1.cell? ⟨w.heap.size, j, none⟩ = some (.int .i64 (wAt j : Nat))) :=
            ⟨HR.out.1.trans (hb1.mono HR.out.1.size), Nat.le_trans HR.out.2.1 hb1.size, fun j hj => (hb1.cell (p := ⟨w.heap.size, j, none⟩) (by have := HR.out.2.1; show w.heap.size < wr.heap.size; omega)).trans (HR.out.2.2 j hj)⟩
          clear hs1 hc hb1 hcell
          go_wp2_with fail
          refine (Fits_any n n1 _ HL1.out.wt).mono ?_
          rw [HB.out]
          rintro e w2 ⟨rfl, rfl⟩
          go_wp2_with fail
          go_loop [57] (fun i => ∃ j : Nat, j ≤ n1 ∧ i = .int .i64 j) (fun i => n1 - (intOf i).toNat)
          case atStart => exact ⟨0, Nat.zero_le _, rfl⟩
          case round =>
            obtain ⟨j, hj, rfl⟩ := hrel
            by_cases hlj : j < n1
            · have hcj := HC.out j hlj
              have ej : (([] : List Int) ++ le n n1).getD j 0 = n / 2 ^ (8 * j) % 256 := by
                simp [le, List.getD, hlj]
              rw [ej] at hcj
              clear ej
              go_wp2
              go_round
              case rel => exact ⟨j + 1, by omega, by go_num⟩
              case measure => simp [intOf]; omega
            · go_wp2
              go_roundw
              case rel => exact ⟨k + 1, by omega, by go_num, HR1⟩
              case measure => simp [intOf]; omega
        · have HB := Lib.hid hf
          clear hf
          go_wp2_with fail
          refine (Append_c n m _ HLr.out HW.out HB.out (sl_nil _) (by decide)).mono ?_
          rintro e w1 ⟨p1, n1, c1, rfl, hs1, hb1⟩
          have hn1 : n1 = m := by have := hs1.len; rw [List.nil_append, le_length] at this; omega
          subst hn1
          obtain ⟨b, o, rfl, hc⟩ := hs1.bytes (by omega)
          have HC := Lib.hid hc
          have HBel1 := Lib.hid hb1
          have HL1 := Lib.hid (HLr.out.below hb1)
          have HR1 : Hid (Below w.heap.size w w1 ∧ w.heap.size + 1 ≤ w1.heap.size ∧ ∀ j, j < 4 → w1.cell? ⟨w.heap.size, j, none⟩ = some (.int .i64 (wAt j : Nat))) :=
            ⟨HR.out.1.trans (hb1.mono HR.out.1.size), Nat.le_trans HR.out.2.1 hb1.size, fun j hj => (hb1.cell (p := ⟨w.heap.size, j, none⟩) (by have := HR.out.2.1; show w.heap.size < wr.heap.size; omega)).trans (HR.out.2.2 j hj)⟩
          clear hs1 hc hb1 hcell
          go_wp2_with fail
          refine (Fits_any n n1 _ HL1.out.wt).mono ?_
          rw [HB.out]
          rintro e w2 ⟨rfl, rfl⟩
          go_wp2_with fail
          go_loop [57] (fun i => ∃ j : Nat, j ≤ n1 ∧ i = .int .i64 j) (fun i => n1 - (intOf i).toNat)
          case atStart => exact ⟨0, Nat.zero_le _, rfl⟩
          case round =>
            obtain ⟨j, hj, rfl⟩ := hrel
            by_cases hlj : j < n1
            · have hcj := HC.out j hlj
              have ej : (([] : List Int) ++ le n n1).getD j 0 = n / 2 ^ (8 * j) % 256 := by
                simp [le, List.getD, hlj]
              rw [ej] at hcj
              clear ej
              go_wp2
              go_round
              case rel => exact ⟨j + 1, by omega, by go_num⟩
              case measure => simp [intOf]; omega
            · go_wp2
              go_roundw
              case rel => exact ⟨k + 1, by omega, by go_num, HR1⟩
              case measure => simp [intOf]; omega
      · have hf : fitsI n m = false := by simpa using hf
        have h8 : (((m : Nat) : Int) == 8) = false := by
          cases h8 : (((m : Nat) : Int) == 8)
          · rfl
          · have := beq_iff_eq.1 h8
            rw [this, fits_eight hn0 HN.out] at hf
            cases hf
        have hq : (n / 2 ^ (8 * m) == 0) = false := by rw [← fits_pow HW.out]; exact hf
        have HB := Lib.hid hf
        clear hf
        go_wp2_with fail
        refine (Append_over _ n m _ HLr.out.wt HW.out HB.out).mono ?_
        rintro e w2 ⟨rfl, rfl⟩
        go_wp2_with fail
        refine (Fits_any n m _ HLr.out.wt).mono ?_
        rw [HB.out]
        rintro e w2 ⟨rfl, rfl⟩
        go_wp2_with fail
        go_roundw
        case rel => exact ⟨k + 1, by omega, by go_num, HR⟩
        case measure => simp [intOf]; omega
    · have HLr := Lib.hid (HL.out.below HR.out.1)
      go_wp2_with (go_at_call 9; refine (works_any _ HLr.out).mono ?_; rintro e w1 ⟨rfl, hb⟩)
      go_ret
      exact ⟨rfl, HR.out.1.trans (hb.mono HR.out.1.size)⟩
end Go.Proofs.YtcafenmkcjlhgaaDoor
