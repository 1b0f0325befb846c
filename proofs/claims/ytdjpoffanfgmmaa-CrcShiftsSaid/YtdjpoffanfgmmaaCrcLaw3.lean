/- CrcShifts: the walk, over the contracts of package crc. -/
import Derived.Test.YtdjpoffanfgmmaaCrcApi
namespace Go.Proofs.Ytdjpoffanfgmmaa
open Go Go.RowKit

theorem bv_beq (x y : BitVec 32) (v : Bool) (h : (x == y) = v) : ((x.toNat : Int) == (y.toNat : Int)) = v := by
  rw [← h, Bool.eq_iff_iff, beq_iff_eq, beq_iff_eq]
  constructor
  · intro h; exact BitVec.eq_of_toNat_eq (by omega)
  · rintro rfl; rfl

set_option maxHeartbeats 3200000 in
set_option maxRecDepth 100000 in
theorem crcShifts_bv {L : World → Prop} (H : CrcOk L) (a b : BitVec 32) (m n : Int) (w : World) (h : L w) (hm0 : -9223372036854775808 ≤ m) (hm1 : m ≤ 9223372036854775807) (hn0 : -9223372036854775808 ≤ n) (hn1 : n ≤ 9223372036854775807) :
    Calls Try.prog 10 #[.int .u32 (a.toNat : Int), .int .u32 (b.toNat : Int), .int .i64 m, .int .i64 n] w fun e w' => e = .returned (.bool true) ∧ Below w.heap.size w w' := by
  have HH := Lib.hid H
  have HL := Lib.hid h
  clear H h
  obtain ⟨q, hq⟩ : ∃ q, min m n = q := ⟨_, rfl⟩
  by_cases h1n : m < 0
  · skip
    have hqn : q < 0 := by omega
    have HQ := Lib.hid (HH.out.neg a b q _ hqn HL.out)
    go_enter Try.func10, Try.ntmps10
    go_wp2_with fail
    refine HQ.out.mono ?_
    rintro e w1 ⟨rfl, hb1⟩
    have HL1 := Lib.hid (HH.out.below _ _ HL.out hb1)
    have HB1 := Lib.hid hb1
    clear hb1
    go_wp2_with fail
    refine (works2_any HH.out _ HL1.out).mono ?_
    rintro e w5 ⟨rfl, hb5⟩
    go_wp2_with fail
    go_ret
    exact ⟨rfl, below_then HB1.out hb5⟩
  by_cases h2n : n < 0
  · skip
    have hqn : q < 0 := by omega
    have HQ := Lib.hid (HH.out.neg a b q _ hqn HL.out)
    go_enter Try.func10, Try.ntmps10
    go_wp2_with fail
    refine HQ.out.mono ?_
    rintro e w1 ⟨rfl, hb1⟩
    have HL1 := Lib.hid (HH.out.below _ _ HL.out hb1)
    have HB1 := Lib.hid hb1
    clear hb1
    go_wp2_with fail
    refine (works2_any HH.out _ HL1.out).mono ?_
    rintro e w5 ⟨rfl, hb5⟩
    go_wp2_with fail
    go_ret
    exact ⟨rfl, below_then HB1.out hb5⟩
  have h1 : 0 ≤ m := by omega
  have h2 : 0 ≤ n := by omega
  by_cases h3 : 4611686018427387903 < m
  · skip
    have hqn : 0 ≤ q := by omega
    have hqf : ¬ q < 0 := by omega
    obtain ⟨k, hk⟩ := Int.eq_ofNat_of_zero_le hqn
    have HQ := Lib.hid (HH.out.comb a b k _ (by omega) HL.out)
    rw [← hk] at HQ
    clear hk
    go_enter Try.func10, Try.ntmps10
    go_wp2_with fail
    refine HQ.out.mono ?_
    rintro e w1 ⟨rfl, hb1⟩
    have HL1 := Lib.hid (HH.out.below _ _ HL.out hb1)
    have HB1 := Lib.hid hb1
    clear hb1
    go_wp2_with fail
    refine (works2_any HH.out _ HL1.out).mono ?_
    rintro e w5 ⟨rfl, hb5⟩
    go_wp2_with fail
    go_ret
    exact ⟨congrArg (fun v => Ending.returned (Value.bool v)) (show (!decide (q < 0)) = true by simp [hqf]), below_then HB1.out hb5⟩
  by_cases h4 : 4611686018427387903 < n
  · skip
    have hqn : 0 ≤ q := by omega
    have hqf : ¬ q < 0 := by omega
    obtain ⟨k, hk⟩ := Int.eq_ofNat_of_zero_le hqn
    have HQ := Lib.hid (HH.out.comb a b k _ (by omega) HL.out)
    rw [← hk] at HQ
    clear hk
    go_enter Try.func10, Try.ntmps10
    go_wp2_with fail
    refine HQ.out.mono ?_
    rintro e w1 ⟨rfl, hb1⟩
    have HL1 := Lib.hid (HH.out.below _ _ HL.out hb1)
    have HB1 := Lib.hid hb1
    clear hb1
    go_wp2_with fail
    refine (works2_any HH.out _ HL1.out).mono ?_
    rintro e w5 ⟨rfl, hb5⟩
    go_wp2_with fail
    go_ret
    exact ⟨congrArg (fun v => Ending.returned (Value.bool v)) (show (!decide (q < 0)) = true by simp [hqf]), below_then HB1.out hb5⟩
  · skip
    obtain ⟨i, rfl⟩ := Int.eq_ofNat_of_zero_le h1
    obtain ⟨j, rfl⟩ := Int.eq_ofNat_of_zero_le h2
    have hij : (i : Int) + (j : Int) = ((i + j : Nat) : Int) := by omega
    have hi62 : i ≤ 4611686018427387903 := by omega
    have hj62 : j ≤ 4611686018427387903 := by omega
    obtain ⟨v, hv⟩ : ∃ v, (a == b) = v := ⟨_, rfl⟩
    have hab := bv_beq a b v hv
    have huz : (((shf b (i + j)).toNat : Int) == ((shf a (i + j)).toNat : Int)) = v := by
      refine bv_beq _ _ _ ?_
      rw [← hv, Bool.eq_iff_iff, beq_iff_eq, beq_iff_eq]
      constructor
      · intro h; exact (shf_inj _ h).symm
      · rintro rfl; rfl
    have HAb := Lib.hid hab
    have HUz := Lib.hid huz
    have HIj := Lib.hid hij
    clear hq hv hab huz hij
    have HC : Hid (∀ (x : BitVec 32) w', L w' → Calls Try.prog 19 #[.int .u32 (x.toNat : Int), .int .u32 0, .int .i64 ((i : Int) + (j : Int))] w' fun e w'' => e = .returned (.tuple #[.int .u32 ((shf x (i + j)).toNat : Int), .int .i64 0]) ∧ L w'' ∧ Below w'.heap.size w' w'') := by
      intro x w' hL
      rw [HIj.out]
      exact HH.out.combv x 0#32 (i + j) _ 0 _ rfl (by decide) (by omega) hL (by rw [BitVec.xor_zero])
    go_enter Try.func10, Try.ntmps10
    go_wp2_with fail
    refine (HH.out.combv (a) 0#32 (i) _ 0 ((shf a i).toNat : Int) rfl (by decide) (by omega) HL.out (by rw [BitVec.xor_zero])).mono ?_
    rintro e w1 ⟨rfl, hl, hb⟩
    have HL1 := Lib.hid hl
    have HB1 := Lib.hid (hb)
    clear hl hb
    go_wp2_with fail
    refine (HH.out.combv (shf a i) 0#32 (j) _ 0 ((shf a (i + j)).toNat : Int) rfl (by decide) (by omega) HL1.out (by rw [BitVec.xor_zero, shf_add])).mono ?_
    rintro e w2 ⟨rfl, hl, hb⟩
    have HL2 := Lib.hid hl
    have HB2 := Lib.hid (below_then HB1.out hb)
    clear hl hb
    go_wp2_with fail
    refine (HC.out a _ HL2.out).mono ?_
    rintro e w3 ⟨rfl, hl, hb⟩
    have HL3 := Lib.hid hl
    have HB3 := Lib.hid (below_then HB2.out hb)
    clear hl hb
    go_wp2_with fail
    refine (HC.out b _ HL3.out).mono ?_
    rintro e w4 ⟨rfl, hl, hb⟩
    have HL4 := Lib.hid hl
    have HB4 := Lib.hid (below_then HB3.out hb)
    clear hl hb
    have hab := HAb.out
    have huz := HUz.out
    generalize (shf a (i + j)).toNat = za at *
    generalize (shf b (i + j)).toNat = zb at *
    cases v
    all_goals
      go_wp2_with fail
      refine (works2_any HH.out _ HL4.out).mono ?_
      rintro e w5 ⟨rfl, hb5⟩
      go_wp2_with fail
      go_ret
      exact ⟨rfl, below_then HB4.out hb5⟩
end Go.Proofs.Ytdjpoffanfgmmaa
